package tests

import (
	"slices"
	"strings"
	"testing"
	"unsafe"

	"loop.example/fretwork/impl"
)

// roomyJson returns a copy with capacity beyond all lists, which no call may write to.
func roomyJson(j impl.Json) impl.Json {
	names := append(slices.Clone(j.Names), "spare", "zz")
	kids := make([]impl.Json, 0, len(j.Kids)+2)
	for _, kid := range j.Kids {
		kids = append(kids, roomyJson(kid))
	}
	j.Names, j.Kids = names[:len(names)-2], kids
	return j
}

// wholeJson returns a copy with all lists up to their capacities.
func wholeJson(j impl.Json) impl.Json {
	j.Names = slices.Clone(j.Names[:cap(j.Names)])
	var kids []impl.Json
	for _, kid := range j.Kids[:cap(j.Kids)] {
		kids = append(kids, wholeJson(kid))
	}
	j.Kids = kids
	return j
}

func TestNoCallChangesItsValue(t *testing.T) {
	for i, j := range append(mixedJsons(2000), validJsons()...) {
		if i%5 != 0 {
			continue
		}
		given := roomyJson(j)
		before := wholeJson(given)
		impl.JsonOk(given)
		impl.JsonWrite(given)
		if !sameJson(wholeJson(given), before) {
			t.Fatalf("%s was changed to %s", showJson(before), showJson(wholeJson(given)))
		}
	}
}

// jsonClearings returns what clears each list of a value and of what is in it, to its capacity.
func jsonClearings(j *impl.Json) []func() {
	all := []func(){
		func() { clear(j.Names[:cap(j.Names)]) },
		func() { clear(j.Kids[:cap(j.Kids)]) },
	}
	for i := range j.Kids {
		all = append(all, jsonClearings(&j.Kids[i])...)
	}
	return all
}

// jsonDifferences counts the lists that differ, without those in a list of kids that differs itself.
func jsonDifferences(a, b impl.Json) int {
	count := 0
	if !slices.Equal(a.Names, b.Names) {
		count++
	}
	if len(a.Kids) != len(b.Kids) || slices.ContainsFunc(a.Kids, func(kid impl.Json) bool { return kid.Kind == 0 }) {
		return count + 1
	}
	for i := range b.Kids {
		count += jsonDifferences(a.Kids[i], b.Kids[i])
	}
	return count
}

// Clearing a list changes that list alone, so no two lists of an answer share memory.
func TestReadListsOfValuesShareNoMemory(t *testing.T) {
	for _, text := range []string{
		`[[1,2],[1,2],{"a":1,"b":[3,{"c":4}]},{"a":1,"b":[]},[[],{}]]`,
		`{"a":[1,2,3],"b":{"a":[],"c":{"d":1,"e":2}},"c":{"d":1,"e":2},"d":[[1],[1]]}`,
	} {
		want, ok := impl.JsonRead(text)
		if !ok {
			t.Fatalf("%q is not read", text)
		}
		want = copyJson(want)
		for list := range jsonClearings(&want) {
			changed, _ := impl.JsonRead(text)
			other, _ := impl.JsonRead(text)
			jsonClearings(&changed)[list]()
			if !sameJson(other, want) {
				t.Fatalf("list %d of %q is shared by two answers", list, text)
			}
			if left := jsonDifferences(changed, want); left > 1 {
				t.Fatalf("list %d of %q shares memory with others: %d differ", list, text, left)
			}
		}
		isJson(t, want, text)
	}
}

func isWithin(part, whole string) bool {
	from := uintptr(unsafe.Pointer(unsafe.StringData(whole)))
	at := uintptr(unsafe.Pointer(unsafe.StringData(part)))
	return at >= from && at < from+uintptr(len(whole))
}

// The texts and names of what is read are new memory, not that of the argument. (Texts of one byte are all the same memory in Go.)
func TestReadTextsOfValuesAreNewMemory(t *testing.T) {
	for _, text := range []string{`"some text"`, `-1234`, `[12,"text",{"name":"other","more":345}]`} {
		given := strings.Clone(text)
		j, ok := impl.JsonRead(given)
		if !ok {
			t.Fatalf("%q is not read", text)
		}
		for _, part := range partsOf(j) {
			for _, got := range append(slices.Clone(part.Names), part.Text) {
				if got != "" && isWithin(got, given) {
					t.Errorf("%q is in the argument's memory", got)
				}
			}
		}
	}
}

// A number has the text that it is written as, but not its memory.
func TestWrittenTextsAreNewMemory(t *testing.T) {
	for _, text := range []string{"12", "1234567", "-1234567"} {
		given := numJson(strings.Clone(text))
		if got := impl.JsonWrite(given); got != text || isWithin(got, given.Text) {
			t.Errorf("%q is the argument's memory", got)
		}
	}
	j := formJson("name other", textJson("some text"), listJson(textJson("other text")))
	first, second := impl.JsonWrite(j), impl.JsonWrite(j)
	if first != second || unsafe.StringData(first) == unsafe.StringData(second) {
		t.Errorf("%q and %q", first, second)
	}
}

// What a call answers does not depend on the calls before it, nor on what was done with their answers.
func TestNothingIsKeptOfValues(t *testing.T) {
	want := formJson("a b", listJson(numJson("1"), textJson("]")), formJson("a", nullJson()))
	text := `{"a":[1,"]"],"b":{"a":null}}`
	for _, other := range []string{"", "[", `{"a":`, `{"a":[1,"]`, `{"a":1,"a":1}`, "[[[[[[", strings.Repeat("[", 300), `[1,2,3]`, text} {
		if j, ok := impl.JsonRead(other); ok {
			for _, wipe := range jsonClearings(&j) {
				wipe()
			}
		}
		isJson(t, want, text)
	}
	for _, j := range []impl.Json{{}, {Kind: 7}, crowdsOf(60)[0], longsOf(400)[0], wrapped("[[[[[[", nullJson(), true)} {
		isNoJson(t, j)
		isJson(t, want, text)
	}
}
