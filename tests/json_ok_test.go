package tests

import (
	"math"
	"slices"
	"strings"
	"testing"

	"loop.example/fretwork/impl"
)

func TestKindsOfValuesThatDoNotExist(t *testing.T) {
	for _, kind := range []int{0, -1, 7, 8, 256 + impl.JsonNull, math.MinInt, math.MaxInt} {
		for _, j := range append(leafJsons(), impl.Json{}, listJson(nullJson()), formJson("a", nullJson())) {
			j.Kind = kind
			isNoJson(t, j)
			isNoJson(t, listJson(j))
			isNoJson(t, formJson("a", j))
			isNoJson(t, listJson(nullJson(), j))
			isNoJson(t, formJson("a b", j, nullJson()))
		}
	}
}

func TestKindsHaveTheirNumbers(t *testing.T) {
	for i, kind := range []int{impl.JsonNull, impl.JsonFlag, impl.JsonNum, impl.JsonText, impl.JsonList, impl.JsonForm} {
		if kind != i+1 {
			t.Errorf("kind %d is %d", i+1, kind)
		}
	}
}

// A field that the kind does not have makes a value invalid, whatever is in it.
func TestFieldsOfOtherKindsOfValues(t *testing.T) {
	fields := []struct {
		name string
		with func(j *impl.Json)
		of   []int
	}{
		{"Flag", func(j *impl.Json) { j.Flag = true }, []int{impl.JsonFlag}},
		{"Text", func(j *impl.Json) { j.Text = "1" }, []int{impl.JsonNum, impl.JsonText}},
		{"Names", func(j *impl.Json) { j.Names = []string{"a"} }, nil},
		{"Kids", func(j *impl.Json) { j.Kids = []impl.Json{nullJson()} }, []int{impl.JsonList}},
		{"Names and Kids", func(j *impl.Json) { j.Names, j.Kids = []string{"a"}, []impl.Json{nullJson()} }, []int{impl.JsonForm}},
	}
	for _, j := range []impl.Json{nullJson(), flagJson(false), numJson("1"), textJson("1"), listJson(), formJson("")} {
		for _, field := range fields {
			changed := j
			field.with(&changed)
			want := slices.Contains(field.of, j.Kind)
			if impl.JsonOk(changed) != want || (impl.JsonWrite(changed) != "") != want {
				t.Errorf("kind %d with %s: %v, %q", j.Kind, field.name, impl.JsonOk(changed), impl.JsonWrite(changed))
			}
			if !want {
				isNoJson(t, listJson(changed))
				isNoJson(t, formJson("a", changed))
			}
		}
	}
	isNoJson(t, impl.Json{Kind: impl.JsonFlag, Flag: true, Text: "true"})
	isNoJson(t, impl.Json{Kind: impl.JsonList, Names: []string{""}})
	isNoJson(t, impl.Json{Kind: impl.JsonList, Names: []string{"a"}, Kids: []impl.Json{nullJson()}})
	isNoJson(t, impl.Json{Kind: impl.JsonForm, Names: []string{"a"}, Kids: []impl.Json{nullJson()}, Flag: true})
	isNoJson(t, impl.Json{Kind: impl.JsonForm, Names: []string{"a"}, Kids: []impl.Json{nullJson()}, Text: "a"})
}

// Lists without elements are equal to none.
func TestValuesWithEmptyLists(t *testing.T) {
	for _, j := range []impl.Json{nullJson(), flagJson(true), numJson("1"), textJson(""), listJson(), formJson("")} {
		want := meantText(j)
		j.Names, j.Kids = nil, nil
		isJson(t, j, want)
		j.Names, j.Kids = []string{}, []impl.Json{}
		isJson(t, j, want)
	}
}

func TestNumbersOfValues(t *testing.T) {
	for _, text := range []string{"0", "1", "9", "-1", "-9", "10", "-10", "100", "90009", "1234567", "-1234567", "9999999", "-9999999", "1000000"} {
		isJson(t, numJson(text), text)
		isJson(t, listJson(numJson(text), numJson(text)), "["+text+","+text+"]")
		isJson(t, formJson("a", numJson(text)), `{"a":`+text+"}")
	}
	for _, text := range []string{"", "-", "-0", "00", "-00", "01", "-01", "007", "12345678", "-12345678", "00000000", "10000000", "+1", "--1", "1-", "1-1", "-1-", " 1", "1 ", "- 1", "1 1", "1\n", "1.0", "1.", ".1", "1e1", "1E1", "0x1", "1a", "a", "1,1", "٣", "1\x00", "\x00", "/", ":", "1:", "null", strings.Repeat("1", 1000), "-" + strings.Repeat("1", 1000)} {
		isNoJson(t, numJson(text))
		isNoJson(t, listJson(numJson(text)))
		isNoJson(t, formJson("a", numJson(text)))
	}
	for _, text := range textsOf("-01a ", 5) {
		if got, want := impl.JsonOk(numJson(text)), numbersMeant.MatchString(text); got != want {
			t.Errorf("the number %q is valid: %v", text, got)
		}
	}
}

func TestDigitsOfNumbers(t *testing.T) {
	for digits := 1; digits <= 12; digits++ {
		for _, digit := range []string{"1", "9"} {
			text := strings.Repeat(digit, digits)
			for _, number := range []string{text, "-" + text} {
				if digits <= 7 {
					isJson(t, numJson(number), number)
				} else {
					isNoJson(t, numJson(number))
					readsNoJson(t, number)
				}
			}
		}
	}
}

func TestBytesOfTextsInValues(t *testing.T) {
	for b := range 256 {
		one := string([]byte{byte(b)})
		for _, text := range []string{one, "a" + one, one + "a", "a" + one + "b", strings.Repeat(one, 20), strings.Repeat("a", 19) + one} {
			if b >= 32 && b <= 126 && b != '"' && b != '\\' {
				isJson(t, textJson(text), `"`+text+`"`)
				continue
			}
			isNoJson(t, textJson(text))
			isNoJson(t, listJson(textJson(text)))
			isNoJson(t, formJson("a", textJson(text)))
			readsNoJson(t, `"`+text+`"`)
		}
	}
	for _, text := range []string{"é", "日本", "\u00a0", "\xff\xfe", "a\"", `a\"b`, `\n`, `\u0041`} {
		isNoJson(t, textJson(text))
		readsNoJson(t, `"`+text+`"`)
	}
}

func TestLengthsOfTextsInValues(t *testing.T) {
	for length := range 40 {
		for _, text := range []string{strings.Repeat("a", length), strings.Repeat("[", length), strings.Repeat(" ", length)} {
			if length <= 20 {
				isJson(t, textJson(text), `"`+text+`"`)
				continue
			}
			isNoJson(t, textJson(text))
			isNoJson(t, listJson(textJson(text)))
			readsNoJson(t, `"`+text+`"`)
			readsNoJson(t, `["`+text+`"]`)
		}
	}
}

func TestTextsWithBytesThatMeanSomethingElsewhere(t *testing.T) {
	for _, text := range trickyTexts() {
		j, quoted := textJson(text), `"`+text+`"`
		isJson(t, j, quoted)
		isJson(t, listJson(j), "["+quoted+"]")
		isJson(t, listJson(j, j, listJson(j)), "["+quoted+","+quoted+",["+quoted+"]]")
		isJson(t, formJson("a", j), `{"a":`+quoted+"}")
		isJson(t, formJson("b a", j, formJson("c", j)), `{"b":`+quoted+`,"a":{"c":`+quoted+"}}")
	}
}

func TestNamesOfMembers(t *testing.T) {
	one := numJson("1")
	for _, name := range []string{"a", "z", "ab", "null", "true", "abcdefgh", "zzzzzzzz"} {
		isJson(t, formJson(name, one), `{"`+name+`":1}`)
	}
	for _, name := range []string{"", " ", "A", "Z", "aA", "a1", "1", "-", "_", "a_b", "a b", " a", "a ", "abcdefghi", "aaaaaaaaa", "é", "a\x00", "a\n", "`", "{", "a`", "{a", "a\"", "\"", "\\", "a:", "a,b", "\xff", strings.Repeat("a", 1000)} {
		for _, j := range []impl.Json{
			{Kind: impl.JsonForm, Names: []string{name}, Kids: []impl.Json{one}},
			{Kind: impl.JsonForm, Names: []string{name, "b"}, Kids: []impl.Json{one, one}},
			{Kind: impl.JsonForm, Names: []string{"b", name}, Kids: []impl.Json{one, one}},
		} {
			isNoJson(t, j)
			isNoJson(t, listJson(j))
			readsNoJson(t, meantText(j))
		}
	}
	for length := range 20 {
		name := strings.Repeat("a", length)
		if got, want := impl.JsonOk(impl.Json{Kind: impl.JsonForm, Names: []string{name}, Kids: []impl.Json{one}}), length >= 1 && length <= 8; got != want {
			t.Errorf("the name %q is valid: %v", name, got)
		}
	}
}

func TestAsManyNamesAsKids(t *testing.T) {
	one := numJson("1")
	for names := range 5 {
		for kids := range 5 {
			j := formJson(manyNames(names), slices.Repeat([]impl.Json{one}, kids)...)
			if got := impl.JsonOk(j); got != (names == kids) || (impl.JsonWrite(j) != "") != got {
				t.Errorf("%d names and %d members: %v, %q", names, kids, got, impl.JsonWrite(j))
			}
			if names != kids {
				isNoJson(t, listJson(j))
				isNoJson(t, formJson("a", j))
			}
		}
	}
	isNoJson(t, formJson(manyNames(1000), one))
	isNoJson(t, formJson(manyNames(1000)))
}

func TestP85NoNameOccursTwice(t *testing.T) {
	one, two := numJson("1"), numJson("2")
	for _, j := range []impl.Json{
		formJson("a a", one, two),
		formJson("a a", one, one),
		formJson("a b a", one, two, one),
		formJson("b a a", one, two, one),
		formJson("a a b", one, two, one),
		formJson("abcdefgh b c abcdefgh", one, two, one, two),
		formJson("a a", formJson("a", one), formJson("b", one)),
		formJson(manyNames(38)+" a", slices.Repeat([]impl.Json{one}, 39)...),
	} {
		isNoJson(t, j)
		readsNoJson(t, meantText(j))
		for _, wraps := range textsOf("[{", 3) {
			isNoJson(t, wrapped(wraps, j, true))
			readsNoJson(t, meantText(wrapped(wraps, j, true)))
		}
	}
	// The same name may be in several objects, and names may begin alike.
	isJson(t, formJson("a b", formJson("a", one), formJson("a b", one, two)), `{"a":{"a":1},"b":{"a":1,"b":2}}`)
	isJson(t, listJson(formJson("a", one), formJson("a", one)), `[{"a":1},{"a":1}]`)
	isJson(t, formJson("a aa ab b", one, one, two, two), `{"a":1,"aa":1,"ab":2,"b":2}`)
	for _, j := range append(validJsons(), mixedJsons(3000)...) {
		if impl.JsonOk(j) && hasNameTwice(j) {
			t.Errorf("%s is valid", showJson(j))
		}
	}
}

func hasNameTwice(j impl.Json) bool {
	for i, name := range j.Names {
		if slices.Contains(j.Names[i+1:], name) {
			return true
		}
	}
	return slices.ContainsFunc(j.Kids, hasNameTwice)
}

func TestP84ValuesAreValidUpToADepth(t *testing.T) {
	seen := map[bool]int{}
	leaves := []impl.Json{nullJson(), numJson("-1"), textJson("]]"), textJson("[[[[[["), listJson(), formJson("")}
	for _, wraps := range textsOf("[{", 7) {
		for _, leaf := range leaves {
			for _, padded := range []bool{false, true} {
				j := wrapped(wraps, leaf, padded)
				want := len(wraps)+1 <= 5
				if depthOf(j) != len(wraps)+1 {
					t.Fatalf("%s has the depth %d", showJson(j), depthOf(j))
				}
				if got := impl.JsonOk(j); got != want {
					t.Errorf("%s of depth %d is valid: %v", showJson(j), depthOf(j), got)
				}
				if got, ok := impl.JsonRead(meantText(j)); ok != want || ok && !sameJson(got, j) {
					t.Errorf("%q of depth %d is read as %s, %v", meantText(j), depthOf(j), showJson(got), ok)
				}
				if !want {
					isNoJson(t, j)
				}
				seen[want]++
			}
		}
	}
	hasSeen(t, seen, 100)
	readsNoJson(t, "[[[[[[]]]]]]")
	isJson(t, listJson(listJson(listJson(listJson(listJson())))), "[[[[[]]]]]")
	isJson(t, formJson("a", formJson("a", formJson("a", formJson("a", formJson(""))))), `{"a":{"a":{"a":{"a":{}}}}}`)
}

// The depth is that of the deepest part, wherever it is.
func TestP84TheDeepestPartCounts(t *testing.T) {
	deep, deeper := wrapped("[[[", nullJson(), false), wrapped("{[{[", nullJson(), false)
	for place := range 4 {
		kids := slices.Repeat([]impl.Json{listJson()}, 4)
		kids[place] = deep
		if !impl.JsonOk(listJson(kids...)) || !impl.JsonOk(formJson("a b c d", kids...)) {
			t.Errorf("with depth 4 at place %d: not valid", place)
		}
		kids[place] = deeper
		isNoJson(t, listJson(kids...))
		isNoJson(t, formJson("a b c d", kids...))
	}
}

func TestManyValues(t *testing.T) {
	for count := 10; count <= 60; count++ {
		for i, j := range crowdsOf(count) {
			if len(partsOf(j)) != count || depthOf(j) > 5 || len(meantText(j)) > 300 && count <= 41 {
				t.Fatalf("shape %d of %d values is %s", i, count, showJson(j))
			}
			if count <= 40 {
				isJson(t, j, meantText(j))
				continue
			}
			isNoJson(t, j)
			readsNoJson(t, meantText(j))
		}
	}
}

func TestLongValues(t *testing.T) {
	for size := 250; size <= 400; size++ {
		for i, j := range longsOf(size) {
			text := meantText(j)
			if len(text) != size || len(partsOf(j)) > 40 || depthOf(j) > 5 {
				t.Fatalf("shape %d has the text %q of %d bytes, not %d", i, text, len(text), size)
			}
			if size <= 300 {
				isJson(t, j, text)
				continue
			}
			isNoJson(t, j)
			readsNoJson(t, text)
		}
	}
}

// A value whose elements are all within the limits, but not together.
func TestLimitsAreForTheWholeValue(t *testing.T) {
	part := listJson(slices.Repeat([]impl.Json{numJson("1")}, 19)...)
	isNoJson(t, listJson(part, part))
	isJson(t, listJson(part, listJson(part.Kids[1:]...)), meantText(listJson(part, listJson(part.Kids[1:]...))))
	long := listJson(slices.Repeat([]impl.Json{textJson(strings.Repeat("x", 20))}, 7)...)
	if !impl.JsonOk(long) || !impl.JsonOk(listJson(long)) {
		t.Error("a list of seven texts is not valid")
	}
	isNoJson(t, listJson(long, long))
	isNoJson(t, formJson("a b", long, long))
}

// Values that are in themselves, and lists that are far too long, end in time.
func TestValuesWithoutEnd(t *testing.T) {
	for _, kind := range []int{impl.JsonList, impl.JsonForm, impl.JsonNull, 7} {
		loop := impl.Json{Kind: kind, Kids: make([]impl.Json, 1)}
		if kind == impl.JsonForm {
			loop.Names = []string{"a"}
		}
		loop.Kids[0] = loop
		if impl.JsonOk(loop) || impl.JsonWrite(loop) != "" {
			t.Errorf("a value of kind %d that is in itself is valid", kind)
		}
	}
	wide := listJson(make([]impl.Json, 39)...)
	for i := range wide.Kids {
		wide.Kids[i] = wide
	}
	many := listJson(slices.Repeat([]impl.Json{nullJson()}, 1000000)...)
	same := impl.Json{Kind: impl.JsonForm, Names: slices.Repeat([]string{"a"}, 1000000), Kids: many.Kids}
	different := impl.Json{Kind: impl.JsonForm, Names: differentNames(1000000), Kids: many.Kids}
	for i, j := range []impl.Json{wide, many, same, different, listJson(many), listJson(different), textJson(strings.Repeat("a", 1000000)), numJson(strings.Repeat("1", 1000000))} {
		if impl.JsonOk(j) || impl.JsonWrite(j) != "" {
			t.Errorf("value %d is valid", i)
		}
	}
}

// differentNames returns names of five letters, which are the figures of their places.
func differentNames(count int) []string {
	var names []string
	for i := range count {
		name := []byte("aaaaa")
		for place := range name {
			name[place] += byte(i % 26)
			i /= 26
		}
		names = append(names, string(name))
	}
	return names
}

func TestP82PartsOfValidValuesAreValid(t *testing.T) {
	for _, j := range append(validJsons(), mixedJsons(3000)...) {
		if !impl.JsonOk(j) {
			continue
		}
		text := impl.JsonWrite(j)
		for _, part := range partsOf(j) {
			if !impl.JsonOk(part) || !strings.Contains(text, impl.JsonWrite(part)) {
				t.Fatalf("%q has the part %s, valid: %v", text, showJson(part), impl.JsonOk(part))
			}
		}
	}
}

// A part that is not valid makes all that it is in invalid.
func TestP82InvalidPartsMakeInvalidValues(t *testing.T) {
	bad := []impl.Json{{}, {Kind: 7}, numJson("-0"), numJson("12345678"), textJson("\n"), textJson(strings.Repeat("a", 21)), {Kind: impl.JsonNull, Flag: true}, formJson("a a", nullJson(), nullJson()), formJson("a"), formJson("", nullJson())}
	for _, part := range bad {
		isNoJson(t, part)
		for _, wraps := range textsOf("[{", 4) {
			isNoJson(t, wrapped(wraps, part, false))
			isNoJson(t, wrapped(wraps, part, true))
		}
		for place := range 39 {
			kids := slices.Repeat([]impl.Json{numJson("1")}, 39)
			kids[place] = part
			isNoJson(t, listJson(kids...))
			isNoJson(t, formJson(manyNames(39), kids...))
		}
	}
}

func TestValuesAreValidAsTheDocumentSays(t *testing.T) {
	seen := map[bool]int{}
	for _, j := range append(mixedJsons(20000), validJsons()...) {
		want := slowJsonOk(j)
		if got := impl.JsonOk(j); got != want {
			t.Fatalf("%s is valid: %v, not %v", showJson(j), got, want)
		}
		if got := impl.JsonWrite(j); want && got != meantText(j) || !want && got != "" {
			t.Fatalf("%s has the text %q; it is valid: %v", showJson(j), got, want)
		}
		seen[want]++
	}
	hasSeen(t, seen, 3000)
}
