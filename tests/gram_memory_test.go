package tests

import (
	"slices"
	"strings"
	"testing"
	"unsafe"

	"loop.example/fretwork/impl"
)

// roomyPart returns a copy with capacity beyond all lists, which no call may write to.
func roomyPart(p impl.Part) impl.Part {
	p.Low, p.High = roomy(p.Low), roomy(p.High)
	kids := make([]impl.Part, 0, len(p.Kids)+2)
	for _, kid := range p.Kids {
		kids = append(kids, roomyPart(kid))
	}
	p.Kids = kids
	return p
}

// wholePart returns a copy with all lists up to their capacities.
func wholePart(p impl.Part) impl.Part {
	p.Low, p.High = slices.Clone(p.Low[:cap(p.Low)]), slices.Clone(p.High[:cap(p.High)])
	var kids []impl.Part
	for _, kid := range p.Kids[:cap(p.Kids)] {
		kids = append(kids, wholePart(kid))
	}
	p.Kids = kids
	return p
}

func TestNoCallChangesItsGrammar(t *testing.T) {
	a := quotedPart("a")
	bad := []impl.Gram{gramOf(seqPart(a)), gramOf(a, altPart(a, altPart(a, a))), gramOf(classPart(5, 6, 7, 8), a), gramOf(impl.Part{Kind: 9, Text: "a", Low: []int{1}, High: []int{2}, Kids: []impl.Part{a}, Min: 3, Max: 4})}
	for _, g := range append(bad, fewGrams()...) {
		var rules, before []impl.Rule
		for _, r := range g.Rules {
			p := roomyPart(r.Part)
			rules = append(rules, impl.Rule{Name: r.Name, Part: p})
			before = append(before, impl.Rule{Name: r.Name, Part: wholePart(p)})
		}
		given := impl.Gram{Rules: rules}
		impl.GramOk(given)
		impl.GramWrite(given)
		for i, r := range rules {
			if r.Name != before[i].Name || !samePart(wholePart(r.Part), before[i].Part) {
				t.Fatalf("%#v was changed to %#v", before[i], r)
			}
		}
	}
}

// clearings returns what clears each list of an expression and of what is in it, to its capacity.
func clearings(p *impl.Part) []func() {
	all := []func(){
		func() { clear(p.Low[:cap(p.Low)]) },
		func() { clear(p.High[:cap(p.High)]) },
		func() { clear(p.Kids[:cap(p.Kids)]) },
	}
	for i := range p.Kids {
		all = append(all, clearings(&p.Kids[i])...)
	}
	return all
}

// listCount is the number of lists of a grammar that has one.
func listCount(g impl.Gram) int {
	count := 0
	for i := range g.Rules {
		count += len(clearings(&g.Rules[i].Part))
	}
	return count
}

// Clearing a list changes that list alone, so no two lists of an answer share memory.
func TestReadListsShareNoMemory(t *testing.T) {
	text := `s=("a"|[a-cx])([^b-c]|("b"|x s)|("d" s x|("e")))x*?|(x|(s|[\00]|()))|("f"|"g")s;x=("a" "b" ("c" s))("d"|[xyz]){2,3};`
	want, ok := impl.GramRead(text)
	if !ok {
		t.Fatal("the text is not read")
	}
	want = copyGram(want)
	for list := range listCount(want) {
		changed, _ := impl.GramRead(text)
		other, _ := impl.GramRead(text)
		var all []func()
		for i := range changed.Rules {
			all = append(all, clearings(&changed.Rules[i].Part)...)
		}
		all[list]()
		if !sameGram(other, want) {
			t.Fatalf("list %d is shared by two answers", list)
		}
		if left := differences(changed, want); left > 1 {
			t.Fatalf("list %d shares memory with others: %d differ", list, left)
		}
	}
	first, _ := impl.GramRead(text)
	clear(first.Rules[:cap(first.Rules)])
	reads(t, text, want)
}

// differences counts the lists that differ, without those in a list of kids that differs itself.
func differences(a, b impl.Gram) int {
	count := 0
	for i := range b.Rules {
		count += partDifferences(a.Rules[i].Part, b.Rules[i].Part)
	}
	return count
}

func partDifferences(a, b impl.Part) int {
	count := 0
	if !slices.Equal(a.Low, b.Low) {
		count++
	}
	if !slices.Equal(a.High, b.High) {
		count++
	}
	if len(a.Kids) != len(b.Kids) || slices.ContainsFunc(a.Kids, func(kid impl.Part) bool { return kid.Kind == 0 }) {
		return count + 1
	}
	for i := range b.Kids {
		count += partDifferences(a.Kids[i], b.Kids[i])
	}
	return count
}

// The texts of what is read are new memory, not that of the argument. (Texts of one byte are all the same memory in Go.)
func TestReadTextsAreNewMemory(t *testing.T) {
	text := strings.Clone(`start = "some text" other; other = "x";`)
	g, ok := impl.GramRead(text)
	if !ok {
		t.Fatal("the text is not read")
	}
	from := uintptr(unsafe.Pointer(unsafe.StringData(text)))
	kids := g.Rules[0].Part.Kids
	for _, got := range []string{g.Rules[0].Name, g.Rules[1].Name, kids[0].Text, kids[1].Text} {
		if at := uintptr(unsafe.Pointer(unsafe.StringData(got))); at >= from && at < from+uintptr(len(text)) {
			t.Errorf("%q is in the argument's memory", got)
		}
	}
}

// What a call answers does not depend on the calls before it, nor on a fault in them.
func TestNothingIsKeptOfGrammars(t *testing.T) {
	want := gramOf(altPart(quotedPart("a"), namePart("x")), classPart('b', 'd'))
	for _, other := range []string{"", `s=(((((((`, `s="`, `s=[^`, `x="q";s=x;`, `s="a"{`, `s=((((((((`} {
		impl.GramRead(other)
		reads(t, `s=((((((("a"|x)))))));x=[b-d];`, want)
		if got := impl.GramWrite(want); got != "s = \"a\" | x;\nx = [b-d];\n" {
			t.Fatalf("after %q: %q", other, got)
		}
	}
}
