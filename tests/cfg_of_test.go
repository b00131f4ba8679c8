package tests

import (
	"slices"
	"strings"
	"testing"

	"loop.example/fretwork/impl"
)

func TestProductionsOfGrammars(t *testing.T) {
	for _, c := range []struct{ text, want string }{
		{`s = "abc";`, `1: 0 = 'a' 'b' 'c'`},
		{`s = ();`, `1: 0 =`},
		{`s = s;`, `1: 0 = 0`},
		{`s = x; x = s;`, `2: 0 = 1; 1 = 0`},
		{`s = [a];`, `1: 0 = 'a'`},
		{`s = [a-c];`, `1: 0 = 'a-c'`},
		{`s = [ace-g];`, `1: 0 = 'a'; 0 = 'c'; 0 = 'e-g'`},
		{`s = "ab" "c" s "d";`, `1: 0 = 'a' 'b' 'c' 0 'd'`},
		{`s = [a-c] "x" [ac] "y";`, `2: 0 = 'a-c' 'x' 1 'y'; 1 = 'a'; 1 = 'c'`},
		{`s = "ab" | () | [a-c] | s | "c" s;`, `1: 0 = 'a' 'b'; 0 =; 0 = 'a-c'; 0 = 0; 0 = 'c' 0`},
		{`s = [ac] | [bd];`, `3: 0 = 1; 0 = 2; 1 = 'a'; 1 = 'c'; 2 = 'b'; 2 = 'd'`},
		{`s = ("a" | "b" s) "c";`, `2: 0 = 1 'c'; 1 = 'a'; 1 = 'b' 0`},
		{`s = "a" | ("b" | "c")? | "d"{2,2};`, `5: 0 = 'a'; 0 = 1; 0 = 3; 1 =; 1 = 2; 2 = 'b'; 2 = 'c'; 3 = 4 4; 4 = 'd'`},
		{`s = "ab" x* | x{1,2}; x = [ac] | s;`, `6: 0 = 'a' 'b' 2; 0 = 4; 1 = 5; 1 = 0; 2 = 3; 3 =; 3 = 1 3; 4 = 1; 4 = 1 1; 5 = 'a'; 5 = 'c'`},
		// A nonterminal that is created for a later rule has a greater number than one of an earlier rule, and rules have the first numbers.
		{`s = "a"? y; x = [ab]* [ad]; y = ("b" | "c") x;`, `9: 0 = 3 2; 1 = 5 7; 2 = 8 1; 3 =; 3 = 4; 4 = 'a'; 5 = 6; 6 =; 6 = 'a-b' 6; 7 = 'a'; 7 = 'd'; 8 = 'b'; 8 = 'c'`},
	} {
		if got := showCfg(readCfg(t, c.text)); got != c.want {
			t.Errorf("%s: %s, not %s", c.text, got, c.want)
		}
	}
}

func TestProductionsOfRepetitions(t *testing.T) {
	for _, c := range []struct{ text, want string }{
		{`s = s?;`, `1: 0 =; 0 = 0`},
		{`s = s{1,1};`, `1: 0 = 0`},
		{`s = s{0,3};`, `1: 0 =; 0 = 0; 0 = 0 0; 0 = 0 0 0`},
		{`s = s{2,4};`, `1: 0 = 0 0; 0 = 0 0 0; 0 = 0 0 0 0`},
		{`s = s{6,6};`, `1: 0 = 0 0 0 0 0 0`},
		{`s = s*;`, `2: 0 = 1; 1 =; 1 = 0 1`},
		{`s = s+;`, `2: 0 = 0 1; 1 =; 1 = 0 1`},
		{`s = s{3,};`, `2: 0 = 0 0 0 1; 1 =; 1 = 0 1`},
		{`s = [a-c]+;`, `2: 0 = 'a-c' 1; 1 =; 1 = 'a-c' 1`},
		{`s = [a-c]{1,2};`, `1: 0 = 'a-c'; 0 = 'a-c' 'a-c'`},
		// The kid's nonterminal comes ahead of that of the repetition, also if the kid is a text of one byte.
		{`s = "a"*;`, `3: 0 = 2; 1 = 'a'; 2 =; 2 = 1 2`},
		{`s = "ab"{1,2};`, `2: 0 = 1; 0 = 1 1; 1 = 'a' 'b'`},
		{`s = [ac]+;`, `3: 0 = 1 2; 1 = 'a'; 1 = 'c'; 2 =; 2 = 1 2`},
		{`s = ()*;`, `3: 0 = 2; 1 =; 2 =; 2 = 1 2`},
		{`s = ("a" s)*;`, `3: 0 = 2; 1 = 'a' 0; 2 =; 2 = 1 2`},
		{`s = ("a" | s)?;`, `2: 0 =; 0 = 1; 1 = 'a'; 1 = 0`},
		{`s = (s*)*;`, `4: 0 = 3; 1 = 2; 2 =; 2 = 0 2; 3 =; 3 = 1 3`},
		{`s = ("a"?)+;`, `4: 0 = 1 3; 1 =; 1 = 2; 2 = 'a'; 3 =; 3 = 1 3`},
		{`s = "x" s* [a-b]?;`, `4: 0 = 'x' 1 3; 1 = 2; 2 =; 2 = 0 2; 3 =; 3 = 'a-b'`},
	} {
		if got := showCfg(readCfg(t, c.text)); got != c.want {
			t.Errorf("%s: %s, not %s", c.text, got, c.want)
		}
	}
}

func TestProductionsOfAllBytes(t *testing.T) {
	for b := range 256 {
		text := string([]byte{byte(b), byte(255 - b)})
		c, ok := impl.CfgOf(gramOf(altPart(quotedPart(text), classPart(b, 255))))
		if want := cfgOf(1, prod(0, text), prod(0, rangeSym(b, 255))); !ok || !sameCfg(c, want) {
			t.Errorf("%q: %s, %v", text, showCfg(c), ok)
		}
	}
}

// wideGram has so many nonterminals, at least 200, and no other limit of grammars or productions is exceeded.
func wideGram(heads int) impl.Gram {
	deep := namePart("s")
	for range impl.GramMaxDeep - 2 {
		deep = manyPart(deep, 0, -1)
	}
	// One for the rule, twelve for each of these, two for each of the next.
	kids := slices.Concat(slices.Repeat([]impl.Part{deep}, 16), slices.Repeat([]impl.Part{manyPart(namePart("s"), 0, -1)}, 3))
	for range heads - 199 {
		kids = append(kids, manyPart(namePart("s"), 0, 1))
	}
	return gramOf(altPart(kids...))
}

// classGram has a production for each of so many ranges.
func classGram(ranges int) impl.Gram {
	var parts []impl.Part
	for ranges > 0 {
		size := min(ranges, 128)
		p := everyOther()
		p.Low, p.High = p.Low[:size], p.High[:size]
		parts = append(parts, p)
		ranges -= size
	}
	return gramOf(parts...)
}

// longPart is a sequence with a body of so many symbols, at least two.
func longPart(symbols int) impl.Part {
	var kids []impl.Part
	for ; symbols > 21; symbols -= 20 {
		kids = append(kids, quotedPart(strings.Repeat("a", 20)))
	}
	return seqPart(append(kids, quotedPart(strings.Repeat("b", symbols-1)), classPart(0, 255))...)
}

func TestLimitsOfProductions(t *testing.T) {
	a := quotedPart("a")
	for _, c := range []struct {
		name        string
		fits, great impl.Gram
	}{
		{"nonterminals", wideGram(impl.CfgMaxHeads), wideGram(impl.CfgMaxHeads + 1)},
		{"productions", classGram(impl.CfgMaxProds), classGram(impl.CfgMaxProds + 1)},
		{"symbols", gramOf(longPart(impl.GramMaxParts)), gramOf(longPart(impl.GramMaxParts + 1))},
		{"symbols of an alternative", gramOf(a, altPart(a, longPart(impl.GramMaxParts))), gramOf(a, altPart(a, longPart(impl.GramMaxParts+1)))},
		{"symbols of what is repeated", gramOf(manyPart(longPart(impl.GramMaxParts), 0, 1)), gramOf(manyPart(longPart(impl.GramMaxParts+1), 0, 1))},
	} {
		if !impl.GramOk(c.fits) || !impl.GramOk(c.great) {
			t.Fatalf("%s: the grammars are not valid", c.name)
		}
		if got, ok := impl.CfgOf(c.fits); !ok || !impl.CfgOk(got) {
			t.Errorf("%s: the limit itself fails", c.name)
		}
		if got, ok := impl.CfgOf(c.great); ok || got.Heads != 0 || len(got.Prods) != 0 {
			t.Errorf("%s: more than the limit is %v, with %d nonterminals", c.name, ok, got.Heads)
		}
	}
	if got, _ := impl.CfgOf(wideGram(impl.CfgMaxHeads)); got.Heads != impl.CfgMaxHeads {
		t.Errorf("%d nonterminals", got.Heads)
	}
	if got, _ := impl.CfgOf(classGram(impl.CfgMaxProds)); len(got.Prods) != impl.CfgMaxProds {
		t.Errorf("%d productions", len(got.Prods))
	}
}

func TestInvalidGrammarsHaveNoProductions(t *testing.T) {
	a := quotedPart("a")
	self := make([]impl.Part, 2)
	self[0], self[1] = impl.Part{Kind: impl.PartAlt, Kids: self}, a
	for _, g := range []impl.Gram{
		{},
		{Rules: []impl.Rule{{Name: "S", Part: a}}},
		{Rules: []impl.Rule{{Name: "s", Part: a}, {Name: "s", Part: a}}},
		gramOf(impl.Part{}),
		gramOf(quotedPart("")),
		gramOf(namePart("x")),
		gramOf(a, seqPart(a)),
		gramOf(altPart(a, altPart(a, a))),
		gramOf(classPart()),
		gramOf(classPart(5, 6, 7, 8)),
		gramOf(manyPart(a, 0, 0)),
		gramOf(impl.Part{Kind: impl.PartMany, Max: 1}),
		gramOf(impl.Part{Kind: impl.PartClass, Low: []int{1, 3}, High: []int{1}}),
		gramOf(self[0]),
		gramOf(nested(impl.GramMaxDeep + 1)),
		crowd(impl.GramMaxParts + 1),
		manyRules(impl.GramMaxRules + 1),
	} {
		if c, ok := impl.CfgOf(g); ok || c.Heads != 0 || len(c.Prods) != 0 {
			t.Errorf("CfgOf of %#v is %+v, %v", g, c, ok)
		}
	}
}

func TestP18ProductionsAreValid(t *testing.T) {
	for _, g := range append(validGrams(), wideGram(impl.CfgMaxHeads), classGram(impl.CfgMaxProds)) {
		c, ok := impl.CfgOf(g)
		if !ok {
			// Of these, only the longest texts make too long a body.
			if len(impl.GramWrite(g)) < 1000 {
				t.Fatalf("CfgOf of %#v fails", g)
			}
			continue
		}
		if !impl.CfgOk(c) || c.Heads < len(g.Rules) {
			t.Fatalf("CfgOf of %#v is %+v", g, c)
		}
	}
}

func TestP19AGrammarAndItsTextHaveTheSameProductions(t *testing.T) {
	for _, g := range validGrams() {
		c, ok := impl.CfgOf(g)
		again, fine := impl.CfgOf(readGram(t, impl.GramWrite(g)))
		if ok != fine || !sameCfg(c, again) {
			t.Fatalf("%q: %s, %v and %s, %v", impl.GramWrite(g), showCfg(c), ok, showCfg(again), fine)
		}
	}
}

// renamed returns the grammar with another name for each rule.
func renamed(g impl.Gram, name func(index int) string) impl.Gram {
	names := map[string]string{}
	for i, r := range g.Rules {
		names[r.Name] = name(i)
	}
	out := copyGram(g)
	for i := range out.Rules {
		out.Rules[i].Name = names[out.Rules[i].Name]
		renamePart(&out.Rules[i].Part, names)
	}
	return out
}

func renamePart(p *impl.Part, names map[string]string) {
	if p.Kind == impl.PartName {
		p.Text = names[p.Text]
	}
	for i := range p.Kids {
		renamePart(&p.Kids[i], names)
	}
}

func letters(prefix string) func(int) string {
	return func(index int) string { return prefix + string(rune('a'+index)) }
}

func TestP23NamesOfRulesDoNotMatter(t *testing.T) {
	grams := validGrams()
	for _, text := range append(endlessTexts(), emptyTexts()...) {
		grams = append(grams, readGram(t, text))
	}
	for _, g := range grams {
		c, ok := impl.CfgOf(g)
		for _, name := range []func(int) string{
			letters(""),
			letters("abcdefg"),
			func(index int) string { return string(rune('z' - index)) },
			// The names that there are, in another order.
			func(index int) string { return g.Rules[(index+1)%len(g.Rules)].Name },
		} {
			other, fine := impl.CfgOf(renamed(g, name))
			if ok != fine || !sameCfg(c, other) {
				t.Fatalf("%q renamed: %s, not %s", impl.GramWrite(g), showCfg(other), showCfg(c))
			}
		}
	}
}
