package tests

import (
	"math"
	"slices"
	"strings"
	"testing"

	"loop.example/fretwork/impl"
)

func TestValidGrammars(t *testing.T) {
	for _, g := range validGrams() {
		if !impl.GramOk(g) {
			t.Fatalf("%#v is not valid", g)
		}
	}
}

func TestRulesOfAGrammar(t *testing.T) {
	a := quotedPart("a")
	for _, g := range []impl.Gram{
		{},
		{Rules: []impl.Rule{}},
		{Rules: []impl.Rule{{}}},
		{Rules: []impl.Rule{{Name: "s"}}},
		{Rules: []impl.Rule{{Name: "", Part: a}}},
		{Rules: []impl.Rule{{Name: "s", Part: a}, {Name: "s", Part: a}}},
		{Rules: []impl.Rule{{Name: "s", Part: a}, {Name: "x", Part: a}, {Name: "s", Part: a}}},
		{Rules: []impl.Rule{{Name: "s", Part: a}, {Name: "x"}}},
		manyRules(impl.GramMaxRules + 1),
	} {
		if impl.GramOk(g) {
			t.Errorf("%#v is valid", g)
		}
	}
}

func TestNamesOfRules(t *testing.T) {
	for _, name := range []string{"a", "z", "az", "rule", "abcdefgh"} {
		if !impl.GramOk(impl.Gram{Rules: []impl.Rule{{Name: name, Part: namePart(name)}}}) {
			t.Errorf("%q is no name", name)
		}
	}
	for _, name := range []string{"", "abcdefghi", "A", "aBc", "a1", "1a", "a b", " a", "a ", "a_b", "`", "{", "é", "a\x00", "\xffa"} {
		if impl.GramOk(impl.Gram{Rules: []impl.Rule{{Name: name, Part: quotedPart("a")}}}) {
			t.Errorf("%q is a name", name)
		}
		if impl.GramOk(gramOf(namePart(name))) {
			t.Errorf("%q names a rule", name)
		}
	}
}

func TestNamesMustExist(t *testing.T) {
	a := quotedPart("a")
	for _, g := range []impl.Gram{
		gramOf(namePart("x")),
		gramOf(a, namePart("y")),
		gramOf(a, seqPart(a, manyPart(altPart(namePart("s"), namePart("y")), 0, 1))),
		gramOf(namePart("")),
	} {
		if impl.GramOk(g) {
			t.Errorf("%#v is valid", g)
		}
	}
	if !impl.GramOk(gramOf(namePart("y"), namePart("s"), namePart("x"))) {
		t.Error("rules may use earlier and later ones")
	}
}

// Each kind has its own fields only.
func TestFieldsOfOtherKinds(t *testing.T) {
	a := quotedPart("a")
	own := map[int][]int{impl.PartText: {0}, impl.PartClass: {1, 2}, impl.PartName: {0}, impl.PartSeq: {3}, impl.PartAlt: {3}, impl.PartMany: {3, 4, 5}}
	for _, p := range []impl.Part{a, classPart('a', 'b'), namePart("s"), seqPart(), seqPart(a, a), altPart(a, a), manyPart(a, 0, 1), manyPart(a, 1, -1)} {
		if !impl.GramOk(gramOf(p)) {
			t.Errorf("%#v is not well formed", p)
		}
		for field := range 6 {
			if slices.Contains(own[p.Kind], field) {
				continue
			}
			for _, number := range []int{1, -1} {
				if q := withField(p, field, number); impl.GramOk(gramOf(q)) || impl.GramOk(gramOf(altPart(a, manyPart(q, 0, 1)))) {
					t.Errorf("%#v is well formed", q)
				}
			}
		}
	}
}

func withField(p impl.Part, field, number int) impl.Part {
	switch field {
	case 0:
		p.Text = "s"
	case 1:
		p.Low = []int{number}
	case 2:
		p.High = []int{number}
	case 3:
		p.Kids = []impl.Part{quotedPart("a")}
	case 4:
		p.Min = number
	case 5:
		p.Max = number
	}
	return p
}

func TestEmptyListsAreAsNil(t *testing.T) {
	p := impl.Part{Kind: impl.PartText, Text: "a", Low: []int{}, High: []int{}, Kids: []impl.Part{}}
	empty := impl.Part{Kind: impl.PartSeq, Low: []int{}, Kids: []impl.Part{}}
	g := gramOf(altPart(p, empty))
	if !impl.GramOk(g) || impl.GramWrite(g) != "s = \"a\" | ();\n" {
		t.Errorf("%v, %q", impl.GramOk(g), impl.GramWrite(g))
	}
}

func TestKindsOfExpressions(t *testing.T) {
	for _, kind := range []int{0, 7, -1, 8, math.MaxInt, math.MinInt} {
		for _, p := range []impl.Part{{}, quotedPart("s"), classPart(1, 2), seqPart(quotedPart("a"), quotedPart("b")), manyPart(quotedPart("a"), 1, 1)} {
			p.Kind = kind
			if impl.GramOk(gramOf(p)) {
				t.Errorf("%#v is well formed", p)
			}
		}
	}
}

func TestLengthsOfTexts(t *testing.T) {
	for length := range 30 {
		for _, b := range []string{"a", "\x00", "\xff"} {
			if impl.GramOk(gramOf(quotedPart(strings.Repeat(b, length)))) != (length >= 1 && length <= 20) {
				t.Errorf("a text of %d bytes", length)
			}
		}
	}
}

func TestRangesOfClasses(t *testing.T) {
	for _, p := range []impl.Part{classPart(0, 0), classPart(255, 255), classPart(0, 255), classPart(0, 0, 2, 2), classPart(5, 6, 8, 9, 11, 255), everyOther()} {
		if !impl.GramOk(gramOf(p)) {
			t.Errorf("%#v is not well formed", p)
		}
	}
	for _, p := range []impl.Part{
		classPart(),
		classPart(-1, 5),
		classPart(5, 256),
		classPart(256, 256),
		classPart(6, 5),
		classPart(5, 6, 7, 8),
		classPart(5, 6, 6, 8),
		classPart(5, 9, 6, 7),
		classPart(5, 5, 5, 5),
		classPart(8, 9, 5, 6),
		classPart(5, 6, 10, 9),
		classPart(math.MinInt, 3),
		classPart(3, math.MaxInt),
		classPart(3, math.MaxInt, math.MinInt, 5),
		{Kind: impl.PartClass, Low: []int{5}},
		{Kind: impl.PartClass, High: []int{5}},
		{Kind: impl.PartClass, Low: []int{5, 8}, High: []int{6}},
		{Kind: impl.PartClass, Low: []int{5}, High: []int{6, 9}},
	} {
		if impl.GramOk(gramOf(p)) {
			t.Errorf("%#v is well formed", p)
		}
	}
}

// everyOther has as many ranges as a class can have.
func everyOther() impl.Part {
	p := classPart()
	for b := 0; b < 256; b += 2 {
		p.Low, p.High = append(p.Low, b), append(p.High, b)
	}
	return p
}

func TestRepetitionCounts(t *testing.T) {
	numbers := []int{math.MinInt, -3, -2, -1, 0, 1, 2, 3, 4, 5, 6, 7, 8, math.MaxInt}
	for _, least := range numbers {
		for _, most := range numbers {
			want := least >= 0 && least <= 6 && (most == -1 || most > 0 && most >= least && most <= 6)
			if impl.GramOk(gramOf(manyPart(quotedPart("a"), least, most))) != want {
				t.Errorf("%d to %d times is not %v", least, most, want)
			}
		}
	}
}

func TestKidsOfExpressions(t *testing.T) {
	a, b := quotedPart("a"), classPart('b', 'b')
	for _, p := range []impl.Part{
		seqPart(a),
		altPart(),
		altPart(a),
		seqPart(seqPart(a, b), b),
		seqPart(a, seqPart()),
		seqPart(a, b, seqPart(a, b)),
		altPart(altPart(a, b), b),
		altPart(a, b, altPart(a, b)),
		{Kind: impl.PartMany, Min: 0, Max: 1},
		{Kind: impl.PartMany, Kids: []impl.Part{a, b}, Min: 0, Max: 1},
		manyPart(impl.Part{}, 0, 1),
		manyPart(seqPart(a), 0, 1),
		seqPart(a, altPart(a)),
		altPart(a, seqPart(a)),
	} {
		if impl.GramOk(gramOf(p)) || impl.GramOk(gramOf(a, manyPart(p, 1, -1))) {
			t.Errorf("%#v is well formed", p)
		}
	}
	for _, p := range []impl.Part{
		seqPart(),
		altPart(seqPart(), seqPart()),
		manyPart(seqPart(), 0, -1),
		manyPart(manyPart(a, 0, 1), 0, 1),
		seqPart(altPart(seqPart(a, b), a), b),
		altPart(a, manyPart(altPart(a, b), 1, 1)),
		seqPart(a, manyPart(seqPart(a, b), 1, 1)),
	} {
		if !impl.GramOk(gramOf(p)) {
			t.Errorf("%#v is not well formed", p)
		}
	}
}

func TestDepthOfExpressions(t *testing.T) {
	for depth := 1; depth <= 20; depth++ {
		for _, p := range []impl.Part{nested(depth), repeated(depth - 1)} {
			for _, g := range []impl.Gram{gramOf(p), gramOf(quotedPart("a"), p)} {
				if impl.GramOk(g) != (depth <= impl.GramMaxDeep) {
					t.Errorf("depth %d: %v", depth, impl.GramOk(g))
				}
			}
		}
	}
}

func TestNumberOfExpressions(t *testing.T) {
	for parts := 4; parts <= 200; parts++ {
		if impl.GramOk(crowd(parts)) != (parts <= impl.GramMaxParts) {
			t.Errorf("%d expressions", parts)
		}
		g := gramOf(quotedPart("a"), altPart(slices.Repeat([]impl.Part{manyPart(quotedPart("a"), 0, 1)}, parts)...))
		if impl.GramOk(g) != (2+2*parts <= impl.GramMaxParts) {
			t.Errorf("%d alternatives of two", parts)
		}
	}
}

// An expression may contain its own list of kids: it is then nested without end.
func TestExpressionsThatContainThemselves(t *testing.T) {
	for _, kinds := range [][2]int{{impl.PartSeq, impl.PartAlt}, {impl.PartAlt, impl.PartMany}, {impl.PartSeq, impl.PartMany}, {impl.PartMany, impl.PartMany}} {
		for _, size := range []int{1, 2, 100, 100000} {
			outer, inner := make([]impl.Part, size), make([]impl.Part, size)
			for i := range size {
				outer[i], inner[i] = ofKind(kinds[0], inner), ofKind(kinds[1], outer)
			}
			for _, p := range []impl.Part{outer[0], inner[0]} {
				if impl.GramOk(gramOf(p)) || impl.GramWrite(gramOf(p)) != "" {
					t.Errorf("kinds %v, %d kids", kinds, size)
				}
			}
		}
	}
}

// ofKind gives a PartMany the first of the kids only, and in the same memory.
func ofKind(kind int, kids []impl.Part) impl.Part {
	if kind == impl.PartMany {
		return impl.Part{Kind: kind, Kids: kids[:1], Max: 1}
	}
	return impl.Part{Kind: kind, Kids: kids}
}
