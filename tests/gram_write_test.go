package tests

import (
	"fmt"
	"slices"
	"strings"
	"testing"

	"loop.example/fretwork/impl"
)

func TestTextsOfExpressions(t *testing.T) {
	a, b, s := quotedPart("a"), classPart('b', 'd'), namePart("s")
	for _, c := range []struct {
		part impl.Part
		want string
	}{
		{a, `"a"`},
		{b, `[b-d]`},
		{s, `s`},
		{classPart('b', 'b'), `[b]`},
		{classPart('a', 'b', 'd', 'd', 'x', 'z'), `[a-bdx-z]`},
		{classPart(0, 255), `[\00-\ff]`},
		{seqPart(), `()`},
		{seqPart(a, b, s), `"a" [b-d] s`},
		{altPart(a, b, s), `"a" | [b-d] | s`},
		{altPart(seqPart(), a, seqPart()), `() | "a" | ()`},
		{seqPart(altPart(a, b), s), `("a" | [b-d]) s`},
		{altPart(seqPart(a, b), s), `"a" [b-d] | s`},
		{altPart(manyPart(a, 0, 1), s), `"a"? | s`},
		{seqPart(manyPart(a, 0, 1), s), `"a"? s`},
		{manyPart(a, 0, -1), `"a"*`},
		{manyPart(b, 0, -1), `[b-d]*`},
		{manyPart(s, 0, -1), `s*`},
		{manyPart(seqPart(), 0, -1), `()*`},
		{manyPart(seqPart(a, s), 0, -1), `("a" s)*`},
		{manyPart(altPart(a, s), 0, -1), `("a" | s)*`},
		{manyPart(altPart(a, seqPart()), 0, -1), `("a" | ())*`},
		{manyPart(manyPart(a, 0, -1), 1, -1), `("a"*)+`},
		{manyPart(manyPart(manyPart(seqPart(), 0, 1), 0, -1), 3, 4), `((()?)*){3,4}`},
		{seqPart(manyPart(altPart(seqPart(altPart(a, s), b), a), 2, -1), a), `(("a" | s) [b-d] | "a"){2,} "a"`},
	} {
		if got := impl.GramWrite(gramOf(c.part)); got != "s = "+c.want+";\n" {
			t.Errorf("%q, not of %q", got, c.want)
		}
		reads(t, "s = "+c.want+";\n", gramOf(c.part))
	}
}

func TestTextsOfRepetitions(t *testing.T) {
	short := map[[2]int]string{{0, -1}: "*", {1, -1}: "+", {0, 1}: "?"}
	for least := 0; least <= impl.GramMaxTimes; least++ {
		for most := -1; most <= impl.GramMaxTimes; most++ {
			if most == 0 || most > 0 && most < least {
				continue
			}
			long := fmt.Sprintf("{%d,%d}", least, most)
			if most == -1 {
				long = fmt.Sprintf("{%d,}", least)
			}
			want := short[[2]int{least, most}]
			if want == "" {
				want = long
			}
			g := gramOf(manyPart(namePart("s"), least, most))
			if got := impl.GramWrite(g); got != "s = s"+want+";\n" {
				t.Errorf("%q, not %q", got, want)
			}
			reads(t, "s=s"+want+";", g)
			reads(t, "s=s"+long+";", g)
		}
	}
}

func TestTextsOfRules(t *testing.T) {
	g := impl.Gram{Rules: []impl.Rule{{Name: "start", Part: seqPart(namePart("b"), namePart("a"))}, {Name: "b", Part: quotedPart(";")}, {Name: "a", Part: quotedPart("=")}}}
	if got := impl.GramWrite(g); got != "start = b a;\nb = \";\";\na = \"=\";\n" {
		t.Errorf("%q", got)
	}
}

// escaped returns a byte in the form that has a backslash.
func escaped(b int) string {
	return fmt.Sprintf(`\%02x`, b)
}

// shown returns a byte as the document says, among the bytes that are escaped at that place.
func shown(b int, special string) string {
	if b < 32 || b > 126 || strings.Contains(special, string(rune(b))) {
		return escaped(b)
	}
	return string([]byte{byte(b)})
}

func TestBytesAreWritten(t *testing.T) {
	for b := range 256 {
		text, want := gramOf(quotedPart(string([]byte{byte(b), 'a', byte(b)}))), shown(b, `\"`)
		if got := impl.GramWrite(text); got != "s = \""+want+"a"+want+"\";\n" {
			t.Errorf("byte %d: %q", b, got)
		}
		class, want := gramOf(classPart(b, b)), shown(b, `\-]^`)
		if got := impl.GramWrite(class); got != "s = ["+want+"];\n" {
			t.Errorf("byte %d: %q", b, got)
		}
		for high := b + 1; high < 256; high++ {
			pair := gramOf(classPart(b, high))
			if got := impl.GramWrite(pair); got != "s = ["+want+"-"+shown(high, `\-]^`)+"];\n" {
				t.Errorf("bytes %d to %d: %q", b, high, got)
			}
		}
	}
}

func TestInvalidGrammarsHaveNoText(t *testing.T) {
	a := quotedPart("a")
	for _, g := range []impl.Gram{
		{},
		gramOf(impl.Part{}),
		gramOf(seqPart(a)),
		gramOf(namePart("x")),
		gramOf(a, manyPart(a, 0, 0)),
		gramOf(a, classPart(5, 6, 7, 8)),
		gramOf(classPart(5, 300)),
		{Rules: []impl.Rule{{Name: "S", Part: a}}},
		{Rules: []impl.Rule{{Name: "s", Part: a}, {Name: "s", Part: a}}},
		manyRules(impl.GramMaxRules + 1),
		crowd(impl.GramMaxParts + 1),
		gramOf(nested(impl.GramMaxDeep + 1)),
	} {
		if got := impl.GramWrite(g); got != "" {
			t.Errorf("%#v has the text %q", g, got)
		}
	}
}

func TestLongTextsAreNotWritten(t *testing.T) {
	for size := impl.GramMaxText - 70; size <= impl.GramMaxText; size++ {
		if got := len(impl.GramWrite(sizedGram(size))); got != size {
			t.Errorf("%d bytes, not %d", got, size)
		}
	}
	for size := impl.GramMaxText + 1; size <= impl.GramMaxText+70; size++ {
		if g := sizedGram(size); !impl.GramOk(g) || impl.GramWrite(g) != "" {
			t.Errorf("%d bytes: %v, %q", size, impl.GramOk(g), impl.GramWrite(g))
		}
	}
	ranges := gramOf(seqPart(slices.Repeat([]impl.Part{everyOther()}, impl.GramMaxParts-1)...))
	if !impl.GramOk(ranges) || impl.GramWrite(ranges) != "" {
		t.Error("a grammar of many ranges")
	}
}

func TestP12GrammarsAreReadBack(t *testing.T) {
	for _, g := range validGrams() {
		text := impl.GramWrite(g)
		if text == "" || len(text) > impl.GramMaxText {
			t.Fatalf("%#v has the text %q", g, text)
		}
		got, ok := impl.GramRead(text)
		if !ok || !sameGram(got, g) {
			t.Fatalf("%#v is read as %#v, %v", g, got, ok)
		}
	}
}

// All bytes, in texts of all lengths and in classes, are read back.
func TestP12BytesAreReadBack(t *testing.T) {
	for low := range 256 {
		for high := low; high < 256; high++ {
			g := gramOf(classPart(low, high))
			reads(t, impl.GramWrite(g), g)
		}
		for length := 1; length <= 20; length++ {
			g := gramOf(quotedPart(strings.Repeat(string([]byte{byte(low), byte(255 - low)}), 10)[:length]))
			reads(t, impl.GramWrite(g), g)
		}
	}
	g := gramOf(everyOther())
	reads(t, impl.GramWrite(g), g)
}
