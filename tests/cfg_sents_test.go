package tests

import (
	"math"
	"slices"
	"strings"
	"testing"

	"loop.example/fretwork/impl"
)

func TestSentences(t *testing.T) {
	for _, c := range []struct {
		text string
		most int
		want []string
	}{
		{`s = "a" s "b" | ();`, 6, []string{"", "aaabbb", "aabb", "ab"}},
		{`s = "a" s "b" | ();`, 5, []string{"", "aabb", "ab"}},
		{`s = "a" s "b" | ();`, 0, []string{""}},
		{`s = "ab";`, 2, []string{"ab"}},
		{`s = "ab";`, 1, nil},
		{`s = "ab" | "b" | "a" | "aa" | "b" | "ab";`, 20, []string{"a", "aa", "ab", "b"}},
		// Strings are ordered by their bytes, not by their lengths, and as unsigned ones.
		{`s = "\ff" | "\7f" | "\80" | "\00" | "\00\00" | "z";`, 3, []string{"\x00", "\x00\x00", "z", "\x7f", "\x80", "\xff"}},
		{`s = x y; x = "a"?; y = "ab" | "b";`, 3, []string{"aab", "ab", "b"}},
		{`s = "a"{2,4};`, 3, []string{"aa", "aaa"}},
		{`s = [a-c]{1,2} "x";`, 2, []string{"ax", "bx", "cx"}},
		{`s = s s | "a";`, 4, []string{"a", "aa", "aaa", "aaaa"}},
		{`s = y; x = "b" | x s; y = x;`, 3, []string{"b", "bb", "bbb"}},
	} {
		hasSents(t, readCfg(t, c.text), c.most, c.want)
	}
}

func TestSentencesOfExpressionsThatNeverEnd(t *testing.T) {
	for text, want := range map[string][]string{
		`s = s;`:                            nil,
		`s = "a" s;`:                        nil,
		`s = s s;`:                          nil,
		`s = x; x = s;`:                     nil,
		`s = n+; n = "a" n;`:                nil,
		`s = n*; n = "a" n;`:                {""},
		`s = n? "b"; n = n;`:                {"b"},
		`s = n{0,2}; n = n n;`:              {""},
		`s = n{1,2} | "a"; n = n n;`:        {"a"},
		`s = s "a" | "b";`:                  {"b", "ba", "baa"},
		`s = (s "a")+ | "b";`:               {"b", "ba", "baa"},
		`s = "a" | n x; n = n; x = [^];`:    {"a"},
		`s = "a"; n = n x; x = [^];`:        {"a"},
		`s = s | "a" | s "b" s n; n = s n;`: {"a"},
	} {
		hasSents(t, readCfg(t, text), 3, want)
	}
}

func TestSentencesOfRepetitionsOfWhatCanBeEmpty(t *testing.T) {
	as := []string{"", "a", "aa", "aaa"}
	for text, want := range map[string][]string{
		`s = ()*;`:                    {""},
		`s = ()+;`:                    {""},
		`s = (){6,6};`:                {""},
		`s = s*;`:                     {""},
		`s = ("a"?)*;`:                as,
		`s = ("a"*)*;`:                as,
		`s = ("a"*)+;`:                as,
		`s = ("a"*){2,3};`:            as,
		`s = ("a" | ()){3,};`:         as,
		`s = ("a" | ()){3,3};`:        as,
		`s = s* | "a";`:               as,
		`s = (((("a"?)*)?)+)*;`:       as,
		`s = ("a"? "b"?){1,1};`:       {"", "a", "ab", "b"},
		`s = ("a"? | "b"?){2,2} "c";`: {"aac", "abc", "ac", "bac", "bbc", "bc", "c"},
	} {
		hasSents(t, readCfg(t, text), 3, want)
	}
}

// All strings of at most six bytes a and b are 127, so lists of them are never too long.
func TestSentencesAreWhatExpressionsMean(t *testing.T) {
	grams := []impl.Gram{}
	for _, text := range append(endlessTexts(), emptyTexts()...) {
		grams = append(grams, readGram(t, text))
	}
	leaves := []impl.Part{quotedPart("a"), classPart('a', 'b'), classPart('b', 'b'), namePart("s"), namePart("x"), seqPart()}
	for i, p := range combined(append(leaves, combined(leaves)...)) {
		if i%41 == 0 {
			grams = append(grams, gramOf(p, altPart(seqPart(quotedPart("b"), namePart("s")), quotedPart("ab"))))
		}
	}
	for _, g := range grams {
		c, ok := impl.CfgOf(g)
		if !ok {
			t.Fatalf("CfgOf of %q fails", impl.GramWrite(g))
		}
		for _, most := range []int{0, 1, 4, 6} {
			if got, ok := impl.CfgSents(c, most); !ok || !slices.Equal(got, meant(g, most)) {
				t.Fatalf("%q up to %d: %q, %v, not %q", impl.GramWrite(g), most, got, ok, meant(g, most))
			}
		}
	}
}

func TestSentencesOfMixedProductions(t *testing.T) {
	for _, c := range mixedCfgs(2000) {
		for _, most := range []int{0, 3, 5} {
			hasSents(t, c, most, derived(c, most))
		}
	}
}

func TestLengthsThatSentencesAreAskedFor(t *testing.T) {
	c := readCfg(t, `s = "a"*;`)
	for most := range 21 {
		if got, ok := impl.CfgSents(c, most); !ok || len(got) != most+1 {
			t.Errorf("up to %d: %q, %v", most, got, ok)
		}
	}
	for _, most := range []int{-1, -2, 21, 22, math.MaxInt, math.MinInt} {
		hasTooMany(t, c, most)
		hasTooMany(t, cfgOf(1), most)
	}
}

// bytesFrom0 is a nonterminal's production for so many bytes.
func bytesFrom0(head, count int) impl.Prod {
	return prod(head, rangeSym(0, count-1))
}

func TestTooManySentences(t *testing.T) {
	for _, c := range []struct {
		name string
		c    func(more int) impl.Cfg
		most int
	}{
		{"one symbol", func(more int) impl.Cfg { return cfgOf(1, bytesFrom0(0, 200+more)) }, 1},
		{"two productions", func(more int) impl.Cfg { return cfgOf(1, bytesFrom0(0, 150), prod(0, rangeSym(150, 199+more))) }, 1},
		{"two productions of another nonterminal", func(more int) impl.Cfg {
			return cfgOf(2, prod(0, 1, "a"), bytesFrom0(1, 150), prod(1, rangeSym(150, 199+more)))
		}, 20},
		{"two symbols", func(more int) impl.Cfg { return cfgOf(1, prod(0, rangeSym(1, 10), rangeSym(1, 20+more))) }, 2},
		{"the empty string and others", func(more int) impl.Cfg { return cfgOf(1, prod(0), bytesFrom0(0, 199+more)) }, 1},
		// The following have no sentence of at most that many bytes, but a list for the first symbols.
		{"a first symbol", func(more int) impl.Cfg { return cfgOf(1, prod(0, rangeSym(0, 199+more), "a")) }, 1},
		{"two first symbols", func(more int) impl.Cfg { return cfgOf(1, prod(0, rangeSym(1, 10), rangeSym(1, 20+more), "a")) }, 2},
		{"a later nonterminal", func(more int) impl.Cfg {
			return cfgOf(2, prod(0, "a", 1), bytesFrom0(1, 150), prod(1, rangeSym(150, 199+more)))
		}, 1},
	} {
		if got, ok := impl.CfgSents(c.c(0), c.most); !ok || len(got) != 200 && len(got) != 0 {
			t.Errorf("%s: the limit itself is %d strings, %v", c.name, len(got), ok)
		}
		hasTooMany(t, c.c(1), c.most)
		// Strings that are too long do not count.
		if _, ok := impl.CfgSents(c.c(1), 0); !ok {
			t.Errorf("%s: too many of no bytes", c.name)
		}
	}
}

func TestTooManySentencesAfterSomeTime(t *testing.T) {
	for _, text := range []string{`s = [ab] s | ();`, `s = s [ab] | ();`, `s = s s | [ab] | ();`, `s = [ab]*;`, `s = x; x = y; y = "b" s | () | "a" x;`} {
		c := readCfg(t, text)
		if got, ok := impl.CfgSents(c, 6); !ok || len(got) != 127 {
			t.Errorf("%s: %d of at most 6 bytes, %v", text, len(got), ok)
		}
		hasTooMany(t, c, 7)
		hasTooMany(t, c, 20)
	}
}

// In `"a"* "a"*`, 231 pairs have at most 20 bytes, but they are 21 different strings.
func TestEqualStringsCountOnce(t *testing.T) {
	var as []string
	for i := range 21 {
		as = append(as, strings.Repeat("a", i))
	}
	for _, text := range []string{`s = "a"* "a"*;`, `s = ("a"*){2,6};`, `s = x x x x; x = s | "a"?;`} {
		hasSents(t, readCfg(t, text), 20, as)
	}
	var many []impl.Prod
	for range 4 {
		many = append(many, bytesFrom0(0, 150), prod(0, rangeSym(50, 199)))
	}
	hasSents(t, cfgOf(1, many...), 5, classTexts([]int{0}, []int{199}))
	hasSents(t, cfgOf(2, prod(0, 1, 1), prod(1), prod(1, rangeSym(1, 199))), 1, append([]string{""}, classTexts([]int{1}, []int{199})...))
}

// Productions that CfgTrim removes have no lists.
func TestUselessProductionsAreNeverTooMany(t *testing.T) {
	all := rangeSym(0, 255)
	hasSents(t, cfgOf(2, prod(0, "a"), prod(1, all)), 5, []string{"a"})
	hasSents(t, cfgOf(3, prod(0, "a"), prod(0, all, 2), prod(0, 1, 2), prod(1, all), prod(2, 2)), 5, []string{"a"})
	hasSents(t, cfgOf(1, prod(0, all, 0)), 5, nil)
	hasTooMany(t, cfgOf(3, prod(0, "a"), prod(0, 1, 2), prod(1, all), prod(2, "aaaaa")), 5)
}

func TestP22MoreBytesLoseNoSentence(t *testing.T) {
	cfgs := manyCfgs(t, 500)
	for _, text := range []string{`s = [a-c]*;`, `s = "abc"{0,6} [a-e]{0,2};`, `s = "(" s ")" s | ();`, `s = ("a" | "bb")* "c";`, `s = [^a]{0,2};`} {
		cfgs = append(cfgs, readCfg(t, text))
	}
	for _, c := range cfgs {
		longer, ok := impl.CfgSents(c, 20)
		for most := 19; most >= 0; most-- {
			texts, fine := impl.CfgSents(c, most)
			if ok && !fine {
				t.Fatalf("%s: too many up to %d, but not up to %d", showCfg(c), most, most+1)
			}
			shorter := slices.DeleteFunc(slices.Clone(longer), func(text string) bool { return len(text) > most })
			if ok && !slices.Equal(texts, shorter) {
				t.Fatalf("%s: %q up to %d, %q up to %d", showCfg(c), texts, most, longer, most+1)
			}
			longer, ok = texts, fine
		}
	}
}

func TestP24TextsRepeatedNTimes(t *testing.T) {
	for _, text := range []string{"a", "ab", "aa", "aab", "\x00\xff", "\"\\]", "abcde", strings.Repeat("ab", 10)} {
		for n := 1; n <= impl.GramMaxTimes; n++ {
			c, ok := impl.CfgOf(gramOf(manyPart(quotedPart(text), n, n)))
			if !ok {
				t.Fatalf("CfgOf of %q %d times fails", text, n)
			}
			want := strings.Repeat(text, n)
			if len(want) > 20 {
				hasSents(t, c, 20, nil)
				continue
			}
			hasSents(t, c, 20, []string{want})
			hasSents(t, c, len(want), []string{want})
			hasSents(t, c, len(want)-1, nil)
		}
	}
}

func TestP25ClassesHaveTheirBytes(t *testing.T) {
	for _, p := range []impl.Part{
		classPart('a', 'a'), classPart('a', 'c'), classPart(0, 0), classPart(255, 255), classPart(0, 0, 255, 255), classPart(0, 199), classPart(56, 255),
		classPart('a', 'b', 'd', 'd', 'x', 'z'), classPart(0, 99, 101, 200), classPart('-', '-', ']', '^'), everyOther(),
	} {
		want := classTexts(p.Low, p.High)
		for _, g := range []impl.Gram{gramOf(p), gramOf(namePart("x"), p), gramOf(manyPart(p, 1, 1)), gramOf(altPart(p, p)), gramOf(seqPart(p, manyPart(seqPart(), 0, -1)))} {
			c, ok := impl.CfgOf(g)
			if !ok {
				t.Fatalf("CfgOf of %q fails", impl.GramWrite(g))
			}
			hasSents(t, c, 0, nil)
			hasSents(t, c, 1, want)
			hasSents(t, c, 20, want)
		}
	}
	for _, p := range []impl.Part{classPart(0, 255), classPart(0, 200), classPart(0, 99, 101, 201), classPart(0, 'a'-1, 'b', 255)} {
		c, _ := impl.CfgOf(gramOf(p))
		hasSents(t, c, 0, nil)
		hasTooMany(t, c, 1)
	}
}

// pairedGrams returns the texts of grammars for which alternatives and concatenations of two are checked.
func pairedGrams() []string {
	return slices.Concat(endlessTexts(), emptyTexts(), []string{
		`s = "ab";`,
		`s = [a-z];`,
		`s = [b-zA-Z0-9];`,
		`s = [\00-\c7];`,
		`s = [\01-\c8];`,
		`s = [^];`,
		`s = "(" s ")" | x; x = [a-d]{0,2};`,
		`s = [ab]{3,} | x; x = "c" x | y; y = ();`,
	})
}

// combinedGram has a new first rule, and after it the rules of the given grammars, of which part names the first ones "aa" and "ba".
func combinedGram(part impl.Part, grams ...impl.Gram) impl.Gram {
	out := impl.Gram{Rules: []impl.Rule{{Name: "both", Part: part}}}
	for i, g := range grams {
		out.Rules = append(out.Rules, renamed(g, letters("ab"[i:i+1])).Rules...)
	}
	return out
}

// checkPairs combines each two of the paired grammars to the given expression, and checks that its sentences are those wanted, if they are not too many.
func checkPairs(t *testing.T, part impl.Part, most int, wanted func(a, b []string) []string) {
	t.Helper()
	few := 0
	for _, first := range pairedGrams() {
		for _, second := range pairedGrams() {
			a, fine := impl.CfgSents(readCfg(t, first), most)
			b, fineToo := impl.CfgSents(readCfg(t, second), most)
			c, ok := impl.CfgOf(combinedGram(part, readGram(t, first), readGram(t, second)))
			if !ok {
				t.Fatalf("%q and %q have no productions together", first, second)
			}
			if !fine || !fineToo {
				continue
			}
			if want := wanted(a, b); len(want) > impl.CfgMaxSents {
				hasTooMany(t, c, most)
			} else {
				hasSents(t, c, most, want)
				few++
			}
		}
	}
	if few < 500 {
		t.Errorf("only %d pairs have few sentences", few)
	}
}

func TestP26AlternativesOfTwoGrammars(t *testing.T) {
	for _, most := range []int{0, 1, 4} {
		checkPairs(t, altPart(namePart("aa"), namePart("ba")), most, func(a, b []string) []string {
			return sortedTexts(slices.Concat(a, b))
		})
	}
	// Of 100 and 101 different ones, there is one too many.
	part := altPart(namePart("aa"), namePart("ba"))
	for _, high := range []int{199, 200} {
		c, _ := impl.CfgOf(combinedGram(part, gramOf(classPart(0, 99)), gramOf(classPart(100, high))))
		if _, ok := impl.CfgSents(c, 1); ok != (high == 199) {
			t.Errorf("100 and %d bytes: %v", high-99, ok)
		}
	}
}

func TestP27ConcatenationsOfTwoGrammars(t *testing.T) {
	for _, most := range []int{0, 1, 4} {
		checkPairs(t, seqPart(namePart("aa"), namePart("ba")), most, func(a, b []string) []string {
			return joined(a, b, most)
		})
	}
	part := seqPart(namePart("aa"), namePart("ba"))
	for _, high := range []int{20, 21} {
		c, _ := impl.CfgOf(combinedGram(part, gramOf(classPart(1, 10)), gramOf(classPart(1, high))))
		if _, ok := impl.CfgSents(c, 2); ok != (high == 20) {
			t.Errorf("10 and %d bytes: %v", high, ok)
		}
	}
}

func TestP28OptionalExpressions(t *testing.T) {
	for _, text := range pairedGrams() {
		for _, most := range []int{0, 1, 4, 20} {
			texts, ok := impl.CfgSents(readCfg(t, text), most)
			c, fine := impl.CfgOf(combinedGram(manyPart(namePart("aa"), 0, 1), readGram(t, text)))
			if !fine {
				t.Fatalf("%q has no productions if it is optional", text)
			}
			if want := sortedTexts(append(texts, "")); !ok || len(want) > impl.CfgMaxSents {
				hasTooMany(t, c, most)
			} else {
				hasSents(t, c, most, want)
			}
		}
	}
	for _, text := range []string{`s = "ab"?;`, `s = ("ab")??;`, `s = ("ab" | ())?;`} {
		hasSents(t, readCfg(t, text), 2, []string{"", "ab"})
		hasSents(t, readCfg(t, text), 1, []string{""})
	}
	hasSents(t, readCfg(t, `s = n?; n = n;`), 5, []string{""})
}
