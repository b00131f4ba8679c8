package tests

import (
	"slices"
	"strings"
	"testing"

	"loop.example/fretwork/impl"
)

func hasLeast(t *testing.T, c impl.Cfg, want ...int) {
	t.Helper()
	if got := impl.CfgLeast(c); !slices.Equal(got, want) {
		t.Errorf("CfgLeast of %s is %v, not %v", showCfg(c), got, want)
	}
}

func TestShortestLengths(t *testing.T) {
	hasLeast(t, cfgOf(1), -1)
	hasLeast(t, cfgOf(3, prod(1, "a")), -1, 1, -1)
	hasLeast(t, cfgOf(1, prod(0)), 0)
	hasLeast(t, cfgOf(1, prod(0, "abc"), prod(0, "ab"), prod(0, "abcd")), 2)
	hasLeast(t, cfgOf(1, prod(0, rangeSym(0, 255), rangeSym(7, 9))), 2)
	hasLeast(t, cfgOf(2, prod(0, "a", 1, "b", 1), prod(1, "xyz")), 8, 3)
	// Nonterminals that no sentence needs have lengths too.
	hasLeast(t, cfgOf(3, prod(0, "a"), prod(1, "bb"), prod(2, 1, 1)), 1, 2, 4)
	// Length 0 is not the same as no string.
	hasLeast(t, cfgOf(3, prod(0, 1, 1), prod(1), prod(2, 2)), 0, 0, -1)
	// A shorter string of 3 is found after a longer one, and counts everywhere.
	hasLeast(t, cfgOf(5, prod(0, 1, 1), prod(1, 2, "a"), prod(2, 3), prod(3, "aaaa"), prod(3, 4, 4), prod(4, "b")), 6, 3, 2, 2, 1)
	hasLeast(t, cfgOf(3, prod(0, 2, 2), prod(0, 1), prod(1, "aaaaa"), prod(2, "bb"), prod(2, 0, "c"), prod(2, 1)), 4, 5, 2)
}

func TestShortestLengthsOfExpressionsThatNeverEnd(t *testing.T) {
	hasLeast(t, cfgOf(1, prod(0, 0)), -1)
	hasLeast(t, cfgOf(1, prod(0, "a", 0), prod(0, 0, 0)), -1)
	hasLeast(t, cfgOf(3, prod(0, 1), prod(1, 2, "a"), prod(2, 0), prod(2, 2)), -1, -1, -1)
	hasLeast(t, cfgOf(3, prod(0, "aaa"), prod(0, 1), prod(1, "b", 2), prod(2, 1)), 3, -1, -1)
	hasLeast(t, cfgOf(2, prod(0, 1, "a"), prod(0, "aa"), prod(1, 0, 1)), 2, -1)
	hasLeast(t, cfgOf(1, prod(0, 0, "a"), prod(0, "b", 0), prod(0, "ccc")), 3)
	hasLeast(t, cfgOf(1, prod(0, 0, 0), prod(0)), 0)
}

func TestShortestLengthsOfRepetitions(t *testing.T) {
	for _, c := range []struct {
		text string
		want int
	}{
		{`s = "ab"*;`, 0}, {`s = "ab"+;`, 2}, {`s = "ab"?;`, 0}, {`s = "ab"{2,5};`, 4}, {`s = "ab"{6,};`, 12}, {`s = ("ab"{3,}){4,6};`, 24},
		{`s = ()*;`, 0}, {`s = (){6,6};`, 0}, {`s = ("a"?)+;`, 0}, {`s = ("a"*){2,} "b";`, 1}, {`s = s*;`, 0}, {`s = s+;`, -1}, {`s = s{0,2};`, 0}, {`s = s{1,2};`, -1}, {`s = s+ | "abc";`, 3},
	} {
		if got := impl.CfgLeast(readCfg(t, c.text))[0]; got != c.want {
			t.Errorf("%s: %d, not %d", c.text, got, c.want)
		}
	}
}

// doubled has the given productions first, and from nonterminal 1 on has 16384 bytes at least, 8192, 4096, and so on, down to one byte of nonterminal 15.
func doubled(prods ...impl.Prod) impl.Cfg {
	c := impl.Cfg{Heads: 16, Prods: prods}
	for head := 1; head < 15; head++ {
		c.Prods = append(c.Prods, prod(head, head+1, head+1))
	}
	c.Prods = append(c.Prods, prod(15, "a"))
	return c
}

func TestGreatSumsAreReduced(t *testing.T) {
	for _, c := range []struct {
		prod impl.Prod
		want int
	}{
		{prod(0, 1), 9999},
		{prod(0, 2), 8192},
		{prod(0, 2, 3), 9999},
		{prod(0, 3, 3, 3), 9999},
		{prod(0, 2, 5, 6, 7, 12, 13, 14), 9998},
		{prod(0, 2, 5, 6, 7, 12, 13, 14, 15), 9999},
		{prod(0, 2, 5, 6, 7, 12, 13, 14, 15, 15), 9999},
		{prod(0, 1, 1, 1), 9999},
		// A sum is reduced after a nonterminal only, so bytes behind the last one stay.
		{prod(0, 2, 5, 6, 7, 12, 13, 14, "a"), 9999},
		{prod(0, 2, 5, 6, 7, 12, 13, 14, "ab"), 10000},
		{prod(0, 2, 5, 6, 7, 12, 13, 14, "abc", 15), 9999},
		{prod(0, 1, "a"), 10000},
		{prod(0, 1, "ab"), 10001},
		{prod(0, 1, "ab", 15), 9999},
		{prod(0, 1, "ab", 15, "c"), 10000},
		{prod(0, "ab", 1), 9999},
		{prod(0, "ab", 1, "cde"), 10002},
		{prod(0, 1, strings.Repeat("a", impl.GramMaxParts-1)), 10158},
		{prod(0, strings.Repeat("a", impl.GramMaxParts)), 160},
	} {
		if got := impl.CfgLeast(doubled(c.prod))[0]; got != c.want {
			t.Errorf("%s: %d, not %d", showCfg(cfgOf(1, c.prod)), got, c.want)
		}
	}
	if got := impl.CfgLeast(doubled())[:4]; !slices.Equal(got, []int{-1, 9999, 8192, 4096}) {
		t.Errorf("the doubled lengths are %v", got)
	}
}

// A length above CfgMaxLeast is reduced where it is added, also when it is added to nothing.
func TestReducedSumsAreAddedOn(t *testing.T) {
	c := doubled(prod(0, 1))
	c.Heads = 19
	c.Prods = append(c.Prods, prod(16, 1, "ab"), prod(17, 16), prod(18, 16, "c"))
	want := []int{10001, 9999, 10000}
	if got := impl.CfgLeast(c)[16:]; !slices.Equal(got, want) {
		t.Errorf("%v, not %v", got, want)
	}
	// The production without bytes has the smaller sum of the two.
	if got := impl.CfgLeast(doubled(prod(0, 1, "ab"), prod(0, 0)))[0]; got != 9999 {
		t.Errorf("%d for a length that is added to nothing", got)
	}
}

// slowLeast applies the document's sentence to all productions until no length changes.
func slowLeast(c impl.Cfg) []int {
	least := slices.Repeat([]int{-1}, c.Heads)
	for again := true; again; {
		again = false
		for _, p := range c.Prods {
			sum, ends := 0, true
			for _, s := range p.Body {
				if s.Head < 0 {
					sum++
				} else {
					ends = ends && least[s.Head] >= 0
					sum = min(sum+least[s.Head], impl.CfgMaxLeast)
				}
			}
			if ends && (least[p.Head] < 0 || sum < least[p.Head]) {
				least[p.Head], again = sum, true
			}
		}
	}
	return least
}

func TestShortestLengthsOfManyProductions(t *testing.T) {
	for _, c := range append(mixedCfgs(3000), validCfgs()...) {
		hasLeast(t, c, slowLeast(c)...)
	}
}

// No sentence is shorter than the shortest length, and one has it.
func TestShortestLengthsAreThoseOfSentences(t *testing.T) {
	for _, c := range mixedCfgs(1000) {
		shortest := -1
		for _, text := range derived(c, 5) {
			if shortest < 0 || len(text) < shortest {
				shortest = len(text)
			}
		}
		got := impl.CfgLeast(c)[0]
		if got != shortest && (shortest >= 0 || got >= 0 && got <= 5) {
			t.Fatalf("%s: %d, not %d", showCfg(c), got, shortest)
		}
	}
}
