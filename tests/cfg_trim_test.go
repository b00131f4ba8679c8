package tests

import (
	"slices"
	"testing"

	"loop.example/fretwork/impl"
)

func trimsTo(t *testing.T, c, want impl.Cfg) {
	t.Helper()
	if got := impl.CfgTrim(c); !sameCfg(got, want) {
		t.Errorf("CfgTrim of %s is %s, not %s", showCfg(c), showCfg(got), showCfg(want))
	}
}

func TestUsefulProductions(t *testing.T) {
	trimsTo(t, cfgOf(3), cfgOf(3))
	trimsTo(t, cfgOf(1, prod(0)), cfgOf(1, prod(0)))
	// No sentence: nothing is left, although nonterminal 1 has strings.
	trimsTo(t, cfgOf(2, prod(0, 0, 1), prod(1, "a")), cfgOf(2))
	trimsTo(t, cfgOf(2, prod(1, "a")), cfgOf(2))
	// Not needed, alone and in a cycle.
	trimsTo(t, cfgOf(4, prod(0, "a"), prod(1, "b"), prod(2, 3, "c"), prod(3, 2), prod(3)), cfgOf(4, prod(0, "a")))
	trimsTo(t, cfgOf(2, prod(0, "a"), prod(1, 1), prod(1, "b"), prod(1, 0)), cfgOf(2, prod(0, "a")))
	// Needed only by a production that never ends.
	trimsTo(t, cfgOf(3, prod(0, "a"), prod(0, 1, 2), prod(1, "b"), prod(2, 2)), cfgOf(3, prod(0, "a")))
	// Of one nonterminal, some productions end and some do not.
	trimsTo(t, cfgOf(3, prod(0, 1), prod(1, 2), prod(1, "b", 1), prod(1, "a"), prod(2, "c", 2)), cfgOf(3, prod(0, 1), prod(1, "b", 1), prod(1, "a")))
	// Needed by way of a nonterminal with a greater and one with a smaller number.
	whole := cfgOf(5, prod(0, "a", 4), prod(1, "x"), prod(2), prod(2, 3), prod(3, 1, 1), prod(4, 2), prod(4, 0))
	trimsTo(t, whole, whole)
	// Equal productions stay as many as they are.
	twice := cfgOf(1, prod(0, "a"), prod(0, 0), prod(0, "a"))
	trimsTo(t, twice, twice)
	// Sums that are reduced do not make a string disappear.
	great := doubled(prod(0, 1, "ab"), prod(0, 1, 1))
	trimsTo(t, great, great)
}

func TestUsefulProductionsOfExpressionsThatNeverEnd(t *testing.T) {
	for _, c := range []struct{ text, want string }{
		{`s = s;`, `1: `},
		{`s = "a" s;`, `1: `},
		{`s = x; x = s;`, `2: `},
		{`s = n+; n = "a" n;`, `3: `},
		{`s = n{1,2}; n = n;`, `2: `},
		{`s = n{0,2}; n = n n;`, `2: 0 =`},
		{`s = n*; n = "a" n;`, `3: 0 = 2; 2 =`},
		{`s = s "a" | "b";`, `1: 0 = 0 'a'; 0 = 'b'`},
		{`s = "a" | n | u; n = "x" n; u = "b" n; z = "q";`, `4: 0 = 'a'`},
		{`s = "a" | ("b" n | "c") x; n = n | x n; x = "d";`, `4: 0 = 'a'; 0 = 3 2; 2 = 'd'; 3 = 'c'`},
		{`s = s*;`, `2: 0 = 1; 1 =; 1 = 0 1`},
		{`s = (()*)*;`, `5: 0 = 4; 1 = 3; 2 =; 3 =; 3 = 2 3; 4 =; 4 = 1 4`},
	} {
		if got := showCfg(impl.CfgTrim(readCfg(t, c.text))); got != c.want {
			t.Errorf("%s: %s, not %s", c.text, got, c.want)
		}
	}
}

// manyCfgs returns mixed productions and those of the edge cases.
func manyCfgs(t *testing.T, count int) []impl.Cfg {
	out := mixedCfgs(count)
	for _, text := range append(endlessTexts(), emptyTexts()...) {
		out = append(out, readCfg(t, text))
	}
	return out
}

func TestP20TrimmedProductionsHaveTheSameSentences(t *testing.T) {
	for _, c := range manyCfgs(t, 1500) {
		trimmed := impl.CfgTrim(c)
		want := derived(c, 4)
		if got := derived(trimmed, 4); !slices.Equal(got, want) {
			t.Fatalf("%s has %q, and its CfgTrim %s has %q", showCfg(c), want, showCfg(trimmed), got)
		}
		hasSents(t, c, 4, want)
		hasSents(t, trimmed, 4, want)
	}
	// Too many are too many in both.
	for _, text := range []string{`s = [^a];`, `s = [ab]{6,6} [ab]{3,3} n*; n = n;`} {
		c := readCfg(t, text)
		hasTooMany(t, c, 9)
		hasTooMany(t, impl.CfgTrim(c), 9)
	}
}

func TestP20TrimmingIsIdempotent(t *testing.T) {
	for _, c := range append(manyCfgs(t, 3000), validCfgs()...) {
		once := impl.CfgTrim(c)
		if !impl.CfgOk(once) {
			t.Fatalf("CfgTrim of %s is not valid: %+v", showCfg(c), once)
		}
		trimsTo(t, once, once)
	}
}

func TestP21TrimmingOnlyRemoves(t *testing.T) {
	for _, c := range append(manyCfgs(t, 3000), validCfgs()...) {
		trimmed := impl.CfgTrim(c)
		rest := trimmed.Prods
		for _, p := range c.Prods {
			if len(rest) > 0 && sameProd(p, rest[0]) {
				rest = rest[1:]
			}
		}
		if len(rest) > 0 || trimmed.Heads != c.Heads {
			t.Fatalf("CfgTrim of %s is %s", showCfg(c), showCfg(trimmed))
		}
	}
}

// reached returns the nonterminals that occur in derivations from nonterminal 0.
func reached(c impl.Cfg) []int {
	heads := []int{0}
	for i := 0; i < len(heads); i++ {
		for _, p := range c.Prods {
			for _, s := range p.Body {
				if p.Head == heads[i] && s.Head >= 0 && !slices.Contains(heads, s.Head) {
					heads = append(heads, s.Head)
				}
			}
		}
	}
	return heads
}

// Exactly the useful productions are left.
func TestWhichProductionsAreLeft(t *testing.T) {
	for _, c := range append(manyCfgs(t, 3000), validCfgs()...) {
		least := slowLeast(c)
		ending := impl.Cfg{Heads: c.Heads}
		for _, p := range c.Prods {
			if !slices.ContainsFunc(p.Body, func(s impl.Sym) bool { return s.Head >= 0 && least[s.Head] < 0 }) {
				ending.Prods = append(ending.Prods, p)
			}
		}
		want := impl.Cfg{Heads: c.Heads}
		heads := reached(ending)
		for _, p := range ending.Prods {
			if slices.Contains(heads, p.Head) {
				want.Prods = append(want.Prods, p)
			}
		}
		trimsTo(t, c, want)
	}
}
