package tests

import (
	"math"
	"slices"
	"testing"

	"loop.example/fretwork/impl"
)

// largestCfg has as many nonterminals, productions and symbols as can be.
func largestCfg() impl.Cfg {
	c := impl.Cfg{Heads: impl.CfgMaxHeads}
	for i := range impl.CfgMaxProds {
		body := slices.Repeat([]impl.Sym{headSym(impl.CfgMaxHeads - 1), rangeSym(0, 255)}, impl.GramMaxParts/2)
		c.Prods = append(c.Prods, impl.Prod{Head: i / 2, Body: body})
	}
	c.Prods[impl.CfgMaxProds-1].Body = nil
	return c
}

func validCfgs() []impl.Cfg {
	return append([]impl.Cfg{
		cfgOf(1),
		cfgOf(impl.CfgMaxHeads),
		cfgOf(1, prod(0)),
		cfgOf(1, prod(0, 0)),
		cfgOf(3, prod(2, 0, 1, 2)),
		cfgOf(3, prod(0), prod(0), prod(2), prod(2)),
		cfgOf(2, prod(0, rangeSym(0, 0), rangeSym(255, 255), rangeSym(0, 255)), prod(1, 1, 0)),
		cfgOf(1, impl.Prod{Body: slices.Repeat([]impl.Sym{headSym(0)}, impl.GramMaxParts)}),
		cfgOf(1, slices.Repeat([]impl.Prod{prod(0, "a")}, impl.CfgMaxProds)...),
		largestCfg(),
	}, mixedCfgs(50)...)
}

func invalidCfgs() []impl.Cfg {
	out := []impl.Cfg{
		{},
		cfgOf(0),
		cfgOf(-1),
		cfgOf(impl.CfgMaxHeads + 1),
		cfgOf(math.MaxInt, prod(0)),
		cfgOf(math.MinInt),
		cfgOf(0, prod(0)),
		cfgOf(1, prod(1)),
		cfgOf(2, prod(-1), prod(0)),
		cfgOf(3, prod(1), prod(0)),
		cfgOf(3, prod(0), prod(2), prod(1), prod(2)),
		cfgOf(3, prod(0), prod(2), prod(3)),
		cfgOf(1, prod(math.MinInt)),
		cfgOf(1, prod(math.MaxInt)),
		cfgOf(1, slices.Repeat([]impl.Prod{prod(0)}, impl.CfgMaxProds+1)...),
		cfgOf(1, impl.Prod{Body: slices.Repeat([]impl.Sym{headSym(0)}, impl.GramMaxParts+1)}),
		cfgOf(1, prod(0, "a"), impl.Prod{Body: slices.Repeat([]impl.Sym{rangeSym(0, 0)}, impl.GramMaxParts+1)}),
	}
	for _, s := range invalidSyms() {
		out = append(out, cfgOf(2, prod(0, s)), cfgOf(2, prod(0, "a", 1), prod(1, 0, "b", s)))
	}
	return out
}

// invalidSyms returns symbols that no production of two nonterminals can have.
func invalidSyms() []impl.Sym {
	return []impl.Sym{
		headSym(2),
		headSym(-2),
		headSym(math.MaxInt),
		headSym(math.MinInt),
		{Head: 0, Low: 1, High: 1},
		{Head: 0, High: 1},
		{Head: 1, Low: 1},
		{Head: 0, Low: -1},
		{Head: 1, High: -1},
		{Head: -2, Low: 1, High: 1},
		rangeSym(5, 4),
		rangeSym(1, 0),
		rangeSym(-1, 0),
		rangeSym(-1, -1),
		rangeSym(0, 256),
		rangeSym(256, 256),
		rangeSym(math.MinInt, 5),
		rangeSym(5, math.MaxInt),
	}
}

func TestValidProductions(t *testing.T) {
	for _, c := range validCfgs() {
		if !impl.CfgOk(c) {
			t.Errorf("%s is not valid", showCfg(c))
		}
	}
}

func TestInvalidProductions(t *testing.T) {
	for _, c := range invalidCfgs() {
		if impl.CfgOk(c) {
			t.Errorf("%+v is valid", c)
		}
		if least := impl.CfgLeast(c); len(least) != 0 {
			t.Errorf("CfgLeast of %+v is %v", c, least)
		}
		if trimmed := impl.CfgTrim(c); trimmed.Heads != 0 || len(trimmed.Prods) != 0 {
			t.Errorf("CfgTrim of %+v is %+v", c, trimmed)
		}
		for _, most := range []int{-1, 0, 5, 21} {
			if texts, ok := impl.CfgSents(c, most); ok || len(texts) != 0 {
				t.Errorf("CfgSents of %+v is %q, %v", c, texts, ok)
			}
		}
	}
}

func TestEmptyBodiesAreAsNil(t *testing.T) {
	c := impl.Cfg{Heads: 1, Prods: []impl.Prod{{Body: []impl.Sym{}}}}
	if !impl.CfgOk(c) || !slices.Equal(impl.CfgLeast(c), []int{0}) || !sameCfg(impl.CfgTrim(c), cfgOf(1, prod(0))) {
		t.Errorf("%v, %v, %+v", impl.CfgOk(c), impl.CfgLeast(c), impl.CfgTrim(c))
	}
	hasSents(t, c, 0, []string{""})
	none := impl.Cfg{Heads: 1, Prods: []impl.Prod{}}
	if !impl.CfgOk(none) || !slices.Equal(impl.CfgLeast(none), []int{-1}) || !sameCfg(impl.CfgTrim(none), cfgOf(1)) {
		t.Errorf("%v, %v, %+v", impl.CfgOk(none), impl.CfgLeast(none), impl.CfgTrim(none))
	}
	hasSents(t, none, 20, nil)
}
