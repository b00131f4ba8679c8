package tests

import (
	"slices"
	"testing"

	"loop.example/fretwork/impl"
)

// roomyCfg returns a copy with capacity beyond all lists, which no call may write to.
func roomyCfg(c impl.Cfg) impl.Cfg {
	prods := make([]impl.Prod, 0, len(c.Prods)+3)
	for _, p := range c.Prods {
		body := append(make([]impl.Sym, 0, len(p.Body)+3), p.Body...)
		body[:cap(body)][len(body)] = rangeSym(7, 7)
		prods = append(prods, impl.Prod{Head: p.Head, Body: body})
	}
	prods[:cap(prods)][len(prods)] = prod(77, "spare")
	return impl.Cfg{Heads: c.Heads, Prods: prods}
}

// wholeCfg returns a copy with all lists up to their capacities.
func wholeCfg(c impl.Cfg) impl.Cfg {
	out := impl.Cfg{Heads: c.Heads}
	for _, p := range c.Prods[:cap(c.Prods)] {
		out.Prods = append(out.Prods, impl.Prod{Head: p.Head, Body: slices.Clone(p.Body[:cap(p.Body)])})
	}
	return out
}

// clearCfg overwrites all lists up to their capacities.
func clearCfg(c impl.Cfg) {
	for _, p := range c.Prods[:cap(c.Prods)] {
		clear(p.Body[:cap(p.Body)])
	}
	clear(c.Prods[:cap(c.Prods)])
}

func TestNoCallChangesItsProductions(t *testing.T) {
	for _, c := range slices.Concat(validCfgs(), invalidCfgs(), manyCfgs(t, 200)) {
		given := roomyCfg(c)
		before := wholeCfg(given)
		impl.CfgOk(given)
		impl.CfgLeast(given)
		impl.CfgTrim(given)
		impl.CfgSents(given, 2)
		if !sameCfg(wholeCfg(given), before) {
			t.Fatalf("%+v was changed to %+v", before, wholeCfg(given))
		}
	}
}

func TestTrimmedProductionsAreNewMemory(t *testing.T) {
	for _, c := range append(validCfgs(), manyCfgs(t, 200)...) {
		given := roomyCfg(c)
		before := wholeCfg(given)
		clearCfg(impl.CfgTrim(given))
		if !sameCfg(wholeCfg(given), before) {
			t.Fatalf("CfgTrim of %s shares memory with it", showCfg(c))
		}
	}
}

// bodiesShare reports whether clearing one body, up to its capacity, changes another one.
func bodiesShare(make func() impl.Cfg) bool {
	want := copyCfg(make())
	for i := range want.Prods {
		c := make()
		body := c.Prods[i].Body
		clear(body[:cap(body)])
		c.Prods[i].Body = want.Prods[i].Body
		if !sameCfg(c, want) {
			return true
		}
	}
	return false
}

func TestBodiesShareNoMemory(t *testing.T) {
	shared := prod(0, "ab", 1)
	for _, text := range append(emptyTexts(), `s = "ab" x* | x{1,6} [ad] x{2,}; x = [ac] | s "a" ("b" | "c" s)+ | x{3,};`) {
		if bodiesShare(func() impl.Cfg { return readCfg(t, text) }) {
			t.Errorf("bodies of CfgOf of %s share memory", text)
		}
		if bodiesShare(func() impl.Cfg { return impl.CfgTrim(readCfg(t, text)) }) {
			t.Errorf("bodies of CfgTrim of %s share memory", text)
		}
	}
	// Also if they do so in the argument.
	if bodiesShare(func() impl.Cfg { return impl.CfgTrim(cfgOf(2, shared, shared, prod(1, "c"))) }) {
		t.Error("bodies of CfgTrim share memory as those of its argument do")
	}
}

func TestProductionsKeepTheirGrammar(t *testing.T) {
	for _, g := range fewGrams() {
		given := copyGram(g)
		for i := range given.Rules {
			given.Rules[i].Part = roomyPart(given.Rules[i].Part)
		}
		c, _ := impl.CfgOf(given)
		want := copyCfg(c)
		clearCfg(c)
		if !sameGram(given, g) {
			t.Fatalf("%#v was changed to %#v", g, given)
		}
		if again, _ := impl.CfgOf(given); !sameCfg(again, want) {
			t.Fatalf("%q: %s, then %s", impl.GramWrite(g), showCfg(want), showCfg(again))
		}
	}
}

// What a call answers does not depend on what was done with earlier answers, nor on calls that failed.
func TestNothingIsKeptOfProductions(t *testing.T) {
	c := readCfg(t, `s = ("a" | s "b")* n?; n = n;`)
	least, trimmed := impl.CfgLeast(c), impl.CfgTrim(c)
	texts, ok := impl.CfgSents(c, 4)
	wantLeast, wantTrimmed, wantTexts := slices.Clone(least), copyCfg(trimmed), slices.Clone(texts)
	clear(least[:cap(least)])
	clear(texts[:cap(texts)])
	clearCfg(trimmed)
	impl.CfgSents(readCfg(t, `s = [^];`), 4)
	impl.CfgSents(impl.Cfg{}, 4)
	for range 20 {
		if !ok || !slices.Equal(impl.CfgLeast(c), wantLeast) {
			t.Fatalf("%v, %v", ok, impl.CfgLeast(c))
		}
		trimsTo(t, c, wantTrimmed)
		hasSents(t, c, 4, wantTexts)
	}
}
