package tests

import (
	"bytes"
	"slices"
	"testing"

	"loop.example/fretwork/impl"
)

func TestEncodingsWrittenOut(t *testing.T) {
	isSaved(t, cfgOf(1), []byte{'F', 0, 0, 0, 0, 70})
	isSaved(t, cfgOf(1, prod(0)), []byte{'F', 0, 0, 1, 0, 0, 0, 74})
	isSaved(t, cfgOf(2, prod(1)), []byte{'F', 1, 0, 1, 1, 0, 0, 81})
	isSaved(t, cfgOf(1, prod(0, 0)), []byte{'F', 0, 0, 1, 0, 1, 1, 0, 0, 87})
	isSaved(t, cfgOf(2, prod(0, 1)), []byte{'F', 1, 0, 1, 0, 1, 1, 1, 0, 97})
	isSaved(t, cfgOf(1, prod(0, rangeSym(2, 3))), []byte{'F', 0, 0, 1, 0, 1, 0, 2, 3, 0, 123})
	isSaved(t, cfgOf(1, prod(0, rangeSym(0, 255))), []byte{'F', 0, 0, 1, 0, 1, 0, 0, 255, 9, 71})
	isSaved(t, cfgOf(200, prod(0), prod(199)), []byte{'F', 199, 0, 2, 0, 0, 199, 0, 7, 77})
	isSaved(t, cfgOf(2, prod(0, "a", 1), prod(0), prod(1, 0, rangeSym(0, 9))), []byte{
		'F', 1, 0, 3,
		0, 2, 0, 'a', 'a', 1, 1,
		0, 0,
		1, 2, 1, 0, 0, 0, 9,
		7, 214,
	})
}

func TestEncodingOfAGrammar(t *testing.T) {
	isSaved(t, readCfg(t, `s = "(" s ")" | [0-9x]+;`), sealed(
		'F', 3, 0, 7,
		0, 3, 0, '(', '(', 1, 0, 0, ')', ')',
		0, 1, 1, 1,
		1, 2, 1, 2, 1, 3,
		2, 1, 0, '0', '9',
		2, 1, 0, 'x', 'x',
		3, 0,
		3, 2, 1, 2, 1, 3,
	))
}

func TestEncodingsAreThoseOfTheDocument(t *testing.T) {
	for _, c := range slices.Concat(saveCfgs(), validCfgs(), mixedCfgs(3000), textCfgs(t)) {
		if got, want := impl.SaveWrite(c), slowWrite(c); !bytes.Equal(got, want) {
			t.Fatalf("SaveWrite of %s is %v, not %v", shortCfg(c), shortBytes(got), shortBytes(want))
		}
	}
}

// hasBytes checks what an encoding has at an index.
func hasBytes(t *testing.T, c impl.Cfg, at int, want ...byte) {
	t.Helper()
	if got := written(t, c); !bytes.Equal(got[at:at+len(want)], want) {
		t.Errorf("%s has %v at %d, not %v", shortCfg(c), got[at:at+len(want)], at, want)
	}
}

func TestCountsThatFit(t *testing.T) {
	for heads := 1; heads <= impl.CfgMaxHeads; heads++ {
		hasBytes(t, cfgOf(heads, prod(heads-1, heads-1)), 0, 'F', byte(heads-1), 0, 1, byte(heads-1), 1, 1, byte(heads-1))
	}
	for count := range impl.CfgMaxProds + 1 {
		high := byte(0)
		if count >= 256 {
			high = 1
		}
		hasBytes(t, cfgOf(1, slices.Repeat([]impl.Prod{prod(0, "F")}, count)...), 0, 'F', 0, high, byte(count))
	}
	for count := range impl.GramMaxParts + 1 {
		hasBytes(t, cfgOf(1, impl.Prod{Body: slices.Repeat([]impl.Sym{rangeSym(0, 255)}, count)}), 4, 0, byte(count))
		hasBytes(t, cfgOf(2, impl.Prod{Head: 1, Body: slices.Repeat([]impl.Sym{headSym(1)}, count)}), 4, 1, byte(count))
	}
}

func TestRangesOfAllBytes(t *testing.T) {
	for low := range 256 {
		for high := low; high < 256; high++ {
			hasBytes(t, cfgOf(1, prod(0, rangeSym(low, high))), 6, 0, byte(low), byte(high))
		}
	}
}

// tooLarge returns productions with numbers that would need more than one byte, or two for the productions, or that would be others in them.
func tooLarge() []impl.Cfg {
	var out []impl.Cfg
	for _, heads := range []int{impl.CfgMaxHeads + 1, 255, 256, 257, 256 + impl.CfgMaxHeads, 512} {
		out = append(out, cfgOf(heads), cfgOf(heads, prod(0, 0)))
	}
	for _, count := range []int{impl.CfgMaxProds + 1, 511, 512, 1 << 16, 1<<16 + 1} {
		out = append(out, cfgOf(1, slices.Repeat([]impl.Prod{prod(0)}, count)...))
	}
	for _, count := range []int{impl.GramMaxParts + 1, 255, 256, 257} {
		out = append(out, cfgOf(1, impl.Prod{Body: slices.Repeat([]impl.Sym{headSym(0)}, count)}))
		out = append(out, cfgOf(1, prod(0, "a"), impl.Prod{Body: slices.Repeat([]impl.Sym{rangeSym(0, 0)}, count)}))
	}
	return append(out, cfgOf(2, prod(256)), cfgOf(2, prod(0, 256)), cfgOf(2, prod(0, rangeSym(256, 256))), cfgOf(2, prod(0, rangeSym(0, 256))))
}

func TestInvalidProductionsHaveNoEncoding(t *testing.T) {
	for _, c := range append(tooLarge(), invalidCfgs()...) {
		if b := impl.SaveWrite(c); len(b) != 0 {
			t.Errorf("SaveWrite of %s is %v", shortCfg(c), shortBytes(b))
		}
	}
}

func TestSumsOfEncodings(t *testing.T) {
	for _, row := range []struct{ full, sum int }{
		{65279, 65279}, {65280, 65280}, {65519, 65519}, {65520, 65520},
		{65521, 0}, {65522, 1}, {65535, 14}, {65536, 15}, {65537, 16},
		{131041, 65520}, {131042, 0}, {131043, 1}, {196562, 65520}, {196563, 0}, {250000, 53437},
	} {
		c := cfgOfSum(t, row.full)
		isSaved(t, c, append(slowBody(c), byte(row.sum>>8), byte(row.sum)))
	}
}

func TestP108SymbolsDetermineTheNumberOfBytes(t *testing.T) {
	below := numbers()
	for _, c := range slices.Concat(saveCfgs(), validCfgs(), mixedCfgs(1000), textCfgs(t)) {
		want := 6
		for _, p := range c.Prods {
			want += 2
			for _, s := range p.Body {
				want += 3
				if s.Head >= 0 {
					want--
				}
			}
		}
		if got := len(impl.SaveWrite(c)); got != want {
			t.Fatalf("SaveWrite of %s has %d bytes, not %d", shortCfg(c), got, want)
		}
		if got := len(impl.SaveWrite(otherNumbers(c, below))); got != want {
			t.Fatalf("SaveWrite of %s with other numbers has %d bytes, not %d", shortCfg(c), got, want)
		}
	}
}

// otherNumbers returns productions with symbols of the same kinds, but other nonterminals and bytes.
func otherNumbers(c impl.Cfg, below func(int) int) impl.Cfg {
	out := copyCfg(c)
	out.Heads = impl.CfgMaxHeads
	for i, p := range out.Prods {
		out.Prods[i].Head = impl.CfgMaxHeads - 1
		for j, s := range p.Body {
			if s.Head >= 0 {
				p.Body[j] = headSym(below(impl.CfgMaxHeads))
				continue
			}
			low := below(256)
			p.Body[j] = rangeSym(low, low+below(256-low))
		}
	}
	return out
}
