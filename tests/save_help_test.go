package tests

import (
	"bytes"
	"slices"
	"testing"

	"loop.example/fretwork/impl"
)

// fullSum is the sum of bytes before it is reduced.
func fullSum(b []byte) int {
	sum := 0
	for i, n := range b {
		sum += int(n) * (i%251 + 1)
	}
	return sum
}

func slowSaveSum(b []byte) int {
	return fullSum(b) % 65521
}

// twoBytes returns a number in two bytes, the higher one first.
func twoBytes(n int) []byte {
	return []byte{byte(n / 256), byte(n % 256)}
}

// sealed returns the bytes with their sum behind them.
func sealed(b ...byte) []byte {
	return slices.Concat(b, twoBytes(slowSaveSum(b)))
}

// unsealed returns an encoding without its sum.
func unsealed(b []byte) []byte {
	return slices.Clone(b[:len(b)-2])
}

// saveHead returns the first bytes of an encoding, as far as the first production.
func saveHead(heads, prods int) []byte {
	return slices.Concat([]byte{'F', byte(heads - 1)}, twoBytes(prods))
}

// slowBody returns what an encoding has for the productions, in the words of the document, whether they are valid or not.
func slowBody(c impl.Cfg) []byte {
	out := saveHead(c.Heads, len(c.Prods))
	for _, p := range c.Prods {
		out = append(out, byte(p.Head), byte(len(p.Body)))
		for _, s := range p.Body {
			if s.Head >= 0 {
				out = append(out, 1, byte(s.Head))
			} else {
				out = append(out, 0, byte(s.Low), byte(s.High))
			}
		}
	}
	return out
}

func slowWrite(c impl.Cfg) []byte {
	return sealed(slowBody(c)...)
}

// slowRead takes bytes for what they would be in an encoding, and accepts what this means only if it is valid and its encoding has the same bytes.
func slowRead(b []byte) (impl.Cfg, bool) {
	c, ok := meantProds(b)
	if !ok || !impl.CfgOk(c) || !bytes.Equal(slowWrite(c), b) {
		return impl.Cfg{}, false
	}
	return c, true
}

func meantProds(b []byte) (c impl.Cfg, ok bool) {
	// Some byte is missing if an index is out of range.
	defer func() { ok = recover() == nil }()
	c.Heads = int(b[1]) + 1
	at := 4
	for range int(b[2])*256 + int(b[3]) {
		p := impl.Prod{Head: int(b[at])}
		count := int(b[at+1])
		at += 2
		for range count {
			if b[at] == 1 {
				p.Body = append(p.Body, headSym(int(b[at+1])))
				at += 2
			} else {
				p.Body = append(p.Body, rangeSym(int(b[at+1]), int(b[at+2])))
				at += 3
			}
		}
		c.Prods = append(c.Prods, p)
	}
	return c, true
}

// written returns the encoding of valid productions.
func written(t *testing.T, c impl.Cfg) []byte {
	t.Helper()
	b := impl.SaveWrite(c)
	if len(b) == 0 {
		t.Fatalf("SaveWrite of %s is empty", showCfg(c))
	}
	return b
}

// savedCfg returns what is read of the encoding of valid productions.
func savedCfg(t *testing.T, c impl.Cfg) impl.Cfg {
	t.Helper()
	out, ok := impl.SaveRead(written(t, c))
	if !ok {
		t.Fatalf("SaveRead of SaveWrite of %s fails", showCfg(c))
	}
	return out
}

// isSaved checks that these are the bytes of valid productions, and the productions those of the bytes.
func isSaved(t *testing.T, c impl.Cfg, want []byte) {
	t.Helper()
	if got := impl.SaveWrite(c); !bytes.Equal(got, want) {
		t.Errorf("SaveWrite of %s is %v, not %v", shortCfg(c), shortBytes(got), shortBytes(want))
	}
	if got, ok := impl.SaveRead(want); !ok || !sameCfg(got, c) {
		t.Errorf("SaveRead of %v is %s, %v, not %s", shortBytes(want), shortCfg(got), ok, shortCfg(c))
	}
}

// isNotSaved checks that SaveRead fails, with the zero value.
func isNotSaved(t *testing.T, b []byte) {
	t.Helper()
	if got, ok := impl.SaveRead(b); ok || got.Heads != 0 || len(got.Prods) != 0 {
		t.Errorf("SaveRead of %v is %s, %v", shortBytes(b), shortCfg(got), ok)
	}
}

// readsAsSaved checks that SaveRead returns what slowRead does, and returns whether it succeeds.
func readsAsSaved(t *testing.T, b []byte) bool {
	t.Helper()
	want, wantOk := slowRead(b)
	if got, ok := impl.SaveRead(b); ok != wantOk || !sameCfg(got, want) {
		t.Errorf("SaveRead of %v is %s, %v, not %s, %v", shortBytes(b), shortCfg(got), ok, shortCfg(want), wantOk)
	}
	return wantOk
}

// shortBytes keeps messages about long encodings readable.
func shortBytes(b []byte) []byte {
	return b[:min(len(b), 60)]
}

func shortCfg(c impl.Cfg) string {
	text := showCfg(c)
	return text[:min(len(text), 200)]
}

// saveCfgs returns productions with counts that just fit, and with heads and bytes at both ends of their ranges.
func saveCfgs() []impl.Cfg {
	last := impl.CfgMaxHeads - 1
	out := []impl.Cfg{
		cfgOf(2, prod(0)),
		cfgOf(2, prod(1)),
		cfgOf(2, prod(0), prod(0), prod(1)),
		cfgOf(impl.CfgMaxHeads, prod(0, 0, last), prod(last, last, 0)),
		cfgOf(impl.CfgMaxHeads-1, prod(0, last-1), prod(last-1)),
		cfgOf(1, prod(0, rangeSym(0, 0)), prod(0, rangeSym(255, 255)), prod(0, rangeSym(0, 255)), prod(0, rangeSym(1, 254))),
		cfgOf(1, prod(0, rangeSym(254, 255), 0, rangeSym(0, 1), 0)),
		cfgOf(1, prod(0, 0, "ab", 0), prod(0), prod(0, "F"), prod(0)),
	}
	for _, count := range []int{1, 2, 254, 255, 256, 257, 258, 399, impl.CfgMaxProds} {
		out = append(out, cfgOf(1, slices.Repeat([]impl.Prod{prod(0)}, count)...))
		out = append(out, cfgOf(2, slices.Repeat([]impl.Prod{prod(1, "a", 0)}, count)...))
	}
	for _, count := range []int{1, 2, 83, 84, 127, 128, 159, impl.GramMaxParts} {
		out = append(out, cfgOf(1, impl.Prod{Body: slices.Repeat([]impl.Sym{headSym(0)}, count)}))
		out = append(out, cfgOf(1, impl.Prod{Body: slices.Repeat([]impl.Sym{rangeSym(0, 255)}, count)}))
	}
	return out
}

// smallCfgs returns productions whose encodings are short enough for each change to be tried.
func smallCfgs(count int) []impl.Cfg {
	return slices.DeleteFunc(slices.Concat(saveCfgs(), validCfgs(), mixedCfgs(count)), func(c impl.Cfg) bool { return len(slowWrite(c)) > 100 })
}

// textCfgs returns the productions of grammars of edge cases.
func textCfgs(t *testing.T) []impl.Cfg {
	t.Helper()
	var out []impl.Cfg
	for _, text := range slices.Concat(endlessTexts(), emptyTexts()) {
		out = append(out, readCfg(t, text))
	}
	return out
}

// cfgOfSum returns valid productions whose encoding has this sum before it is reduced, from some 3000 to 280000.
func cfgOfSum(t *testing.T, want int) impl.Cfg {
	t.Helper()
	for high := range 256 {
		for first := range 256 {
			body := slices.Repeat([]impl.Sym{rangeSym(0, high)}, 25)
			body[0].High = first
			c := cfgOf(1, impl.Prod{Body: body})
			// Heads-1 is the second byte, so it counts twice.
			if more := want - fullSum(slowBody(c)); more >= 0 && more%2 == 0 && more/2 < impl.CfgMaxHeads {
				c.Heads += more / 2
				return c
			}
		}
	}
	t.Fatalf("no productions with the sum %d", want)
	return impl.Cfg{}
}
