package tests

import (
	"bytes"
	"slices"
	"testing"

	"loop.example/fretwork/impl"
)

func TestP101ProductionsAreReadBack(t *testing.T) {
	for _, c := range slices.Concat(saveCfgs(), validCfgs(), mixedCfgs(5000), textCfgs(t)) {
		if got := savedCfg(t, c); !sameCfg(got, c) {
			t.Fatalf("%s is read as %s", shortCfg(c), shortCfg(got))
		}
	}
}

func TestP101LargestProductions(t *testing.T) {
	c := largestCfg()
	for i := range c.Prods {
		c.Prods[i].Body = slices.Repeat([]impl.Sym{rangeSym(255, 255)}, impl.GramMaxParts)
	}
	b := written(t, c)
	if len(b) != 6+impl.CfgMaxProds*(2+3*impl.GramMaxParts) {
		t.Errorf("%d bytes", len(b))
	}
	isSaved(t, c, slowWrite(c))
}

func TestEncodingsOfEmptyAndNilLists(t *testing.T) {
	isSaved(t, impl.Cfg{Heads: 1, Prods: []impl.Prod{}}, slowWrite(cfgOf(1)))
	isSaved(t, impl.Cfg{Heads: 1, Prods: []impl.Prod{{Body: []impl.Sym{}}}}, slowWrite(cfgOf(1, prod(0))))
	for _, b := range [][]byte{nil, {}, make([]byte, 0, 20)} {
		isNotSaved(t, b)
	}
}

// eachSealed calls check with all bytes of an alphabet up to a length, behind the first bytes of an encoding, each with the right sum.
func eachSealed(alphabet string, most int, check func(b []byte)) {
	for _, text := range textsOf(alphabet, most) {
		for heads := 1; heads <= 2; heads++ {
			for prods := range 4 {
				check(sealed(append(saveHead(heads, prods), text...)...))
			}
		}
	}
}

func TestP102EncodingsOfAllShortProductions(t *testing.T) {
	accepted := map[string]int{}
	seen := map[bool]int{}
	eachSealed("\x00\x01\x02", 8, func(b []byte) {
		isRead := readsAsSaved(t, b)
		seen[isRead]++
		if !isRead {
			return
		}
		c, _ := impl.SaveRead(b)
		accepted[showCfg(c)]++
		if !bytes.Equal(impl.SaveWrite(c), b) {
			t.Fatalf("%v is read as %s, which has the encoding %v", b, showCfg(c), impl.SaveWrite(c))
		}
	})
	hasSeen(t, seen, 300)
	if len(accepted) != seen[true] {
		t.Errorf("%d productions have %d encodings", len(accepted), seen[true])
	}
}

// changedBytes returns bytes with some of them changed, left out or doubled.
func changedBytes(b []byte, below func(int) int) []byte {
	b = slices.Clone(b)
	for range 1 + below(3) {
		at := below(len(b))
		switch below(5) {
		case 0:
			b[at] = byte(below(256))
		case 1:
			b = slices.Delete(b, at, min(at+1+below(4), len(b)))
		case 2:
			b = slices.Insert(b, at, b[at:min(at+1+below(4), len(b))]...)
		default:
			b[at] = byte(below(4))
		}
		if len(b) == 0 {
			return b
		}
	}
	return b
}

func TestP102ChangedEncodingsWithTheRightSum(t *testing.T) {
	below := numbers()
	seen := map[bool]int{}
	for _, c := range slices.Concat(smallCfgs(300), textCfgs(t)) {
		body := unsealed(written(t, c))
		for range 200 {
			b := sealed(changedBytes(body, below)...)
			isRead := readsAsSaved(t, b)
			seen[isRead]++
			if got, _ := impl.SaveRead(b); isRead && !bytes.Equal(impl.SaveWrite(got), b) {
				t.Fatalf("%v is read as %s, which has the encoding %v", b, showCfg(got), impl.SaveWrite(got))
			}
		}
	}
	hasSeen(t, seen, 3000)
}

func TestBytesThatAreNoEncoding(t *testing.T) {
	below := numbers()
	for i := range 20000 {
		b := someBytes(below(40), below)
		isNotSaved(t, b)
		if len(b) > 4 && i%2 == 0 {
			b[0], b[2], b[3] = 'F', 0, byte(below(4))
		}
		readsAsSaved(t, b)
		readsAsSaved(t, sealed(b...))
	}
}

func TestP103OneByteChanged(t *testing.T) {
	for _, c := range slices.Concat(smallCfgs(60), textCfgs(t)[:8], []impl.Cfg{cfgOfSum(t, 65520), cfgOfSum(t, 65521), cfgOfSum(t, 131050)}) {
		b := written(t, c)
		for i, n := range b {
			for other := 1; other < 256; other++ {
				b[i] = n + byte(other)
				isNotSaved(t, b)
			}
			b[i] = n
		}
	}
}

// longCfgs returns productions whose encodings have more than 251 bytes, and up to the most of all.
func longCfgs() []impl.Cfg {
	return slices.DeleteFunc(append(saveCfgs(), largestCfg()), func(c impl.Cfg) bool { return len(slowWrite(c)) <= 251 })
}

func TestP103OneByteOfALongEncodingChanged(t *testing.T) {
	below := numbers()
	for _, c := range longCfgs() {
		b := written(t, c)
		ats := []int{0, 1, 2, 3, 4, 5, 250, 251, 252, len(b) - 3, len(b) - 2, len(b) - 1}
		for range 50 {
			ats = append(ats, below(len(b)))
		}
		for _, at := range ats {
			n := b[at]
			for _, other := range []int{1, 255, 128, 1 + below(255)} {
				b[at] = n + byte(other)
				isNotSaved(t, b)
			}
			b[at] = n
		}
	}
}

func TestP104PrefixesAndFurtherBytes(t *testing.T) {
	for _, c := range slices.Concat(smallCfgs(200), textCfgs(t)) {
		b := written(t, c)
		for i := range b {
			isNotSaved(t, b[:i])
			isNotSaved(t, b[:i:i])
		}
		for n := range 256 {
			isNotSaved(t, append(slices.Clone(b), byte(n)))
		}
		isNotSaved(t, slices.Concat(b, []byte{0, 0}))
		isNotSaved(t, slices.Concat(b, b[len(b)-2:]))
		isNotSaved(t, slices.Concat(b, b))
		isNotSaved(t, append([]byte{'F'}, b...))
		isNotSaved(t, b[1:])
	}
}

func TestP104PrefixesOfLongEncodings(t *testing.T) {
	below := numbers()
	for _, c := range longCfgs() {
		b := written(t, c)
		for _, most := range []int{1, 2, 3, 4, 100} {
			for range 20 {
				isNotSaved(t, b[:len(b)-1-below(min(most, len(b)))])
			}
		}
		isNotSaved(t, append(slices.Clone(b), 0))
		isNotSaved(t, append(slices.Clone(b), 0, 0, 0))
	}
}

// Nothing may be left out, nor stand behind the productions, though the sum is right.
func TestP104PrefixesAndFurtherBytesWithTheRightSum(t *testing.T) {
	for _, c := range slices.Concat(smallCfgs(100), textCfgs(t)) {
		b := written(t, c)
		body := unsealed(b)
		for i := range body {
			isNotSaved(t, sealed(body[:i]...))
		}
		for n := range 256 {
			isNotSaved(t, sealed(append(body, byte(n))...))
		}
		isNotSaved(t, sealed(b...))
		isNotSaved(t, sealed(append(body, 0, 0)...))
		isNotSaved(t, slices.Concat(body, []byte{0}, b[len(b)-2:]))
	}
}

// A prefix can have the sum of the rest, which is made of zeros: what is missing may not be read as zeros either.
func TestMissingBytesAreNotZeros(t *testing.T) {
	for _, text := range []string{"F", "F\x00", "F\x00\x00", "F\x00\x00\x00", "F\x00\x00\x00\x00", "F\x00\x00\x01\x00\x00\x00", "", "\x00", "\x00\x00", "\x00\x00\x00\x00\x00\x00"} {
		isNotSaved(t, []byte(text))
	}
	// Their sum is 0 with the bytes of the sum, which would be read as 0 if nothing is left.
	for want := range 3 {
		c := cfgOfSum(t, 65521*(want+1))
		isNotSaved(t, slowBody(c))
		isNotSaved(t, append(slowBody(c), 0))
	}
}

func TestFirstBytesOfEncodings(t *testing.T) {
	for _, c := range []impl.Cfg{cfgOf(1), cfgOf(2, prod(0, "a", 1), prod(1))} {
		body := slowBody(c)
		for n := range 256 {
			body[0] = byte(n)
			if n == 'F' {
				isSaved(t, c, sealed(body...))
			} else {
				isNotSaved(t, sealed(body...))
			}
		}
	}
}

func TestWrongSums(t *testing.T) {
	for _, c := range []impl.Cfg{cfgOf(1), cfgOf(2, prod(0, "a", 1), prod(1)), cfgOfSum(t, 65520), cfgOfSum(t, 65521), cfgOfSum(t, 65535)} {
		body := slowBody(c)
		right := slowSaveSum(body)
		for sum := range 1 << 16 {
			// A sum that is not reduced, though it fits into two bytes, is wrong as well.
			if b := append(body, twoBytes(sum)...); sum == right {
				isSaved(t, c, b)
			} else {
				isNotSaved(t, b)
			}
		}
	}
}

func TestSumsInTheOtherOrder(t *testing.T) {
	for _, c := range smallCfgs(100) {
		b := written(t, c)
		last := len(b) - 1
		if b[last] != b[last-1] {
			b[last], b[last-1] = b[last-1], b[last]
			isNotSaved(t, b)
		}
	}
}

func TestNumbersOfHeads(t *testing.T) {
	for n := range 256 {
		b := sealed('F', byte(n), 0, 1, 0, 0)
		if n < impl.CfgMaxHeads {
			isSaved(t, cfgOf(n+1, prod(0)), b)
		} else {
			isNotSaved(t, b)
		}
	}
}

func TestHeadsThatDoNotExist(t *testing.T) {
	for _, heads := range []int{1, 2, 100, 199, impl.CfgMaxHeads} {
		for n := range 256 {
			ofHead := sealed('F', byte(heads-1), 0, 1, byte(n), 0)
			withHead := sealed('F', byte(heads-1), 0, 1, 0, 1, 1, byte(n))
			if n < heads {
				isSaved(t, cfgOf(heads, prod(n)), ofHead)
				isSaved(t, cfgOf(heads, prod(0, n)), withHead)
			} else {
				isNotSaved(t, ofHead)
				isNotSaved(t, withHead)
			}
		}
	}
}

func TestFirstBytesOfSymbols(t *testing.T) {
	for n := 2; n < 256; n++ {
		isNotSaved(t, sealed('F', 0, 0, 1, 0, 1, byte(n)))
		isNotSaved(t, sealed('F', 0, 0, 1, 0, 1, byte(n), 0))
		isNotSaved(t, sealed('F', 0, 0, 1, 0, 1, byte(n), 0, 0))
		isNotSaved(t, sealed('F', 0, 0, 1, 0, 1, byte(n), 'a', 'a'))
		isNotSaved(t, sealed('F', 0, 0, 1, 0, 2, 1, 0, byte(n), 0))
		isNotSaved(t, sealed('F', 0, 0, 2, 0, 1, byte(n), 0, 0))
		isNotSaved(t, sealed('F', 0, 0, 2, 0, 1, 1, 0, 0, 1, byte(n), 1, 1))
	}
}

func TestLowAndHighOfReadRanges(t *testing.T) {
	for low := range 256 {
		for high := range 256 {
			b := sealed('F', 0, 0, 1, 0, 1, 0, byte(low), byte(high))
			if low <= high {
				isSaved(t, cfgOf(1, prod(0, rangeSym(low, high))), b)
			} else {
				isNotSaved(t, b)
			}
		}
	}
}

func TestOrderOfReadHeads(t *testing.T) {
	for first := range 4 {
		for second := range 4 {
			b := sealed('F', 2, 0, 2, byte(first), 0, byte(second), 0)
			if first <= second && second < 3 {
				isSaved(t, cfgOf(3, prod(first), prod(second)), b)
			} else {
				isNotSaved(t, b)
			}
		}
	}
	isNotSaved(t, sealed('F', 2, 0, 3, 0, 0, 2, 0, 1, 0))
	isNotSaved(t, sealed('F', 2, 0, 3, 1, 0, 1, 0, 0, 0))
}

// encoded returns what the encoding would be of productions, valid or not, that are all the same.
func encoded(prods int, prod ...byte) []byte {
	return sealed(append(saveHead(1, prods), bytes.Repeat(prod, prods)...)...)
}

func TestTooManyProductionsAreNotRead(t *testing.T) {
	for _, prods := range []int{0, 1, 255, 256, 257, 399, impl.CfgMaxProds, impl.CfgMaxProds + 1, 402, 511, 512, 513, 1000, 1<<16 - 2, 1<<16 - 1} {
		if b := encoded(prods, 0, 0); prods <= impl.CfgMaxProds {
			isSaved(t, cfgOf(1, slices.Repeat([]impl.Prod{prod(0)}, prods)...), b)
		} else {
			isNotSaved(t, b)
		}
	}
	// The number is written with one production more or fewer than there are.
	for _, prods := range []int{1, 2, 255, 256, 257, impl.CfgMaxProds} {
		there := bytes.Repeat([]byte{0, 0}, prods)
		isNotSaved(t, sealed(append(saveHead(1, prods-1), there...)...))
		isNotSaved(t, sealed(append(saveHead(1, prods+1), there...)...))
		isNotSaved(t, sealed(append(saveHead(1, prods+256), there...)...))
	}
}

func TestTooManySymbolsAreNotRead(t *testing.T) {
	for count := range 256 {
		heads := append([]byte{0, byte(count)}, bytes.Repeat([]byte{1, 0}, count)...)
		ranges := append([]byte{0, byte(count)}, bytes.Repeat([]byte{0, 'a', 'b'}, count)...)
		if count > impl.GramMaxParts {
			isNotSaved(t, encoded(1, heads...))
			isNotSaved(t, encoded(2, ranges...))
			continue
		}
		p := impl.Prod{Body: slices.Repeat([]impl.Sym{rangeSym('a', 'b')}, count)}
		isSaved(t, cfgOf(1, impl.Prod{Body: slices.Repeat([]impl.Sym{headSym(0)}, count)}), encoded(1, heads...))
		isSaved(t, cfgOf(1, p, p), encoded(2, ranges...))
		// The number is written with one symbol more or fewer than there are.
		heads[1]--
		isNotSaved(t, encoded(1, heads...))
		heads[1] += 2
		isNotSaved(t, encoded(1, heads...))
	}
}

// What invalid productions would be written as is refused, unless it is the encoding of others because a number does not fit.
func TestWhatInvalidProductionsWouldBeIsNotRead(t *testing.T) {
	seen := map[bool]int{}
	for _, c := range append(tooLarge(), invalidCfgs()...) {
		b := slowWrite(c)
		seen[readsAsSaved(t, b)]++
		if got, ok := impl.SaveRead(b); ok && sameCfg(got, c) {
			t.Errorf("%s is read", shortCfg(c))
		}
	}
	hasSeen(t, seen, 2)
}

func TestP105SavedProductionsPermitTheSameTokens(t *testing.T) {
	seen := map[bool]int{}
	eachMask(t, 40, 3, func(c impl.Cfg, v impl.Voc, text string, mask []bool) {
		if got := impl.MaskOf(savedCfg(t, c), v, text); !slices.Equal(got, mask) {
			t.Fatalf("%s permits %s after %q, and %s when it was saved", showCfg(c), showMask(mask), text, showMask(got))
		}
		seen[slices.Contains(mask, true)]++
	})
	hasSeen(t, seen, 500)
}

func TestP105SessionsOfSavedProductions(t *testing.T) {
	eachSess(t, 10, 12, func(s impl.Sess) {
		saved := copySess(s)
		saved.Cfg = savedCfg(t, s.Cfg)
		if got, want := impl.SessMask(saved), impl.SessMask(s); !slices.Equal(got, want) {
			t.Fatalf("%s: %s, and %s when it was saved", showSess(s), showMask(want), showMask(got))
		}
	})
}

func TestP107ChartsOfSavedProductions(t *testing.T) {
	seen := map[bool]int{}
	eachText(t, 100, 4, func(c impl.Cfg, text string) {
		trimmed := impl.CfgTrim(c)
		want, wantOk := impl.ChartOf(c, text)
		for _, other := range []impl.Cfg{trimmed, savedCfg(t, c), savedCfg(t, trimmed), impl.CfgTrim(savedCfg(t, c))} {
			if got, ok := impl.ChartOf(other, text); ok != wantOk || !sameChart(got, want) {
				t.Fatalf("%s: the chart of %q is %s, %v, and of %s %s, %v", showCfg(c), text, showChart(want), wantOk, showCfg(other), showChart(got), ok)
			}
		}
		seen[wantOk]++
	})
	hasSeen(t, seen, 300)
}
