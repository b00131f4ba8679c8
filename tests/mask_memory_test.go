package tests

import (
	"slices"
	"strings"
	"testing"

	"loop.example/fretwork/impl"
)

func TestNoMaskChangesItsArguments(t *testing.T) {
	pieces := append(maskPieces(), "spare", "zz")
	for _, c := range append(chartCfgs(t, 10), invalidCfgs()...) {
		given := roomyCfg(c)
		before := wholeCfg(given)
		for _, end := range []int{-2, 0, 3} {
			v := impl.Voc{Pieces: pieces[:len(pieces)-2], End: end}
			for _, text := range []string{"", "a", "ab", "ba", strings.Repeat("a", 81)} {
				impl.MaskOf(given, v, text)
				impl.MaskJump(given, text)
				impl.MaskFinish(given, text)
			}
		}
		if !sameCfg(wholeCfg(given), before) {
			t.Fatalf("%+v was changed to %+v", before, wholeCfg(given))
		}
		if !slices.Equal(pieces, append(maskPieces(), "spare", "zz")) {
			t.Fatalf("the tokens were changed to %q", pieces)
		}
	}
}

func TestMasksAreNewMemory(t *testing.T) {
	v := maskVocs()[1]
	for _, c := range append(chartCfgs(t, 50), cfgOf(1)) {
		for _, text := range []string{"", "a", "ab", "c"} {
			first, second := impl.MaskOf(c, v, text), impl.MaskOf(c, v, text)
			want := slices.Clone(second)
			for i := range first[:cap(first)] {
				first[:cap(first)][i] = !want[min(i, len(want)-1)]
			}
			if !slices.Equal(second, want) || !slices.Equal(impl.MaskOf(c, v, text), want) {
				t.Fatalf("%s: two masks after %q share memory", showCfg(c), text)
			}
		}
	}
}

// What a call answers does not depend on the calls before it.
func TestNothingIsKeptOfMasks(t *testing.T) {
	c := readCfg(t, `s = e s "a" | e | "bab" "b"?; e = "b"?;`)
	v := maskVocs()[2]
	for _, text := range textsOf("ab", 4) {
		mask, jump := impl.MaskOf(c, v, text), impl.MaskJump(c, text)
		end, ok := impl.MaskFinish(c, text)
		for _, other := range append(mixedCfgs(10), impl.Cfg{}) {
			impl.MaskOf(other, v, text)
			impl.MaskOf(c, impl.Voc{}, text)
			impl.MaskJump(other, text)
			impl.MaskFinish(other, text)
			hasMask(t, c, v, text, showMask(mask))
			jumpsTo(t, c, text, jump)
			if got, fine := impl.MaskFinish(c, text); got != end || fine != ok {
				t.Errorf("%q is completed by %q, %v, and before by %q, %v", text, got, fine, end, ok)
			}
		}
	}
}

// Productions, bodies and tokens that are empty are the same as those that are nil.
func TestMasksOfEmptyAndNilLists(t *testing.T) {
	v := impl.Voc{Pieces: []string{"a", ""}, End: 1}
	hasMask(t, impl.Cfg{Heads: 1, Prods: []impl.Prod{{Body: []impl.Sym{}}}}, v, "", "01")
	hasMask(t, impl.Cfg{Heads: 1, Prods: []impl.Prod{{Body: nil}}}, v, "", "01")
	hasMask(t, impl.Cfg{Heads: 1, Prods: []impl.Prod{}}, v, "", "00")
	hasMask(t, impl.Cfg{Heads: 1}, v, "", "00")
	for _, none := range []impl.Voc{{Pieces: []string{}, End: -1}, {End: -1}} {
		hasMask(t, impl.Cfg{Heads: 1}, none, "", "")
	}
}
