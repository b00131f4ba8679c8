package tests

import (
	"bytes"
	"slices"
	"testing"

	"loop.example/fretwork/impl"
)

func TestSavingDoesNotChangeProductions(t *testing.T) {
	for _, c := range slices.Concat(validCfgs(), invalidCfgs(), saveCfgs(), mixedCfgs(200)) {
		given := roomyCfg(c)
		before := wholeCfg(given)
		impl.SaveWrite(given)
		if !sameCfg(wholeCfg(given), before) {
			t.Fatalf("%s was changed to %s", shortCfg(before), shortCfg(wholeCfg(given)))
		}
	}
}

// roomyBytes returns a copy with capacity beyond its end, which no call may write to.
func roomyBytes(b []byte) []byte {
	return append(slices.Clone(b), "spare"...)[:len(b)]
}

func TestReadingDoesNotChangeBytes(t *testing.T) {
	below := numbers()
	for _, c := range smallCfgs(200) {
		b := written(t, c)
		for _, b := range [][]byte{b, b[:len(b)-1], sealed(changedBytes(b, below)...), someBytes(300, below), nil} {
			given := roomyBytes(b)
			before := slices.Clone(given[:cap(given)])
			impl.SaveSum(given)
			impl.SaveRead(given)
			if !bytes.Equal(given[:cap(given)], before) {
				t.Fatalf("%v was changed to %v", before, given[:cap(given)])
			}
		}
	}
}

// Bytes that stand behind the given ones in their memory are none of them.
func TestBytesBehindTheEndAreNotRead(t *testing.T) {
	for _, c := range smallCfgs(100) {
		b := written(t, c)
		for i := range b {
			isNotSaved(t, b[:i])
			if got, want := impl.SaveSum(b[:i]), slowSaveSum(slices.Clone(b[:i])); got != want {
				t.Fatalf("SaveSum of the first %d bytes of %v is %d, not %d", i, b, got, want)
			}
		}
	}
}

func TestReadBodiesShareNoMemory(t *testing.T) {
	for _, c := range slices.Concat(smallCfgs(100), textCfgs(t)) {
		if bodiesShare(func() impl.Cfg { return savedCfg(t, c) }) {
			t.Fatalf("bodies of the saved %s share memory", showCfg(c))
		}
	}
}

func TestEncodingsAreNewMemory(t *testing.T) {
	for _, c := range smallCfgs(100) {
		b := written(t, c)
		want := slices.Clone(b)
		whole := b[:cap(b)]
		got, _ := impl.SaveRead(b)
		for i := range whole {
			whole[i] = 77
		}
		if !sameCfg(got, c) {
			t.Fatalf("what was read of %v changes with it", want)
		}
		if again := impl.SaveWrite(c); !bytes.Equal(again, want) {
			t.Fatalf("%s: %v, then %v", showCfg(c), want, again)
		}
		clearCfg(got)
		if again, ok := impl.SaveRead(want); !ok || !sameCfg(again, c) {
			t.Fatalf("%v is read as %s, then as %s, %v", want, showCfg(c), showCfg(again), ok)
		}
	}
}

// What a call answers does not depend on the calls before it, nor on their faults.
func TestNothingIsKeptOfEncodings(t *testing.T) {
	all := smallCfgs(20)
	for _, c := range all {
		want := slowWrite(c)
		for _, other := range all {
			impl.SaveRead(want[:len(want)-1])
			impl.SaveRead(nil)
			impl.SaveWrite(impl.Cfg{})
			impl.SaveSum(slowWrite(other))
			isSaved(t, other, slowWrite(other))
			isSaved(t, c, want)
		}
	}
}
