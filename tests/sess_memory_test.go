package tests

import (
	"slices"
	"testing"
	"unsafe"

	"loop.example/fretwork/impl"
)

// roomySess returns a copy with capacity beyond all lists, which no call may write to.
func roomySess(s impl.Sess) impl.Sess {
	pieces := append(slices.Clone(s.Voc.Pieces), "spare", "zz")
	return impl.Sess{Cfg: roomyCfg(s.Cfg), Voc: impl.Voc{Pieces: pieces[:len(s.Voc.Pieces)], End: s.Voc.End}, Ids: roomy(s.Ids), Past: s.Past}
}

// wholeSess returns a copy with all lists up to their capacities.
func wholeSess(s impl.Sess) impl.Sess {
	pieces := slices.Clone(s.Voc.Pieces[:cap(s.Voc.Pieces)])
	return impl.Sess{Cfg: wholeCfg(s.Cfg), Voc: impl.Voc{Pieces: pieces, End: s.Voc.End}, Ids: slices.Clone(s.Ids[:cap(s.Ids)]), Past: s.Past}
}

// clearSess overwrites all lists up to their capacities.
func clearSess(s impl.Sess) {
	clearCfg(s.Cfg)
	clear(s.Voc.Pieces[:cap(s.Voc.Pieces)])
	overwrite(s.Ids)
}

// memorySess calls check with sessions of all kinds, valid or not.
func memorySess(t *testing.T, check func(s impl.Sess)) {
	t.Helper()
	eachSess(t, 30, 6, check)
	for _, c := range invalidCfgs() {
		check(sessOf(c, letterVoc(), 0))
	}
	c := readCfg(t, `s = "a"*;`)
	for _, v := range invalidVocs() {
		check(sessOf(c, v, 0))
	}
	check(sessOf(c, letterVoc(), 3, 0, 1))
	check(sessOf(c, letterVoc(), 1, 5, 5))
	check(sessOf(c, letterVoc(), 0, slices.Repeat([]int{0}, 61)...))
}

func TestNoCallChangesItsSession(t *testing.T) {
	memorySess(t, func(s impl.Sess) {
		given := roomySess(s)
		before := wholeSess(given)
		impl.SessStart(given.Cfg, given.Voc)
		impl.SessOk(given)
		impl.SessMask(given)
		impl.SessJump(given)
		impl.SessEnded(given)
		for id := -1; id <= len(s.Voc.Pieces); id++ {
			impl.SessTake(given, id)
		}
		for n := -1; n <= s.Past+1; n++ {
			impl.SessBack(given, n)
		}
		if !sameSess(wholeSess(given), before) {
			t.Fatalf("%s was changed to %s", showSess(before), showSess(wholeSess(given)))
		}
	})
}

// sessCalls has all calls that make a session of one, those that return it unchanged among them.
func sessCalls() []func(s impl.Sess) (impl.Sess, bool) {
	calls := []func(s impl.Sess) (impl.Sess, bool){
		func(s impl.Sess) (impl.Sess, bool) { return impl.SessStart(s.Cfg, s.Voc) },
	}
	for n := -1; n <= 8; n++ {
		calls = append(calls,
			func(s impl.Sess) (impl.Sess, bool) { return impl.SessTake(s, n) },
			func(s impl.Sess) (impl.Sess, bool) { return impl.SessBack(s, n) })
	}
	return calls
}

func TestSessionsAreNewMemory(t *testing.T) {
	calls := sessCalls()
	memorySess(t, func(s impl.Sess) {
		for _, call := range calls {
			given := roomySess(s)
			before := wholeSess(given)
			next, ok := call(given)
			want := copySess(next)
			clearSess(next)
			if !sameSess(wholeSess(given), before) {
				t.Fatalf("%s shares memory with what is made of it, %v", showSess(s), ok)
			}
			next, _ = call(given)
			clearSess(given)
			if !sameSess(next, want) {
				t.Fatalf("%s: what is made of it, %v, changes with it to %s", showSess(s), ok, showSess(next))
			}
		}
	})
}

// Also the tokens that an unchanged session returns are new memory. (Texts of no bytes have none.)
func TestTokensOfSessionsAreNewMemory(t *testing.T) {
	s := took(t, begun(t, readCfg(t, `s = s "a" | ();`), letterVoc()), 2, 1)
	for _, call := range sessCalls() {
		next, _ := call(s)
		for id, token := range next.Voc.Pieces {
			if token != "" && unsafe.StringData(token) == unsafe.StringData(s.Voc.Pieces[id]) {
				t.Errorf("token %d of %s is the memory of that of %s", id, showSess(next), showSess(s))
			}
		}
	}
}

func TestBodiesOfSessionsShareNoMemory(t *testing.T) {
	shared := prod(0, "ab", 1)
	given := sessOf(cfgOf(2, shared, shared, prod(1, "c")), letterVoc(), 1, 0)
	for i, call := range sessCalls() {
		if bodiesShare(func() impl.Cfg { next, _ := call(given); return next.Cfg }) {
			t.Errorf("bodies of what call %d makes share memory as those of its argument do", i)
		}
	}
}

func TestMasksAndJumpsOfSessionsAreNewMemory(t *testing.T) {
	memorySess(t, func(s impl.Sess) {
		mask, again := impl.SessMask(s), impl.SessMask(s)
		text, ids := impl.SessJump(s)
		want, wantIds := slices.Clone(mask), slices.Clone(ids)
		for i := range mask[:cap(mask)] {
			mask[:cap(mask)][i] = !want[min(i, len(want)-1)]
		}
		overwrite(ids)
		otherText, otherIds := impl.SessJump(s)
		if !slices.Equal(again, want) || !slices.Equal(impl.SessMask(s), want) || otherText != text || !slices.Equal(otherIds, wantIds) {
			t.Fatalf("%s: two answers share memory", showSess(s))
		}
	})
}

// What a call answers does not depend on what was done with earlier answers, nor on other sessions.
func TestNothingIsKeptOfSessions(t *testing.T) {
	s := took(t, begun(t, readCfg(t, `s = "ab" s | "c";`), impl.Voc{Pieces: []string{"a", "b", "ab", "ba", "c", "end"}, End: 5}), 0)
	for range 20 {
		hasSessMask(t, s, "010100")
		if text, ids := impl.SessJump(s); text != "b" || !slices.Equal(ids, []int{1}) {
			t.Errorf("%q, %v", text, ids)
		}
		took(t, s, 3, 1, 4, 5)
		clearSess(took(t, s, 1))
		clearSess(wentBack(t, s, 1))
		other := took(t, begun(t, readCfg(t, `s = s "a" | "b";`), s.Voc), 1)
		hasSessMask(t, other, "100001")
		impl.SessMask(impl.Sess{})
		impl.SessTake(impl.Sess{}, 0)
	}
}

func TestSessionsOfEmptyAndNilLists(t *testing.T) {
	v := impl.Voc{Pieces: []string{"a", ""}, End: 1}
	for _, s := range []impl.Sess{
		{Cfg: impl.Cfg{Heads: 1, Prods: []impl.Prod{{}}}, Voc: v},
		{Cfg: impl.Cfg{Heads: 1, Prods: []impl.Prod{{Body: []impl.Sym{}}}}, Voc: v, Ids: []int{}},
	} {
		hasSessMask(t, s, "01")
		tookNot(t, s, 0)
		if next := took(t, s, 1); !sameSess(wentBack(t, next, 1), s) || !sameSess(wentBack(t, s, 0), s) {
			t.Errorf("%s: %s", showSess(s), showSess(next))
		}
	}
	for _, s := range []impl.Sess{{}, {Ids: []int{}}, {Cfg: impl.Cfg{Prods: []impl.Prod{}}, Voc: impl.Voc{Pieces: []string{}}}} {
		checkNoSess(t, s)
	}
}
