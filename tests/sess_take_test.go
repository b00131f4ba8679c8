package tests

import (
	"math"
	"slices"
	"strings"
	"testing"

	"loop.example/fretwork/impl"
)

func TestSessionsWrittenOut(t *testing.T) {
	c := readCfg(t, `s = "{" (p ("," p)*)? "}"; p = "key" [0-9] ":" s;`)
	v := impl.Voc{Pieces: []string{"{", "}", "{}", "k", "key", "ey1", ",", "1:{", "", "}}", "{k", "end"}, End: 11}
	s := begun(t, c, v)
	for _, step := range []struct {
		id   int
		mask string
		text string
		ids  []int
	}{
		{10, "101000000010", "{", []int{0}},
		{5, "000001000000", "ey", nil},
		{0, "000000000000", ":{", nil},
	} {
		hasSessMask(t, s, step.mask)
		if text, ids := impl.SessJump(s); text != step.text || !slices.Equal(ids, step.ids) {
			t.Errorf("%s: jumps with %q, %v", showSess(s), text, ids)
		}
		if next, ok := impl.SessTake(s, step.id); ok {
			s = next
		}
	}
	if !sameSess(s, sessOf(c, v, 2, 10, 5)) || impl.SessEnded(s) {
		t.Errorf("%s", showSess(s))
	}
	s = took(t, begun(t, c, v), 0, 4, 7, 9)
	hasSessMask(t, s, "000000000001")
	tookNot(t, s, 1)
	s = took(t, s, 11)
	if !sameSess(s, sessOf(c, v, 5, 0, 4, 7, 9, 11)) || !impl.SessEnded(s) {
		t.Errorf("%s", showSess(s))
	}
	permitsNone(t, s)
	s = wentBack(t, s, 2)
	if !sameSess(s, sessOf(c, v, 3, 0, 4, 7)) || impl.SessEnded(s) {
		t.Errorf("%s", showSess(s))
	}
	hasSessMask(t, s, "010110000100")
}

func TestP67MasksOfSessionsAreThoseOfTheirTexts(t *testing.T) {
	seen := map[bool]int{}
	eachSess(t, 300, 12, func(s impl.Sess) {
		if hasEnd(s) || len(s.Ids) == 60 {
			permitsNone(t, s)
			return
		}
		mask := impl.SessMask(s)
		if !slices.Equal(mask, impl.MaskOf(s.Cfg, s.Voc, sessText(s))) || !slices.Equal(mask, slowMask(s.Cfg, s.Voc, sessText(s))) {
			t.Fatalf("%s: %s are permitted", showSess(s), showMask(mask))
		}
		seen[slices.Contains(mask, true)]++
	})
	hasSeen(t, seen, 50)
}

func TestP68TokensAreTakenIfTheyArePermitted(t *testing.T) {
	seen := map[bool]int{}
	eachSess(t, 100, 8, func(s impl.Sess) {
		mask := impl.SessMask(s)
		for id, isPermitted := range mask {
			seen[isPermitted]++
			if !isPermitted {
				tookNot(t, s, id)
				continue
			}
			want := sessOf(s.Cfg, s.Voc, min(s.Past+1, 12), append(slices.Clone(s.Ids), id)...)
			next := took(t, s, id)
			if !sameSess(next, want) || !impl.SessOk(next) || impl.SessEnded(next) != (id == s.Voc.End) {
				t.Fatalf("%s: with %d taken: %s", showSess(s), id, showSess(next))
			}
		}
		for _, id := range []int{math.MinInt, -2, -1, len(mask), len(mask) + 1, impl.VocMax, math.MaxInt} {
			tookNot(t, s, id)
		}
	})
	hasSeen(t, seen, 1000)
}

func TestP69TakingATokenAndTakingItBack(t *testing.T) {
	taken := 0
	eachSess(t, 100, 8, func(s impl.Sess) {
		mask := impl.SessMask(s)
		for _, id := range permittedIds(mask) {
			back := wentBack(t, took(t, s, id), 1)
			if !sameSess(back, sessOf(s.Cfg, s.Voc, min(s.Past, 11), s.Ids...)) {
				t.Fatalf("%s: with %d taken and taken back: %s", showSess(s), id, showSess(back))
			}
			if !slices.Equal(impl.SessMask(back), mask) || impl.SessEnded(back) {
				t.Fatalf("%s: after %d was taken back, %s are permitted, before that %s", showSess(s), id, showMask(impl.SessMask(back)), showMask(mask))
			}
			taken++
		}
	})
	if taken < 1000 {
		t.Errorf("only %d tokens were taken", taken)
	}
}

func TestP70NoMoreTokensAreTakenBackThanPastSays(t *testing.T) {
	seen := map[bool]int{}
	eachSess(t, 100, 14, func(s impl.Sess) {
		for _, n := range []int{math.MinInt, -2, -1, 0, 1, 2, 5, 11, 12, 13, 14, 60, 61, math.MaxInt} {
			seen[n >= 0 && n <= s.Past]++
			if n < 0 || n > s.Past {
				wentNotBack(t, s, n)
				continue
			}
			back := wentBack(t, s, n)
			if !sameSess(back, sessOf(s.Cfg, s.Voc, s.Past-n, s.Ids[:len(s.Ids)-n]...)) || !impl.SessOk(back) {
				t.Fatalf("%s: with %d taken back: %s", showSess(s), n, showSess(back))
			}
		}
	})
	hasSeen(t, seen, 1000)
}

// Of any number of tokens, the last SessPast can be taken back, and fewer after some were.
func TestP70TheLastTokensCanBeTakenBack(t *testing.T) {
	s := begun(t, readCfg(t, `s = s "a" | ();`), letterVoc())
	for count := range 61 {
		most := min(count, 12)
		if s.Past != most || len(s.Ids) != count {
			t.Fatalf("%s: after %d tokens", showSess(s), count)
		}
		wentNotBack(t, s, most+1)
		none := wentBack(t, s, most)
		if none.Past != 0 || len(none.Ids) != count-most {
			t.Fatalf("%s: with %d taken back: %s", showSess(s), most, showSess(none))
		}
		wentNotBack(t, none, 1)
		if !sameSess(wentBack(t, none, 0), none) {
			t.Fatalf("%s: with none taken back: %s", showSess(none), showSess(wentBack(t, none, 0)))
		}
		if count < 60 {
			s = took(t, s, 0)
		}
	}
	s = took(t, wentBack(t, s, 5), 0, 0)
	if s.Past != 9 || len(s.Ids) != 57 {
		t.Errorf("%s: with 5 taken back and 2 taken", showSess(s))
	}
	wentNotBack(t, s, 10)
	if s = wentBack(t, s, 9); s.Past != 0 || len(s.Ids) != 48 {
		t.Errorf("%s: with 9 taken back", showSess(s))
	}
	wentNotBack(t, s, 1)
}

func TestP71SessionsDependOnlyOnTheirTokens(t *testing.T) {
	long := 0
	eachSess(t, 100, 10, func(s impl.Sess) {
		again := took(t, begun(t, s.Cfg, s.Voc), s.Ids...)
		if !slices.Equal(again.Ids, s.Ids) || again.Past != min(len(s.Ids), 12) {
			t.Fatalf("%s: taken again: %s", showSess(s), showSess(again))
		}
		mask := impl.SessMask(s)
		text, ids := impl.SessJump(s)
		for past := range again.Past + 1 {
			other := sessOf(s.Cfg, s.Voc, past, s.Ids...)
			otherText, otherIds := impl.SessJump(other)
			if !slices.Equal(impl.SessMask(other), mask) || otherText != text || !slices.Equal(otherIds, ids) || impl.SessEnded(other) != impl.SessEnded(s) {
				t.Fatalf("%s: not as with past %d", showSess(s), past)
			}
		}
		if len(s.Ids) > 3 {
			long++
		}
	})
	if long < 100 {
		t.Errorf("only %d sessions have more than three tokens", long)
	}
}

func TestP72NothingFollowsTheEndToken(t *testing.T) {
	ended := 0
	check := func(s impl.Sess) {
		t.Helper()
		permitsNone(t, s)
		for id := -1; id <= len(s.Voc.Pieces); id++ {
			tookNot(t, s, id)
			checkNoSess(t, sessOf(s.Cfg, s.Voc, s.Past, append(slices.Clone(s.Ids), id)...))
		}
		if text, ids := impl.SessJump(s); text != "" || len(ids) != 0 || !impl.SessEnded(s) || !impl.SessOk(s) {
			t.Fatalf("%s: jumps with %q, %v", showSess(s), text, ids)
		}
		ended++
	}
	eachSess(t, 60, 10, func(s impl.Sess) {
		if hasEnd(s) {
			check(s)
		}
	})
	if ended < 100 {
		t.Errorf("only %d sessions have ended", ended)
	}
	// Also where sentences go on, and whatever bytes the end token has.
	for _, grammar := range []string{`s = "ab"*;`, `s = "ab" | "abab";`, `s = () | "ab";`, `s = "ab";`} {
		for _, end := range []string{"", "ab", "b", "end"} {
			v := impl.Voc{Pieces: []string{"a", end, "b", "ab"}, End: 1}
			s := begun(t, readCfg(t, grammar), v)
			if impl.SessMask(s)[1] {
				check(took(t, s, 1))
			}
			s = took(t, s, 3)
			check(took(t, s, 1))
			back := wentBack(t, took(t, s, 1), 1)
			if !sameSess(back, s) || !slices.Equal(impl.SessMask(back), impl.SessMask(s)) {
				t.Errorf("%s: with the end taken back: %s", showSess(s), showSess(back))
			}
		}
	}
}

func TestP73ForcedBytesAsTokens(t *testing.T) {
	taken := 0
	check := func(s impl.Sess) {
		t.Helper()
		text, ids := impl.SessJump(s)
		wantIds, _ := impl.VocLong(s.Voc, text)
		if !hasEnd(s) && text != impl.MaskJump(s.Cfg, sessText(s)) || hasEnd(s) && text != "" || !slices.Equal(ids, wantIds) {
			t.Fatalf("%s: jumps with %q, %v", showSess(s), text, ids)
		}
		if len(s.Ids)+len(ids) > 60 {
			ids = ids[:60-len(s.Ids)]
		}
		if next := took(t, s, ids...); !strings.HasPrefix(sessText(s)+text, sessText(next)) {
			t.Fatalf("%s: jumps with %q, but %v make it %q", showSess(s), text, ids, sessText(next))
		}
		taken += len(ids)
	}
	eachSess(t, 800, 6, check)
	if taken < 500 {
		t.Errorf("only %d tokens are forced", taken)
	}
	// The forced bytes of a session that has no space for their tokens.
	whole := strings.Repeat("abc", 27)[:80]
	c := cfgOf(1, prod(0, whole))
	v := impl.Voc{Pieces: []string{"a", "b", "c", "end", "bca"}, End: 3}
	for _, count := range []int{0, 1, 20, 39, 40, 41, 58, 59, 60} {
		s := begun(t, c, v)
		for i := range count {
			s = took(t, s, i%3)
		}
		check(s)
		if text, ids := impl.SessJump(s); text != whole[count:min(count+40, 80)] || sessText(impl.Sess{Voc: v, Ids: ids}) != text {
			t.Errorf("%s: jumps with %q, %v", showSess(s), text, ids)
		}
	}
}

// Forced bytes that are not the bytes of tokens have none, not even for their first part.
func TestForcedBytesWithoutTokens(t *testing.T) {
	c := readCfg(t, `s = "abcd" "x"?;`)
	for _, want := range []struct {
		pieces []string
		ids    []int
	}{
		{[]string{"a", "b", "c", "d"}, []int{0, 1, 2, 3}},
		{[]string{"a", "ab", "abc", "bcd", "d"}, []int{2, 4}},
		{[]string{"a", "ab", "abc", "bcd"}, nil},
		{[]string{"abcdx", "ab", "c"}, nil},
		{[]string{"abcdx", "ab", "cd"}, []int{1, 2}},
		{[]string{"", "x"}, nil},
	} {
		s := begun(t, c, impl.Voc{Pieces: want.pieces, End: -1})
		if text, ids := impl.SessJump(s); text != "abcd" || !slices.Equal(ids, want.ids) {
			t.Errorf("%q: jumps with %q, %v", want.pieces, text, ids)
		}
	}
	s := begun(t, c, impl.Voc{Pieces: []string{"abcd", "ab", "cd"}, End: 0})
	if text, ids := impl.SessJump(s); text != "abcd" || !slices.Equal(ids, []int{1, 2}) {
		t.Errorf("%s: jumps with %q, %v", showSess(s), text, ids)
	}
}

func TestP77TakingBackInTwoParts(t *testing.T) {
	seen := map[bool]int{}
	eachSess(t, 40, 10, func(s impl.Sess) {
		for first := range s.Past + 1 {
			once := wentBack(t, s, first)
			for _, second := range []int{0, 1, s.Past - first, s.Past - first + 1, 12, 13} {
				both, ok := impl.SessBack(s, first+second)
				twice, fine := impl.SessBack(once, second)
				if ok != fine || ok != (first+second <= s.Past) || ok && !sameSess(both, twice) {
					t.Fatalf("%s: with %d taken back, %v: %s, with %d and %d, %v: %s", showSess(s), first+second, ok, showSess(both), first, second, fine, showSess(twice))
				}
				seen[ok]++
			}
		}
	})
	hasSeen(t, seen, 1000)
}

// splits returns all lists of plain tokens with a text.
func splits(v impl.Voc, text string) [][]int {
	if text == "" {
		return [][]int{{}}
	}
	var out [][]int
	for id, token := range v.Pieces {
		rest, ok := strings.CutPrefix(text, token)
		if !ok || !plain(v, id) {
			continue
		}
		for _, ids := range splits(v, rest) {
			out = append(out, append([]int{id}, ids...))
		}
	}
	return out
}

func TestP78TheTokensOfATextDoNotMatter(t *testing.T) {
	v := impl.Voc{Pieces: []string{"a", "b", "ab", "ba", "a", "aab", "", "abab", "bb", "ab"}, End: 9}
	several := 0
	for _, c := range chartCfgs(t, 150) {
		if _, ok := impl.ChartOf(c, ""); !ok {
			continue
		}
		for _, text := range textsOf("ab", 4) {
			_, isPrefix := impl.ChartOf(c, text)
			jump := impl.MaskJump(c, text)
			for _, ids := range splits(v, text) {
				s := sessOf(c, v, min(len(ids), 1), ids...)
				if impl.SessOk(s) != isPrefix {
					t.Fatalf("%s is valid: %v", showSess(s), !isPrefix)
				}
				if !isPrefix {
					continue
				}
				hasSessMask(t, s, showMask(impl.MaskOf(c, v, text)))
				if got, _ := impl.SessJump(s); got != jump {
					t.Fatalf("%s: jumps with %q, not %q", showSess(s), got, jump)
				}
				several++
			}
		}
	}
	if several < 1000 {
		t.Errorf("only %d sessions", several)
	}
}

// With as many tokens as a session can have, nothing is permitted, though the same text in fewer tokens goes on.
func TestP78SessionsWithoutSpace(t *testing.T) {
	c := readCfg(t, `s = s "a" | ();`)
	for count, want := range map[int]string{58: "1110011", 59: "1110011", 60: "0000000"} {
		ids := slices.Repeat([]int{0}, count)
		hasSessMask(t, sessOf(c, letterVoc(), 0, ids...), want)
		if count%2 == 0 {
			hasSessMask(t, sessOf(c, letterVoc(), 0, slices.Repeat([]int{1}, count/2)...), "1110011")
		}
	}
	full := sessOf(c, letterVoc(), 12, slices.Repeat([]int{0}, 60)...)
	for id := range full.Voc.Pieces {
		tookNot(t, full, id)
	}
	if impl.SessEnded(full) || !impl.SessOk(full) {
		t.Errorf("%s: ended %v", showSess(full), impl.SessEnded(full))
	}
	hasSessMask(t, wentBack(t, full, 1), "1110011")
	ended := took(t, wentBack(t, full, 1), 5)
	permitsNone(t, ended)
	if !impl.SessEnded(ended) || len(ended.Ids) != 60 {
		t.Errorf("%s: ended %v", showSess(ended), impl.SessEnded(ended))
	}
}

// Texts end at ChartMax bytes, with fewer tokens than there can be.
func TestSessionsOfTheLongestTexts(t *testing.T) {
	c := readCfg(t, `s = s "a" | ();`)
	s := took(t, begun(t, c, letterVoc()), slices.Repeat([]int{2}, 12)...)
	for length, want := range map[int]string{72: "1110011", 74: "1110011", 75: "1100011", 78: "1100011", 79: "1000011", 80: "0000010"} {
		next := took(t, s, slices.Repeat([]int{0}, length-72)...)
		hasSessMask(t, next, want)
		if length == 80 {
			tookNot(t, next, 0)
			permitsNone(t, took(t, next, 5))
		}
	}
	// Without a sentence of 80 bytes, not even the end token is permitted.
	whole := strings.Repeat("a", 100)
	s = took(t, begun(t, cfgOf(1, prod(0, whole)), letterVoc()), append(slices.Repeat([]int{2}, 13), 0)...)
	hasSessMask(t, s, "1000001")
	s = took(t, s, 6)
	permitsNone(t, s)
	if text, ids := impl.SessJump(s); text != "" || len(ids) != 0 || impl.SessEnded(s) {
		t.Errorf("%s: jumps with %q, %v", showSess(s), text, ids)
	}
}

func TestP79TakingATokenAppendsItsBytes(t *testing.T) {
	taken := map[bool]int{}
	eachSess(t, 150, 8, func(s impl.Sess) {
		text, ok := impl.VocText(s.Voc, s.Ids)
		if !ok {
			t.Fatalf("%s has no text", showSess(s))
		}
		for _, id := range permittedIds(impl.SessMask(s)) {
			next := took(t, s, id)
			isEnd := id == s.Voc.End
			want := text
			if !isEnd {
				want += s.Voc.Pieces[id]
			}
			if got := textOf(t, s.Voc, next.Ids); got != want {
				t.Fatalf("%s: with %d taken, the text is %q", showSess(s), id, got)
			}
			if !isEnd && len(next.Ids) < 60 {
				hasSessMask(t, next, showMask(impl.MaskOf(s.Cfg, s.Voc, want)))
			}
			taken[isEnd]++
		}
	})
	hasSeen(t, taken, 200)
}
