package tests

import (
	"math"
	"slices"
	"strings"
	"testing"

	"loop.example/fretwork/impl"
)

func TestP66SessionsStartWhereThereIsASentence(t *testing.T) {
	seen := map[bool]int{}
	for _, c := range slices.Concat(chartCfgs(t, 300), validCfgs(), wideCfgs(t)) {
		hasSentence := slowLeast(c)[0] >= 0
		for _, v := range append(namedVocs(), maskVocs()[1]) {
			s, ok := impl.SessStart(c, v)
			if ok != hasSentence {
				t.Fatalf("%s: a session starts: %v", showCfg(c), ok)
			}
			if ok && !sameSess(s, sessOf(c, v, 0)) || !ok && !isZeroSess(s) {
				t.Fatalf("%s: %v, a session starts as %s", showCfg(c), ok, showSess(s))
			}
			if empty := sessOf(c, v, 0); impl.SessOk(empty) != ok {
				t.Fatalf("%s is valid: %v", showSess(empty), !ok)
			}
			seen[ok]++
		}
	}
	hasSeen(t, seen, 500)
}

func TestNoSessionStartsWithoutASentence(t *testing.T) {
	for _, grammar := range []string{`s = s;`, `s = "a" s;`, `s = s "a";`, `s = "a" n; n = n;`, `s = n{1,2}; n = n n;`} {
		c := readCfg(t, grammar)
		for _, v := range namedVocs() {
			if s, ok := impl.SessStart(c, v); ok || !isZeroSess(s) {
				t.Errorf("%s: starts as %s", grammar, showSess(s))
			}
			checkNoSess(t, sessOf(c, v, 0))
		}
	}
	for _, c := range []impl.Cfg{cfgOf(1), cfgOf(impl.CfgMaxHeads), cfgOf(2, prod(1, "a")), cfgOf(2, prod(0, 1), prod(1, 0))} {
		checkNoSess(t, sessOf(c, letterVoc(), 0))
	}
}

func TestSessionsOfInvalidProductionsAndVocabularies(t *testing.T) {
	c := readCfg(t, `s = "a"*;`)
	check := func(c impl.Cfg, v impl.Voc) {
		t.Helper()
		if s, ok := impl.SessStart(c, v); ok || !isZeroSess(s) {
			t.Errorf("%+v, %+v starts as %s", c, v, showSess(s))
		}
		for _, s := range []impl.Sess{sessOf(c, v, 0), sessOf(c, v, 0, 0), sessOf(c, v, 1, 0, 0), sessOf(c, v, 2, 0, v.End), sessOf(c, v, -1)} {
			checkNoSess(t, s)
		}
	}
	for _, v := range invalidVocs() {
		check(c, v)
		check(impl.Cfg{}, v)
	}
	for _, c := range invalidCfgs() {
		check(c, letterVoc())
	}
}

func TestSessionsWithInvalidTokens(t *testing.T) {
	c := readCfg(t, `s = "ab"{1,3} | "c";`)
	v := impl.Voc{Pieces: []string{"a", "b", "ab", "aba", "c", "", "end", "d", "ab"}, End: 6}
	for _, ids := range [][]int{{}, {0}, {2}, {8}, {3}, {4}, {0, 1}, {3, 1}, {3, 1, 6}, {4, 6}, {2, 2, 2}, {2, 8, 2, 6}, {3, 1, 0, 1}} {
		if s := sessOf(c, v, 0, ids...); !impl.SessOk(s) {
			t.Errorf("%s is not valid", showSess(s))
		}
	}
	for _, ids := range [][]int{
		// Tokens that do not exist.
		{-1}, {9}, {math.MinInt}, {math.MaxInt}, {0, -1}, {0, 9}, {2, -1, 2}, {2, 9, 2},
		// Tokens that are not permitted, first, last and in the middle.
		{1}, {7}, {0, 0}, {2, 1}, {4, 4}, {3, 3}, {3, 0, 1}, {0, 4}, {2, 4, 2}, {2, 2, 2, 2}, {2, 2, 3},
		// A token without bytes.
		{5}, {2, 5}, {5, 2}, {2, 5, 6},
		// The end token where no sentence ends.
		{6}, {0, 6}, {3, 6},
		// What follows the end token.
		{2, 6, 6}, {2, 6, 2}, {2, 6, 0, 1}, {4, 6, 5}, {2, 6, -1}, {2, 6, 9}, {2, 2, 2, 6, 6}, {4, 6, 6, 6},
	} {
		for past := range len(ids) + 1 {
			checkNoSess(t, sessOf(c, v, past, ids...))
		}
	}
	// Without an end token, no token is one.
	v.End = -1
	for _, ids := range [][]int{{-1}, {2, -1}, {2, 6}, {2, 5}} {
		checkNoSess(t, sessOf(c, v, 0, ids...))
	}
	if impl.SessEnded(sessOf(c, v, 0, 2)) {
		t.Error("a session without an end token has ended")
	}
}

func TestPastOutOfRange(t *testing.T) {
	c := readCfg(t, `s = "a"*;`)
	for count := range 16 {
		for _, end := range []int{0, 1} {
			ids := append(slices.Repeat([]int{0}, count), slices.Repeat([]int{5}, end)...)
			most := min(len(ids), 12)
			for past := range most + 1 {
				if s := sessOf(c, letterVoc(), past, ids...); !impl.SessOk(s) {
					t.Errorf("%s is not valid", showSess(s))
				}
			}
			for _, past := range []int{-1, most + 1, most + 2, 61, math.MinInt, math.MaxInt} {
				checkNoSess(t, sessOf(c, letterVoc(), past, ids...))
			}
		}
	}
}

func TestSessionsOfTooManyTokensAndBytes(t *testing.T) {
	for _, s := range longSess(t) {
		if !impl.SessOk(s) {
			t.Errorf("%s is not valid", showSess(s))
		}
		text := sessText(s)
		for id, token := range s.Voc.Pieces {
			longer := copySess(s)
			longer.Ids = append(longer.Ids, id)
			fits := len(s.Ids) < 60 && !hasEnd(s) && (id == s.Voc.End || len(text)+len(token) <= 80 && strings.HasPrefix(token, "a"))
			if impl.SessOk(longer) != fits {
				t.Errorf("%s is valid: %v", showSess(longer), !fits)
			}
			if !fits {
				checkNoSess(t, longer)
			}
		}
	}
	c := readCfg(t, `s = "a"*;`)
	for _, count := range []int{61, 62, 80, 1000} {
		checkNoSess(t, sessOf(c, letterVoc(), 0, slices.Repeat([]int{0}, count)...))
	}
	checkNoSess(t, sessOf(c, letterVoc(), 0, slices.Repeat([]int{2}, 14)...))
	checkNoSess(t, sessOf(c, letterVoc(), 0, append(slices.Repeat([]int{0}, 60), 5)...))
}

// Sessions with any tokens are valid if and only if the document says so.
func TestSessionsAreValidAsInTheDocument(t *testing.T) {
	seen := map[bool]int{}
	below := numbers()
	check := func(s impl.Sess) {
		t.Helper()
		isValid := slowSessOk(s)
		if impl.SessOk(s) != isValid || impl.SessEnded(s) != (isValid && hasEnd(s)) {
			t.Fatalf("%s: valid %v, ended %v", showSess(s), impl.SessOk(s), impl.SessEnded(s))
		}
		seen[isValid]++
	}
	for _, c := range append(chartCfgs(t, 300), wideCfgs(t)...) {
		vocs := vocsFor(c)
		v := vocs[below(len(vocs))]
		for id := -1; id <= len(v.Pieces); id++ {
			check(sessOf(c, v, below(3)-1, id))
		}
		for range 10 {
			var ids []int
			for range below(5) {
				ids = append(ids, below(len(v.Pieces)))
			}
			check(sessOf(c, v, below(4), ids...))
		}
	}
	// One token is changed, left out or put in.
	eachSess(t, 60, 6, func(s impl.Sess) {
		check(s)
		for range 2 {
			at, id := below(len(s.Ids)+1), below(len(s.Voc.Pieces))
			check(sessOf(s.Cfg, s.Voc, s.Past, slices.Insert(slices.Clone(s.Ids), at, id)...))
			if at < len(s.Ids) {
				check(sessOf(s.Cfg, s.Voc, s.Past, slices.Delete(slices.Clone(s.Ids), at, at+1)...))
				check(sessOf(s.Cfg, s.Voc, s.Past, slices.Replace(slices.Clone(s.Ids), at, at+1, id)...))
			}
		}
	})
	hasSeen(t, seen, 1000)
}

func TestP75SessionsWithoutTheirLastToken(t *testing.T) {
	eachSess(t, 80, 14, func(s impl.Sess) {
		for count := len(s.Ids); count >= 0; count-- {
			shorter := sessOf(s.Cfg, s.Voc, min(s.Past, count), s.Ids[:count]...)
			if !impl.SessOk(shorter) {
				t.Fatalf("%s is not valid", showSess(shorter))
			}
		}
		if s.Past > 0 {
			if shorter := wentBack(t, s, 1); !impl.SessOk(shorter) {
				t.Fatalf("%s is not valid", showSess(shorter))
			}
		}
	})
}

func TestP76TextsOfSessionsAreInSentences(t *testing.T) {
	found := 0
	for _, c := range chartCfgs(t, 150) {
		sentences := derived(c, 8)
		for _, v := range maskVocs() {
			s, ok := impl.SessStart(c, v)
			if !ok {
				continue
			}
			walkSess(t, s, 3, numbers(), func(s impl.Sess) {
				text := sessText(s)
				ch := hasChart(t, c, text)
				if len(text)+impl.ChartLeast(c, ch) > 8 {
					return
				}
				ends := endsAfter(sentences, text)
				if len(ends) == 0 || hasEnd(s) && ends[0] != "" {
					t.Fatalf("%s: the sentences are %q", showSess(s), sentences)
				}
				found++
			})
		}
	}
	if found < 500 {
		t.Errorf("only %d texts are in sentences", found)
	}
}

func TestP74WhatWasTakenCanBeCompleted(t *testing.T) {
	seen := map[bool]int{}
	check := func(s impl.Sess) {
		t.Helper()
		text := sessText(s)
		lack := impl.ChartLeast(s.Cfg, hasChart(t, s.Cfg, text))
		end, ok := impl.MaskFinish(s.Cfg, text)
		if ok != (len(text)+lack <= impl.ChartMax) || ok && !isSentence(s.Cfg, text+end) || lack < 0 {
			t.Fatalf("%s: lacks %d, and is completed by %q, %v", showSess(s), lack, end, ok)
		}
		if hasEnd(s) && (!ok || end != "") {
			t.Fatalf("%s has ended, and is completed by %q, %v", showSess(s), end, ok)
		}
		seen[ok && end == ""]++
	}
	eachSess(t, 300, 14, check)
	hasSeen(t, seen, 500)
	// Where there is no such sentence of at most ChartMax bytes, tokens are taken all the same.
	s := begun(t, readCfg(t, `s = "a" s "bb" | ();`), letterVoc())
	for range 27 {
		check(s)
		s = took(t, s, 0)
	}
	finishesNot(t, s.Cfg, sessText(s))
	for range 26 {
		check(s)
		s = took(t, s, 1)
	}
	check(s)
}
