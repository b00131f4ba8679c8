package tests

import (
	"fmt"
	"math"
	"slices"
	"strings"
	"testing"

	"loop.example/fretwork/impl"
)

// sessOf takes the fields as they are, whether the session is valid or not.
func sessOf(c impl.Cfg, v impl.Voc, past int, ids ...int) impl.Sess {
	return impl.Sess{Cfg: c, Voc: v, Ids: ids, Past: past}
}

func showSess(s impl.Sess) string {
	return fmt.Sprintf("%s, tokens %q, end %d, with %v, past %d", showCfg(s.Cfg), s.Voc.Pieces, s.Voc.End, s.Ids, s.Past)
}

func sameSess(a, b impl.Sess) bool {
	return sameCfg(a.Cfg, b.Cfg) && sameVoc(a.Voc, b.Voc) && slices.Equal(a.Ids, b.Ids) && a.Past == b.Past
}

func copySess(s impl.Sess) impl.Sess {
	return impl.Sess{Cfg: copyCfg(s.Cfg), Voc: copyVoc(s.Voc), Ids: slices.Clone(s.Ids), Past: s.Past}
}

func isZeroSess(s impl.Sess) bool {
	return sameSess(s, impl.Sess{})
}

// begun returns SessStart, which must succeed.
func begun(t *testing.T, c impl.Cfg, v impl.Voc) impl.Sess {
	t.Helper()
	s, ok := impl.SessStart(c, v)
	if !ok {
		t.Fatalf("no session starts with %s, %q, end %d", showCfg(c), v.Pieces, v.End)
	}
	return s
}

// took takes the tokens one by one, which must all succeed.
func took(t *testing.T, s impl.Sess, ids ...int) impl.Sess {
	t.Helper()
	for _, id := range ids {
		next, ok := impl.SessTake(s, id)
		if !ok {
			t.Fatalf("%s: %d is not taken", showSess(s), id)
		}
		s = next
	}
	return s
}

// tookNot checks that a token is not taken, and that the session is returned unchanged.
func tookNot(t *testing.T, s impl.Sess, id int) {
	t.Helper()
	if next, ok := impl.SessTake(s, id); ok || !sameSess(next, s) {
		t.Fatalf("%s: with %d taken, %v: %s", showSess(s), id, ok, showSess(next))
	}
}

// wentBack takes so many tokens back, which must succeed.
func wentBack(t *testing.T, s impl.Sess, n int) impl.Sess {
	t.Helper()
	before, ok := impl.SessBack(s, n)
	if !ok {
		t.Fatalf("%s: %d tokens are not taken back", showSess(s), n)
	}
	return before
}

// wentNotBack checks that so many tokens are not taken back, and that the session is returned unchanged.
func wentNotBack(t *testing.T, s impl.Sess, n int) {
	t.Helper()
	if before, ok := impl.SessBack(s, n); ok || !sameSess(before, s) {
		t.Fatalf("%s: with %d taken back, %v: %s", showSess(s), n, ok, showSess(before))
	}
}

// hasSessMask checks which tokens are permitted in a session.
func hasSessMask(t *testing.T, s impl.Sess, want string) {
	t.Helper()
	if got := showMask(impl.SessMask(s)); got != want {
		t.Fatalf("%s: %s are permitted, not %s", showSess(s), got, want)
	}
}

// permitsNone checks that a session has a mask, without any token.
func permitsNone(t *testing.T, s impl.Sess) {
	t.Helper()
	hasSessMask(t, s, strings.Repeat("0", len(s.Voc.Pieces)))
}

// sessText joins the tokens of a session by itself.
func sessText(s impl.Sess) string {
	text := ""
	for _, id := range s.Ids {
		if id != s.Voc.End {
			text += s.Voc.Pieces[id]
		}
	}
	return text
}

func hasEnd(s impl.Sess) bool {
	return len(s.Ids) > 0 && s.Ids[len(s.Ids)-1] == s.Voc.End
}

// slowSessOk takes the document's sentence, with a mask for each token.
func slowSessOk(s impl.Sess) bool {
	if !impl.CfgOk(s.Cfg) || !impl.VocOk(s.Voc) || len(s.Ids) > 60 || s.Past < 0 || s.Past > 12 || s.Past > len(s.Ids) {
		return false
	}
	if _, ok := impl.ChartOf(s.Cfg, ""); !ok {
		return false
	}
	for i, id := range s.Ids {
		before := impl.Sess{Voc: s.Voc, Ids: s.Ids[:i]}
		if id < 0 || id >= len(s.Voc.Pieces) || hasEnd(before) || !impl.MaskOf(s.Cfg, s.Voc, sessText(before))[id] {
			return false
		}
	}
	return true
}

// checkNoSess checks that all functions which take a session say that it is invalid.
func checkNoSess(t *testing.T, s impl.Sess) {
	t.Helper()
	if impl.SessOk(s) || impl.SessEnded(s) || len(impl.SessMask(s)) != 0 {
		t.Errorf("%s: ok %v, ended %v, mask %s", showSess(s), impl.SessOk(s), impl.SessEnded(s), showMask(impl.SessMask(s)))
	}
	if text, ids := impl.SessJump(s); text != "" || len(ids) != 0 {
		t.Errorf("%s: jumps with %q, %v", showSess(s), text, ids)
	}
	for _, n := range []int{math.MinInt, -1, 0, 1, 2, 12, 13, 40, math.MaxInt} {
		if next, ok := impl.SessTake(s, n); ok || !isZeroSess(next) {
			t.Errorf("%s: takes %d, %v, to %s", showSess(s), n, ok, showSess(next))
		}
		if before, ok := impl.SessBack(s, n); ok || !isZeroSess(before) {
			t.Errorf("%s: goes back %d, %v, to %s", showSess(s), n, ok, showSess(before))
		}
	}
}

// permittedIds returns the tokens of a mask.
func permittedIds(mask []bool) []int {
	var ids []int
	for id, isPermitted := range mask {
		if isPermitted {
			ids = append(ids, id)
		}
	}
	return ids
}

// sessVocs returns vocabularies of a few tokens of the bytes a and b, some of them equal or without bytes, each with another end token, and one with none.
func sessVocs() []impl.Voc {
	pieces := []string{"a", "b", "ab", "", "a", "bba", "aaaa", "end"}
	var out []impl.Voc
	for _, end := range []int{-1, 2, 3, 7} {
		out = append(out, impl.Voc{Pieces: pieces, End: end})
	}
	return out
}

// walkSess takes tokens picked at random, and now and then, or where the text gets long, takes some back, and calls check with the session before each step.
func walkSess(t *testing.T, s impl.Sess, steps int, below func(int) int, check func(s impl.Sess)) {
	t.Helper()
	for range steps {
		check(s)
		ids := permittedIds(impl.SessMask(s))
		if len(ids) == 0 || len(sessText(s)) > 8 || below(8) == 0 {
			s = wentBack(t, s, below(s.Past+1))
		} else {
			s = took(t, s, ids[below(len(ids))])
		}
	}
	check(s)
}

// eachSess calls check with the sessions of walks with grammars of edge cases, with so many mixed ones, and with those that are long, as far as they have a sentence.
func eachSess(t *testing.T, count, steps int, check func(s impl.Sess)) {
	t.Helper()
	below := numbers()
	for _, c := range chartCfgs(t, count) {
		if s, ok := impl.SessStart(c, sessVocs()[below(4)]); ok {
			walkSess(t, s, steps, below, check)
		}
	}
	for _, c := range wideCfgs(t) {
		walkSess(t, begun(t, c, wideVoc()), steps, below, check)
	}
	for _, s := range longSess(t) {
		check(s)
	}
}

// letterVoc has short tokens of the letter a and one of b, and the end token.
func letterVoc() impl.Voc {
	return impl.Voc{Pieces: []string{"a", "aa", "aaaaaa", "b", "", "end", "a"}, End: 5}
}

// longSess returns sessions at the limits: of VocIds tokens and one less, of ChartMax bytes and one less, and with SessPast tokens to take back and one less, each of them with the end token too.
func longSess(t *testing.T) []impl.Sess {
	t.Helper()
	var out []impl.Sess
	for _, grammar := range []string{`s = s "a" | ();`, `s = e s "a" | e; e = "b"?;`} {
		s := begun(t, readCfg(t, grammar), letterVoc())
		for _, ids := range [][]int{
			slices.Repeat([]int{0}, 59),
			slices.Repeat([]int{6, 0}, 30),
			slices.Repeat([]int{1}, 40),
			append(slices.Repeat([]int{2}, 13), 0),
			append(slices.Repeat([]int{2}, 13), 1),
			append(slices.Repeat([]int{1}, 21), slices.Repeat([]int{0}, 38)...),
			slices.Repeat([]int{0}, 11),
			slices.Repeat([]int{0}, 12),
			slices.Repeat([]int{0}, 13),
		} {
			s.Ids, s.Past = ids, min(len(ids), impl.SessPast)
			out = append(out, copySess(s))
			if len(ids) < impl.VocIds {
				s.Ids, s.Past = append(slices.Clone(ids), 5), min(len(ids)+1, impl.SessPast)
				out = append(out, copySess(s))
			}
		}
	}
	return out
}
