package tests

import (
	"cmp"
	"slices"
	"strings"
	"testing"

	"loop.example/fretwork/impl"
)

// showMask writes a 1 for each token that is permitted, and a 0 for each other one.
func showMask(mask []bool) string {
	var out strings.Builder
	for _, isPermitted := range mask {
		if isPermitted {
			out.WriteString("1")
		} else {
			out.WriteString("0")
		}
	}
	return out.String()
}

// hasMask checks which tokens are permitted after a text.
func hasMask(t *testing.T, c impl.Cfg, v impl.Voc, text, want string) {
	t.Helper()
	if got := showMask(impl.MaskOf(c, v, text)); got != want {
		t.Errorf("%s: after %q, %s of %q are permitted, not %s", showCfg(c), text, got, v.Pieces, want)
	}
}

// jumpsTo checks which bytes are forced after a text.
func jumpsTo(t *testing.T, c impl.Cfg, text, want string) {
	t.Helper()
	if got := impl.MaskJump(c, text); got != want {
		t.Errorf("%s: %q forces %q, not %q", showCfg(c), text, got, want)
	}
}

// finishes checks that a text has a completion, and which one.
func finishes(t *testing.T, c impl.Cfg, text, want string) {
	t.Helper()
	if got, ok := impl.MaskFinish(c, text); !ok || got != want {
		t.Errorf("%s: %q is completed by %q, %v, not by %q", showCfg(c), text, got, ok, want)
	}
}

// finishesNot checks that a text has no completion that MaskFinish can return.
func finishesNot(t *testing.T, c impl.Cfg, text string) {
	t.Helper()
	if got, ok := impl.MaskFinish(c, text); ok || got != "" {
		t.Errorf("%s: %q is completed by %q, %v", showCfg(c), text, got, ok)
	}
}

// hasFinish returns the completion of a text, which must have one.
func hasFinish(t *testing.T, c impl.Cfg, text string) string {
	t.Helper()
	end, ok := impl.MaskFinish(c, text)
	if !ok {
		t.Fatalf("MaskFinish of %q fails for %s", text, showCfg(c))
	}
	return end
}

// slowMask takes the document's sentence for each token by itself.
func slowMask(c impl.Cfg, v impl.Voc, text string) []bool {
	mask := make([]bool, len(v.Pieces))
	for id, token := range v.Pieces {
		switch {
		case id == v.End:
			mask[id] = isSentence(c, text)
		case token != "":
			_, mask[id] = impl.ChartOf(c, text+token)
		}
	}
	return mask
}

// nextTexts returns the bytes that can come after a chart, each as a text.
func nextTexts(c impl.Cfg, ch impl.Chart) []string {
	var out []string
	for b, isNext := range impl.ChartNext(c, ch) {
		if isNext {
			out = append(out, string([]byte{byte(b)}))
		}
	}
	return out
}

// slowJump takes the document's sentence for each byte, with a new chart each time.
func slowJump(c impl.Cfg, text string) string {
	forced := ""
	for len(forced) < impl.MaskMaxJump {
		ch, ok := impl.ChartOf(c, text+forced)
		if !ok || impl.ChartEnds(c, ch) || len(nextTexts(c, ch)) != 1 {
			break
		}
		forced += nextTexts(c, ch)[0]
	}
	return forced
}

// endsAfter returns what the given sentences have after a text with which they begin, the shortest first, those of one length in order.
func endsAfter(sentences []string, text string) []string {
	var out []string
	for _, whole := range sentences {
		if end, ok := strings.CutPrefix(whole, text); ok {
			out = append(out, end)
		}
	}
	slices.SortFunc(out, func(a, b string) int {
		return cmp.Or(cmp.Compare(len(a), len(b)), strings.Compare(a, b))
	})
	return out
}

// maskPieces returns tokens of the bytes a and b that begin, end and contain one another, some of them equal, some without bytes, and some that no text goes on with.
func maskPieces() []string {
	return slices.Concat(textsOf("ab", 3), []string{"", "a", "ab", "ab", "c", "ac", "\x00", "abab", "bbaab", "aaaaaa", "ababab"})
}

// maskVocs returns vocabularies of these tokens without an end token, with one that has no bytes, with one that is equal to other tokens, and with one that begins and goes on from others.
func maskVocs() []impl.Voc {
	pieces := maskPieces()
	var out []impl.Voc
	for _, end := range []int{-1, 0, slices.Index(pieces, "ab"), slices.Index(pieces, "aba"), len(pieces) - 1} {
		out = append(out, impl.Voc{Pieces: pieces, End: end})
	}
	return out
}

// byteVocs returns vocabularies that have each byte as a token once, together.
func byteVocs() []impl.Voc {
	var out []impl.Voc
	for low := 0; low < 256; low += impl.VocMax {
		v := impl.Voc{End: -1}
		for b := low; b < min(low+impl.VocMax, 256); b++ {
			v.Pieces = append(v.Pieces, string([]byte{byte(b)}))
		}
		out = append(out, v)
	}
	return out
}

// eachText calls check with texts of grammars of edge cases and with mixed ones, texts without a chart among them.
func eachText(t *testing.T, count, most int, check func(c impl.Cfg, text string)) {
	t.Helper()
	for _, c := range chartCfgs(t, count) {
		for _, text := range textsOf("ab", most) {
			check(c, text)
		}
	}
	for _, c := range wideCfgs(t) {
		for _, text := range wideTexts() {
			check(c, text)
		}
	}
}

// eachPrefix calls check with those of these texts that have a chart.
func eachPrefix(t *testing.T, count, most int, check func(c impl.Cfg, text string, ch impl.Chart)) {
	t.Helper()
	eachText(t, count, most, func(c impl.Cfg, text string) {
		if ch, ok := impl.ChartOf(c, text); ok {
			check(c, text, ch)
		}
	})
}

// wideTexts returns texts for the productions of wideCfgs.
func wideTexts() []string {
	return []string{"", "\x00", "\x80", "\xff", "a", "x", "zx", "(", "()", "((", "(()", "t", "tru", "true", "[", "[null", "[n", "[true,", "[[]", "-", "-1", "1", "0", "2101", "1+", "(1", "1+(1", "11+1"}
}

// wideVoc has tokens of the productions of wideCfgs.
func wideVoc() impl.Voc {
	return impl.Voc{Pieces: []string{"\x00", "\x7f", "\x80", "\xff", "a", "ax", "x", "xx", "(", ")", "()", "((", "))(", "n", "null", "ull", "rue", "true]", ",", ",[", "[", "]", "[]", "]]", "-", "-1", "1", "1+", "11", "+(1", "0", "", "1", "end", "10101", "],nu"}, End: 33}
}

// vocsFor returns vocabularies with tokens that texts of these productions have.
func vocsFor(c impl.Cfg) []impl.Voc {
	for _, p := range c.Prods {
		for _, s := range p.Body {
			if s.Head < 0 && (s.Low < 'a' || s.High > 'b') {
				return []impl.Voc{wideVoc()}
			}
		}
	}
	return maskVocs()
}

// eachMask calls check with each of these texts and with the mask of each vocabulary after it.
func eachMask(t *testing.T, count, most int, check func(c impl.Cfg, v impl.Voc, text string, mask []bool)) {
	t.Helper()
	eachText(t, count, most, func(c impl.Cfg, text string) {
		for _, v := range vocsFor(c) {
			mask := impl.MaskOf(c, v, text)
			if len(mask) != len(v.Pieces) {
				t.Fatalf("%s: after %q, the mask of %q has %d elements", showCfg(c), text, v.Pieces, len(mask))
			}
			check(c, v, text, mask)
		}
	})
}

// hasSeen checks that a test had enough cases of either kind to mean something.
func hasSeen(t *testing.T, seen map[bool]int, least int) {
	t.Helper()
	if seen[true] < least || seen[false] < least {
		t.Errorf("only %d cases one way, and %d the other", seen[true], seen[false])
	}
}
