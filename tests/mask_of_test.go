package tests

import (
	"slices"
	"strings"
	"testing"

	"loop.example/fretwork/impl"
)

func TestMasksWrittenOut(t *testing.T) {
	c := readCfg(t, `s = s "+" n | n; n = [0-9] n | [0-9] | "(" s ")";`)
	v := impl.Voc{Pieces: []string{"1", "12", "+", "1+", "+1", "(", ")", "()", "(1)", "))", "", "a", "1"}, End: 10}
	for _, want := range []struct{ text, mask string }{
		{"", "1101010010001"},
		{"1", "1111110010101"},
		{"1+", "1101010010001"},
		{"(", "1101010010001"},
		{"(1", "1111111010001"},
		{"((1", "1111111011001"},
		{"(1)", "0010100000100"},
		{"+", "0000000000000"},
		{"1)", "0000000000000"},
		{"a", "0000000000000"},
	} {
		hasMask(t, c, v, want.text, want.mask)
	}
}

// Where a sentence ends, the end token is permitted, and besides it whatever goes on.
func TestMasksWhereASentenceEndsAndOthersContinue(t *testing.T) {
	v := impl.Voc{Pieces: []string{"a", "ab", "b", "", "bc", "end", "abc"}, End: 5}
	for grammar, wants := range map[string]map[string]string{
		`s = "a" | "abc";`:            {"": "1100001", "a": "0010110", "ab": "0000000", "abc": "0000010"},
		`s = "a" ("b" "c"?)?;`:        {"": "1100001", "a": "0010110", "ab": "0000010", "abc": "0000010"},
		`s = "a"*;`:                   {"": "1000010", "a": "1000010", "aa": "1000010"},
		`s = ();`:                     {"": "0000010", "a": "0000000"},
		`s = () | "ab" s;`:            {"": "1100010", "a": "0010000", "ab": "1100010"},
		`s = s "b" | "a" | ();`:       {"": "1110010", "a": "0010010", "b": "0010010", "ab": "0010010"},
		`s = e s "a" | e; e = "b"?;`:  {"": "1010010", "b": "1010010", "bb": "1010000", "bba": "1000010", "bbaa": "1000010"},
		`s = x x x; x = "a"? "bc"?;`:  {"": "1110111", "a": "1110111", "aaa": "0010110", "aaab": "0000000", "aaabc": "0000010"},
		`s = "end" | "endb" | "end";`: {"": "0000000", "end": "0010010", "endb": "0000010", "en": "0000000"},
	} {
		c := readCfg(t, grammar)
		for text, want := range wants {
			hasMask(t, c, v, text, want)
		}
	}
}

func TestMasksAreThoseOfTheDocument(t *testing.T) {
	seen := map[bool]int{}
	eachMask(t, 100, 3, func(c impl.Cfg, v impl.Voc, text string, mask []bool) {
		want := slowMask(c, v, text)
		if !slices.Equal(mask, want) {
			t.Fatalf("%s: after %q, %s of %q are permitted, not %s", showCfg(c), text, showMask(mask), v.Pieces, showMask(want))
		}
		seen[slices.Contains(mask, true)]++
	})
	hasSeen(t, seen, 1000)
}

// The vocabularies of the edge cases of chapter 1, each of them with every possible end token.
func TestMasksOfAllVocabularies(t *testing.T) {
	var cfgs []impl.Cfg
	for _, grammar := range []string{`s = "a" s "b" | "ab"* | ();`, `s = "b"? [\00] [^a] s | "aab" | "ba";`, `s = [^]{0,6};`, `s = s;`} {
		cfgs = append(cfgs, readCfg(t, grammar))
	}
	for _, v := range validVocs() {
		for _, c := range cfgs {
			for _, text := range []string{"", "a", "ab", "aab", "b"} {
				if mask, want := impl.MaskOf(c, v, text), slowMask(c, v, text); !slices.Equal(mask, want) {
					t.Fatalf("%s: after %q, %s of %q are permitted, not %s", showCfg(c), text, showMask(mask), v.Pieces, showMask(want))
				}
			}
		}
	}
}

// All of the most tokens that there can be have their own element.
func TestMasksOfTheGreatestVocabularies(t *testing.T) {
	c := readCfg(t, `s = [^]*;`)
	hasMask(t, c, widestVoc(), "", strings.Repeat("1", impl.VocMax))
	hasMask(t, c, equalVoc(), "", strings.Repeat("1", impl.VocMax))
	hasMask(t, c, equalVoc(), strings.Repeat("a", 75), strings.Repeat("0", 20)+"1"+strings.Repeat("0", 19))
	for id, token := range widestVoc().Pieces {
		v := widestVoc()
		hasMask(t, cfgOf(1, prod(0, token)), v, "", strings.Repeat("0", id)+"1"+strings.Repeat("0", impl.VocMax-1-id))
		v.End = id
		hasMask(t, cfgOf(1, prod(0, token)), v, token, strings.Repeat("0", id)+"1"+strings.Repeat("0", impl.VocMax-1-id))
	}
}

func TestMasksOfInvalidArguments(t *testing.T) {
	texts := []string{"", "a", "ab", "x", strings.Repeat("a", 80), strings.Repeat("a", 81)}
	for _, text := range texts {
		for _, c := range invalidCfgs() {
			for _, v := range append(invalidVocs(), namedVocs()...) {
				if mask := impl.MaskOf(c, v, text); len(mask) != 0 {
					t.Errorf("MaskOf of %+v, %q is %v", c, text, mask)
				}
			}
		}
		for _, c := range append(validCfgs()[:7], readCfg(t, `s = "a"*;`)) {
			for _, v := range invalidVocs() {
				if mask := impl.MaskOf(c, v, text); len(mask) != 0 {
					t.Errorf("MaskOf of %+v, %q is %v", v, text, mask)
				}
			}
		}
	}
}

// The tokens of a text without a chart are still counted.
func TestMasksOfTextsWithoutCharts(t *testing.T) {
	for _, v := range append(namedVocs(), maskVocs()...) {
		none := strings.Repeat("0", len(v.Pieces))
		for _, c := range []impl.Cfg{cfgOf(1), cfgOf(2, prod(1, "a")), readCfg(t, `s = s "a";`), readCfg(t, `s = "a" n; n = n;`)} {
			for _, text := range []string{"", "a", "ab"} {
				hasMask(t, c, v, text, none)
			}
		}
		c := readCfg(t, `s = "a"*;`)
		for _, text := range []string{"b", "aab", "\x00", strings.Repeat("a", 81), strings.Repeat("a", 1000), strings.Repeat("a", 80) + "b"} {
			hasMask(t, c, v, text, none)
		}
	}
}

func TestMasksOfTheLongestTexts(t *testing.T) {
	v := impl.Voc{Pieces: []string{"a", "aa", "aaa", "aaaaaa", "", "a", "b", "end"}, End: 7}
	for _, grammar := range []string{`s = "a"*;`, `s = s "a" | ();`, `s = "a" s | ();`, `s = e s "a" | e; e = "b"?;`} {
		c := readCfg(t, grammar)
		for length, want := range map[int]string{74: "11110101", 75: "11100101", 77: "11100101", 78: "11000101", 79: "10000101", 80: "00000001", 81: "00000000"} {
			hasMask(t, c, v, strings.Repeat("a", length), want)
		}
	}
	nested := readCfg(t, `s = "b" s "a" | ();`)
	hasMask(t, nested, v, strings.Repeat("b", 40)+strings.Repeat("a", 34), "11110100")
	hasMask(t, nested, v, strings.Repeat("b", 40)+strings.Repeat("a", 39), "10000100")
	hasMask(t, nested, v, strings.Repeat("b", 40)+strings.Repeat("a", 40), "00000001")
	hasMask(t, nested, v, strings.Repeat("b", 41)+strings.Repeat("a", 39), "00000000")
	// Of a sentence that is longer, no token is permitted after 80 bytes, not even the end token.
	c := cfgOf(1, prod(0, strings.Repeat("a", 100)))
	hasMask(t, c, v, strings.Repeat("a", 79), "10000100")
	hasMask(t, c, v, strings.Repeat("a", 80), "00000000")
	c = cfgOf(1, prod(0, strings.Repeat("a", 81)), prod(0, strings.Repeat("a", 80)))
	hasMask(t, c, v, strings.Repeat("a", 77), "11100100")
	hasMask(t, c, v, strings.Repeat("a", 80), "00000001")
}

func TestP45TokensArePermittedIfTheTextHasAChart(t *testing.T) {
	seen := map[bool]int{}
	eachMask(t, 30, 3, func(c impl.Cfg, v impl.Voc, text string, mask []bool) {
		for id, isPermitted := range mask {
			if !plain(v, id) {
				continue
			}
			if _, ok := impl.ChartOf(c, text+v.Pieces[id]); ok != isPermitted {
				t.Fatalf("%s: %q after %q: %v, but its chart %v", showCfg(c), v.Pieces[id], text, isPermitted, ok)
			}
			seen[isPermitted]++
		}
	})
	hasSeen(t, seen, 1000)
}

func TestP46PermittedTokensAreThoseOfSentences(t *testing.T) {
	seen := map[bool]int{}
	for _, c := range chartCfgs(t, 100) {
		sentences := derived(c, 8)
		for _, text := range textsOf("ab", 3) {
			for _, v := range maskVocs()[:2] {
				for id, isPermitted := range impl.MaskOf(c, v, text) {
					if !plain(v, id) {
						continue
					}
					next := text + v.Pieces[id]
					if ends := endsAfter(sentences, next); len(ends) > 0 && !isPermitted {
						t.Fatalf("%s: %q is not permitted after %q, but %q is a sentence", showCfg(c), v.Pieces[id], text, next+ends[0])
					}
					if end, ok := impl.MaskFinish(c, next); ok != isPermitted || ok && !isSentence(c, next+end) {
						t.Fatalf("%s: %q after %q: %v, but its completion is %q, %v", showCfg(c), v.Pieces[id], text, isPermitted, end, ok)
					}
					seen[isPermitted]++
				}
			}
		}
	}
	hasSeen(t, seen, 1000)
}

// A permitted token has no completion that MaskFinish returns only where the sentence is too long.
func TestP46TokensOfLongSentences(t *testing.T) {
	c := readCfg(t, `s = "a" s "bb" | ();`)
	v := impl.Voc{Pieces: []string{"a", "aa", "b", "bb", "bbb"}, End: -1}
	hasMask(t, c, v, strings.Repeat("a", 25), "11111")
	finishes(t, c, strings.Repeat("a", 26), strings.Repeat("b", 52))
	finishesNot(t, c, strings.Repeat("a", 27))
	hasMask(t, c, v, strings.Repeat("a", 27), "11111")
	finishesNot(t, c, strings.Repeat("a", 27)+"b")
	hasMask(t, c, v, strings.Repeat("a", 79), "10100")
	finishesNot(t, c, strings.Repeat("a", 79)+"b")
}

func TestP47TheEndTokenIsPermittedAfterSentences(t *testing.T) {
	seen := map[bool]int{}
	for _, c := range chartCfgs(t, 500) {
		sentences := derived(c, 4)
		for _, text := range textsOf("ab", 4) {
			isOne := slices.Contains(sentences, text)
			for _, v := range maskVocs() {
				mask := impl.MaskOf(c, v, text)
				if v.End >= 0 && mask[v.End] != isOne {
					t.Fatalf("%s: the end token %q after %q: %v", showCfg(c), v.Pieces[v.End], text, mask[v.End])
				}
			}
			seen[isOne]++
		}
	}
	hasSeen(t, seen, 500)
	// The bytes of the end token do not matter, wherever it stands.
	c := readCfg(t, `s = "ab" "ab"?;`)
	hasMask(t, c, impl.Voc{Pieces: []string{"ab"}, End: 0}, "", "0")
	hasMask(t, c, impl.Voc{Pieces: []string{"ab"}, End: 0}, "ab", "1")
	hasMask(t, c, impl.Voc{Pieces: []string{"ab"}, End: 0}, "abab", "1")
	hasMask(t, c, impl.Voc{Pieces: []string{"ab", "ab", "ab"}, End: 1}, "", "101")
	hasMask(t, c, impl.Voc{Pieces: []string{"ab", "ab", "ab"}, End: 1}, "ab", "111")
	hasMask(t, c, impl.Voc{Pieces: []string{"a", "ab", "abab"}, End: 2}, "abab", "001")
	hasMask(t, c, impl.Voc{Pieces: []string{"", "x"}, End: 1}, "abab", "01")
}

func TestP48TokensWithoutBytesAreNeverPermitted(t *testing.T) {
	eachMask(t, 200, 3, func(c impl.Cfg, v impl.Voc, text string, mask []bool) {
		for id, isPermitted := range mask {
			if isPermitted && v.Pieces[id] == "" && id != v.End {
				t.Fatalf("%s: token %d without bytes is permitted after %q", showCfg(c), id, text)
			}
		}
	})
	for _, grammar := range []string{`s = ();`, `s = "a"*;`, `s = ()*;`, `s = s s | ();`} {
		c := readCfg(t, grammar)
		hasMask(t, c, impl.Voc{Pieces: []string{"", "", ""}, End: -1}, "", "000")
		hasMask(t, c, impl.Voc{Pieces: []string{"", "", ""}, End: 1}, "", "010")
		hasMask(t, c, impl.Voc{Pieces: []string{""}, End: 0}, "", "1")
		hasMask(t, c, impl.Voc{Pieces: []string{"", "end"}, End: 1}, "", "01")
	}
}

func TestP49PrefixesOfPermittedTokens(t *testing.T) {
	longer := 0
	eachMask(t, 200, 3, func(c impl.Cfg, v impl.Voc, text string, mask []bool) {
		for id, isPermitted := range mask {
			for other := range mask {
				if !isPermitted || !plain(v, id) || !plain(v, other) || !strings.HasPrefix(v.Pieces[id], v.Pieces[other]) {
					continue
				}
				if !mask[other] {
					t.Fatalf("%s: after %q, %q is permitted, but not %q", showCfg(c), text, v.Pieces[id], v.Pieces[other])
				}
				if len(v.Pieces[id]) > len(v.Pieces[other]) {
					longer++
				}
			}
		}
	})
	if longer < 1000 {
		t.Errorf("only %d tokens begin with a shorter one", longer)
	}
}

func TestP50EqualTokens(t *testing.T) {
	seen := map[bool]int{}
	eachMask(t, 200, 3, func(c impl.Cfg, v impl.Voc, text string, mask []bool) {
		for id, token := range v.Pieces {
			for _, other := range plainEqual(v, token) {
				if plain(v, id) && mask[id] != mask[other] {
					t.Fatalf("%s: after %q, of %d and %d, which are %q, one is permitted", showCfg(c), text, id, other, token)
				}
				if other != id {
					seen[mask[other]]++
				}
			}
		}
	})
	hasSeen(t, seen, 1000)
	c := readCfg(t, `s = "aaaaaa" | "b";`)
	hasMask(t, c, equalVoc(), "", strings.Repeat("1", 20)+"0"+strings.Repeat("1", 19))
	hasMask(t, c, equalVoc(), "aaaaaa", strings.Repeat("0", 20)+"1"+strings.Repeat("0", 19))
	hasMask(t, c, equalVoc(), "a", strings.Repeat("0", impl.VocMax))
}

func TestP51PermittedBytesAreTokens(t *testing.T) {
	check := func(c impl.Cfg, text string, ch impl.Chart) {
		t.Helper()
		var mask []bool
		for _, v := range byteVocs() {
			mask = append(mask, impl.MaskOf(c, v, text)...)
		}
		if !slices.Equal(mask, impl.ChartNext(c, ch)) {
			t.Fatalf("%s: after %q, the tokens of one byte are %s", showCfg(c), text, showMask(mask))
		}
		if !slices.Contains(mask, true) && !impl.ChartEnds(c, ch) && len(text) < impl.ChartMax {
			t.Fatalf("%s: %q is no sentence, and nothing comes after it", showCfg(c), text)
		}
	}
	eachPrefix(t, 200, 3, check)
	c := cfgOf(1, prod(0, strings.Repeat("a", 100)))
	for _, length := range []int{0, 79, 80} {
		text := strings.Repeat("a", length)
		check(c, text, hasChart(t, c, text))
	}
}

func TestP52TwoTokensOneAfterTheOther(t *testing.T) {
	seen := map[bool]int{}
	check := func(c impl.Cfg, text string, pieces []string) {
		v := impl.Voc{Pieces: pieces, End: -1}
		mask := impl.MaskOf(c, v, text)
		for id, first := range pieces {
			both := impl.Voc{End: -1}
			for _, second := range pieces {
				both.Pieces = append(both.Pieces, first+second)
			}
			later := impl.MaskOf(c, v, text+first)
			for next, isPermitted := range impl.MaskOf(c, both, text) {
				if isPermitted != (mask[id] && later[next]) {
					t.Fatalf("%s: after %q, %q is %v, %q is %v, and after it %q is %v", showCfg(c), text, both.Pieces[next], isPermitted, first, mask[id], pieces[next], later[next])
				}
				seen[isPermitted]++
			}
		}
	}
	for _, c := range chartCfgs(t, 150) {
		for _, text := range textsOf("ab", 2) {
			check(c, text, textsOf("ab", 3)[1:])
		}
	}
	for _, c := range wideCfgs(t) {
		for _, text := range wideTexts() {
			check(c, text, []string{"(", ")", "()", "1", "+", "1+", "[", "]", "[]", ",", "tru", "e", "nul", "l", "0", "-1", "x", "\x00", "\xff"})
		}
	}
	hasSeen(t, seen, 1000)
}

func TestP53NoTokenWhereNoSentenceContinues(t *testing.T) {
	none := 0
	for _, c := range chartCfgs(t, 400) {
		sentences := derived(c, 8)
		for _, text := range textsOf("ab", 4) {
			if _, ok := impl.MaskFinish(c, text); ok || len(endsAfter(sentences, text)) > 0 {
				continue
			}
			none++
			for _, v := range maskVocs() {
				hasMask(t, c, v, text, strings.Repeat("0", len(v.Pieces)))
			}
		}
	}
	if none < 1000 {
		t.Errorf("only %d texts have no sentence", none)
	}
	// Where the only sentence ends, nothing but the end token is permitted.
	c := cfgOf(1, prod(0, "abab"))
	for _, v := range maskVocs() {
		want := make([]bool, len(v.Pieces))
		if v.End >= 0 {
			want[v.End] = true
		}
		hasMask(t, c, v, "abab", showMask(want))
	}
}

// eitherMask returns the tokens that one of two masks permits.
func eitherMask(a, b []bool) []bool {
	out := slices.Clone(a)
	for id, isPermitted := range b {
		out[id] = out[id] || isPermitted
	}
	return out
}

func TestP61AlternativesOfTwoGrammars(t *testing.T) {
	v := impl.Voc{Pieces: append(maskPieces(), "(", "((", "zz", "\xff", "d", "bd"), End: 0}
	texts := []string{"", "a", "ab", "b", "(", "\x00"}
	masks := map[string][]bool{}
	for _, grammar := range pairedGrams() {
		for _, text := range texts {
			masks[grammar+text] = impl.MaskOf(readCfg(t, grammar), v, text)
		}
	}
	part := altPart(namePart("aa"), namePart("ba"))
	for _, first := range pairedGrams() {
		for _, second := range pairedGrams() {
			c, ok := impl.CfgOf(combinedGram(part, readGram(t, first), readGram(t, second)))
			if !ok {
				t.Fatalf("%q and %q have no productions together", first, second)
			}
			for _, text := range texts {
				hasMask(t, c, v, text, showMask(eitherMask(masks[first+text], masks[second+text])))
			}
		}
	}
}

func TestP62FurtherAlternativeTexts(t *testing.T) {
	more := 0
	v := maskVocs()[1]
	for _, grammar := range pairedGrams() {
		alone := readCfg(t, grammar)
		for _, added := range []string{"a", "b", "ab", "abab", "bbaab", "aaaaaaaaaaaaaaaaaaaa", "\x00"} {
			c, ok := impl.CfgOf(combinedGram(altPart(namePart("aa"), quotedPart(added)), readGram(t, grammar)))
			if !ok {
				t.Fatalf("%q and %q have no productions together", grammar, added)
			}
			for _, text := range append(textsOf("ab", 2), added[:len(added)-1], added) {
				before, after := impl.MaskOf(alone, v, text), impl.MaskOf(c, v, text)
				if !slices.Equal(eitherMask(before, after), after) {
					t.Fatalf("%s with %q: after %q, %s are permitted, before that %s", grammar, added, text, showMask(after), showMask(before))
				}
				if !slices.Equal(before, after) {
					more++
				}
			}
			if !isSentence(c, added) || !impl.MaskOf(c, v, added)[v.End] {
				t.Fatalf("%s with %q: that is no sentence", grammar, added)
			}
			finishes(t, c, added, "")
		}
	}
	if more < 500 {
		t.Errorf("only %d times more tokens are permitted", more)
	}
}

func TestP65FirstBytesOfPermittedTokens(t *testing.T) {
	seen := map[bool]int{}
	eachPrefix(t, 300, 3, func(c impl.Cfg, text string, ch impl.Chart) {
		next := impl.ChartNext(c, ch)
		for _, v := range vocsFor(c) {
			for id, isPermitted := range impl.MaskOf(c, v, text) {
				if !plain(v, id) {
					continue
				}
				if isPermitted && !next[v.Pieces[id][0]] {
					t.Fatalf("%s: %q is permitted after %q, but not its first byte", showCfg(c), v.Pieces[id], text)
				}
				seen[isPermitted]++
			}
		}
	})
	hasSeen(t, seen, 1000)
}
