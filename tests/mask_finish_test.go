package tests

import (
	"slices"
	"strings"
	"testing"

	"loop.example/fretwork/impl"
)

func TestCompletionsWrittenOut(t *testing.T) {
	for grammar, wants := range map[string]map[string]string{
		`s = "{" (p ("," p)*)? "}"; p = "key" [0-9] ":" s;`: {"": "{}", "{": "}", "{k": "ey0:{}}", "{key7": ":{}}", "{key1:{}": "}", "{key1:{},": "key0:{}}", "{}": ""},
		`s = s "+" n | n; n = [0-9] n | [0-9] | "(" s ")";`: {"": "0", "1": "", "1+": "0", "(": "0)", "((1+": "0))", "(1)": "", "(1)+((": "0))"},
		// The shorter one, even if another one comes first in order.
		`s = "aaaa" | "ab" | "b";`: {"": "b", "a": "b", "aa": "aa", "ab": "", "aaaa": ""},
		// The first in order, whichever production it is of, and wherever its first byte stands in a range.
		`s = "zz" | "ba" | [b-y] [\00-a];`:                {"": "b\x00", "b": "\x00", "z": "z", "ba": ""},
		`s = [c-z] "a" | [b-c] "z" | [a-b] "zz" | [d-e];`: {"": "d", "c": "a", "b": "z", "a": "zz", "az": "z"},
		`s = [c-z] "a" | [b-c] "z" | [a-b] "zz";`:         {"": "bz", "c": "a", "b": "z"},
		`s = x y; x = "b" | "a" "c"; y = "d" | "a" "a";`:  {"": "bd", "a": "cd", "b": "d", "ba": "a", "aca": "a"},
		`s = [\80-\ff] [\00-\7f] | "\81\00";`:             {"": "\x80\x00", "\xff": "\x00", "\x81": "\x00"},
		// What never ends completes nothing.
		`s = "a" (n | "c" e "d"); n = "b" n; e = ();`: {"": "acd", "a": "cd", "ac": "d"},
	} {
		c := readCfg(t, grammar)
		for text, want := range wants {
			finishes(t, c, text, want)
		}
	}
}

// Where a sentence ends, nothing is added, even if others continue.
func TestCompletionsWhereASentenceEndsAndOthersContinue(t *testing.T) {
	for grammar, wants := range map[string]map[string]string{
		`s = "ab" | "abcd";`:         {"": "ab", "a": "b", "ab": "", "abc": "d", "abcd": ""},
		`s = "a"*;`:                  {"": "", "a": "", "aaa": ""},
		`s = "a"+;`:                  {"": "a", "a": ""},
		`s = "a"{3,6};`:              {"": "aaa", "a": "aa", "aaa": "", "aaaa": ""},
		`s = () | "abc";`:            {"": "", "a": "bc", "abc": ""},
		`s = "(" s ")" | ();`:        {"": "", "(": ")", "()": "", "(()": ")", "((": "))"},
		`s = e s "a" | e; e = "b"?;`: {"": "", "b": "", "bb": "a", "bba": "", "bbbb": "aaa"},
		`s = s s "ab" | "b" | ();`:   {"": "", "a": "b", "bb": "ab", "bbb": "abab", "ab": ""},
	} {
		c := readCfg(t, grammar)
		for text, want := range wants {
			finishes(t, c, text, want)
		}
	}
}

func TestNoCompletionOfTextsWithoutCharts(t *testing.T) {
	for _, c := range invalidCfgs() {
		for _, text := range []string{"", "a", "ab", strings.Repeat("a", 100)} {
			finishesNot(t, c, text)
		}
	}
	for _, c := range []impl.Cfg{cfgOf(1), cfgOf(2, prod(1, "a")), readCfg(t, `s = "a" s;`), readCfg(t, `s = "a" n; n = n;`)} {
		for _, text := range []string{"", "a"} {
			finishesNot(t, c, text)
		}
	}
	c := readCfg(t, `s = "a"* | "bb";`)
	for _, text := range []string{"ab", "ba", "bbb", "c", "\x00", strings.Repeat("a", 81), strings.Repeat("a", 1000)} {
		finishesNot(t, c, text)
	}
}

func TestCompletionsOfTheLongestSentences(t *testing.T) {
	nested := readCfg(t, `s = "a" s "b" | ();`)
	finishes(t, nested, strings.Repeat("a", 40), strings.Repeat("b", 40))
	finishes(t, nested, strings.Repeat("a", 40)+strings.Repeat("b", 39), "b")
	finishes(t, nested, strings.Repeat("a", 40)+strings.Repeat("b", 40), "")
	finishesNot(t, nested, strings.Repeat("a", 41))
	finishesNot(t, nested, strings.Repeat("a", 41)+strings.Repeat("b", 39))
	finishesNot(t, nested, strings.Repeat("a", 80))
	finishesNot(t, nested, strings.Repeat("a", 41)+strings.Repeat("b", 41))
	many := readCfg(t, `s = "a"*;`)
	finishes(t, many, strings.Repeat("a", 80), "")
	finishesNot(t, many, strings.Repeat("a", 81))
	// All bytes of the text, and all that lack, count.
	for _, length := range []int{79, 80, 81, 82, 120} {
		whole := strings.Repeat("ab", 60)[:length]
		c := cfgOf(1, prod(0, whole))
		for cut := range length + 1 {
			if length <= impl.ChartMax {
				finishes(t, c, whole[:cut], whole[cut:])
			} else {
				finishesNot(t, c, whole[:cut])
			}
		}
	}
	// Of two ways, only the one that is short enough.
	c := cfgOf(1, prod(0, strings.Repeat("a", 90)), prod(0, strings.Repeat("a", 70)+"bbbbbbbbbb"))
	finishes(t, c, "", strings.Repeat("a", 70)+"bbbbbbbbbb")
	finishes(t, c, strings.Repeat("a", 70), "bbbbbbbbbb")
	finishesNot(t, c, strings.Repeat("a", 71))
}

// Shortest lengths that were reduced to CfgMaxLeast are still too long.
func TestNoCompletionWithGreatSums(t *testing.T) {
	c := doubled(prod(0, 1), prod(0, "b", 1, 1), prod(0, "c", 9), prod(0, "d", 2, 2, "x"))
	finishes(t, c, "c", strings.Repeat("a", 64))
	finishes(t, c, "", "c"+strings.Repeat("a", 64))
	for _, text := range []string{"a", "b", "ba", "d", "da"} {
		hasChart(t, c, text)
		finishesNot(t, c, text)
	}
}

func TestP42TheShortestSentence(t *testing.T) {
	for _, c := range append(chartCfgs(t, 1500), wideCfgs(t)...) {
		least := impl.CfgLeast(c)[0]
		if least < 0 || least > impl.ChartMax {
			finishesNot(t, c, "")
			continue
		}
		if whole := hasFinish(t, c, ""); len(whole) != least || !isSentence(c, whole) {
			t.Fatalf("%s: %q is completed to, of %d bytes", showCfg(c), whole, least)
		}
	}
	for _, c := range chartCfgs(t, 500) {
		least := impl.CfgLeast(c)[0]
		for _, text := range textsOf("ab", 5) {
			if isSentence(c, text) && (least < 0 || len(text) < least) {
				t.Fatalf("%s: %q is a sentence, but the shortest has %d bytes", showCfg(c), text, least)
			}
		}
	}
	for _, length := range []int{79, 80, 81} {
		whole := strings.Repeat("b", length)
		c := cfgOf(1, prod(0, whole), prod(0, whole+"a"))
		if hasLeast(t, c, length); length <= impl.ChartMax {
			finishes(t, c, "", whole)
		} else {
			finishesNot(t, c, "")
		}
	}
}

func TestP43NoDeadEnds(t *testing.T) {
	check := func(c impl.Cfg, text string, ch impl.Chart) {
		t.Helper()
		end, ok := impl.MaskFinish(c, text)
		if ok != (len(text)+impl.ChartLeast(c, ch) <= impl.ChartMax) || ok && !isSentence(c, text+end) {
			t.Fatalf("%s: %q lacks %d, and is completed by %q, %v", showCfg(c), text, impl.ChartLeast(c, ch), end, ok)
		}
	}
	eachPrefix(t, 1000, 4, check)
	for _, grammar := range []string{`s = "a" s "b" | ();`, `s = "a" s "bb" | "c";`, `s = x x; x = "a"* "b";`, `s = s s | "a" | "ab";`} {
		c := readCfg(t, grammar)
		for length := range 81 {
			for _, text := range []string{strings.Repeat("a", length), strings.Repeat("a", length/2) + strings.Repeat("b", length-length/2)} {
				if ch, ok := impl.ChartOf(c, text); ok {
					check(c, text, ch)
				}
			}
		}
	}
}

func TestP44CompletionsHaveTheLengthThatLacks(t *testing.T) {
	steps := map[bool]int{}
	eachPrefix(t, 800, 4, func(c impl.Cfg, text string, ch impl.Chart) {
		lack := impl.ChartLeast(c, ch)
		if end := hasFinish(t, c, text); len(end) != lack {
			t.Fatalf("%s: %q is completed by %q, and lacks %d", showCfg(c), text, end, lack)
		}
		for _, b := range nextTexts(c, ch) {
			next := impl.ChartLeast(c, hasChart(t, c, text+b))
			if next < lack-1 {
				t.Fatalf("%s: %q lacks %d, but with %q only %d", showCfg(c), text, lack, b, next)
			}
			steps[next == lack-1]++
		}
	})
	hasSeen(t, steps, 500)
}

// The completion is what the shortest of all sentences has, and of these the first.
func TestP57P58CompletionsAreTheShortestAndTheFirst(t *testing.T) {
	several := 0
	for _, c := range chartCfgs(t, 1500) {
		sentences := derived(c, 8)
		for _, text := range textsOf("ab", 4) {
			ends := endsAfter(sentences, text)
			if len(ends) == 0 {
				if end, ok := impl.MaskFinish(c, text); ok && len(text)+len(end) <= 8 {
					t.Fatalf("%s: %q is completed by %q, but that is no sentence", showCfg(c), text, end)
				}
				continue
			}
			finishes(t, c, text, ends[0])
			if len(ends) > 1 && len(ends[1]) == len(ends[0]) {
				several++
			}
		}
	}
	if several < 500 {
		t.Errorf("only %d texts have several completions of one length", several)
	}
}

func TestP57CompletionsMakeSentences(t *testing.T) {
	eachText(t, 500, 4, func(c impl.Cfg, text string) {
		end, ok := impl.MaskFinish(c, text)
		if !ok {
			return
		}
		if !isSentence(c, text+end) {
			t.Fatalf("%s: %q is completed by %q to no sentence", showCfg(c), text, end)
		}
		if len(end) == 0 {
			return
		}
		for _, shorter := range textsOf("ab()[],1l", min(len(end)-1, 3)) {
			if isSentence(c, text+shorter) {
				t.Fatalf("%s: %q is completed by %q, but also by %q", showCfg(c), text, end, shorter)
			}
		}
	})
}

// No byte can be replaced by a smaller one without the completion getting longer.
func TestP58CompletionsAreTheFirst(t *testing.T) {
	check := func(c impl.Cfg, text string) {
		t.Helper()
		end, _ := impl.MaskFinish(c, text)
		for cut := range len(end) {
			for _, b := range nextTexts(c, hasChart(t, c, text+end[:cut])) {
				next := text + end[:cut] + b
				if b < end[cut:cut+1] && impl.ChartLeast(c, hasChart(t, c, next)) <= len(end)-cut-1 {
					t.Fatalf("%s: %q is completed by %q, but %q comes first", showCfg(c), text, end, next)
				}
			}
		}
	}
	eachText(t, 300, 4, check)
	for _, grammar := range []string{`s = [^]{3,3};`, `s = [b-z] [c-y] | [a-c] [d-e] [\00];`, `s = x{4,4}; x = [c-d] | [b-e] y | y y; y = [\01-\05] | ();`, `s = [d-z] | [c-z] | [b-z] "a" | [a-z] "bc";`} {
		c := readCfg(t, grammar)
		for _, text := range []string{"", "a", "b", "c", "z", "cc"} {
			check(c, text)
		}
	}
}

func TestP59WithinACompletion(t *testing.T) {
	within := 0
	check := func(c impl.Cfg, text string) {
		t.Helper()
		end, ok := impl.MaskFinish(c, text)
		if !ok {
			return
		}
		for cut := range len(end) + 1 {
			finishes(t, c, text+end[:cut], end[cut:])
			within += cut
		}
	}
	eachText(t, 800, 4, check)
	check(readCfg(t, `s = "a" s "b" | ();`), strings.Repeat("a", 40))
	check(readCfg(t, `s = x{6,6}; x = y{6,6}; y = [a-c] | "dd";`), "")
	if within < 500 {
		t.Errorf("only %d texts are within a completion", within)
	}
}

func TestP63CompletionsOfSentencesAreEmpty(t *testing.T) {
	seen := map[bool]int{}
	for _, c := range chartCfgs(t, 800) {
		sentences := derived(c, 4)
		for _, text := range textsOf("ab", 4) {
			end, ok := impl.MaskFinish(c, text)
			if isOne := slices.Contains(sentences, text); isOne != (ok && end == "") {
				t.Fatalf("%s: %q is completed by %q, %v", showCfg(c), text, end, ok)
			}
			if ok {
				seen[end == ""]++
			}
		}
	}
	hasSeen(t, seen, 500)
}
