package tests

import (
	"strings"
	"testing"

	"loop.example/fretwork/impl"
)

func lacks(t *testing.T, c impl.Cfg, ch impl.Chart, want int) {
	t.Helper()
	if got := impl.ChartLeast(c, ch); got != want {
		t.Errorf("%s: ChartLeast of %s is %d, not %d", showCfg(c), showChart(ch), got, want)
	}
}

func TestWhatTextsLack(t *testing.T) {
	for grammar, wants := range map[string]map[string]int{
		`s = s "+" n | n; n = [0-9] n | [0-9] | "(" s ")";`: {"": 1, "1": 0, "1+": 1, "(": 2, "((1": 2, "((1+": 3, "(1)": 0, "(1)+((": 3},
		`s = "abcdef" | "ax";`:                              {"": 2, "a": 1, "ax": 0, "ab": 4, "abcde": 1, "abcdef": 0},
		`s = "a"{3,5};`:                                     {"": 3, "a": 2, "aa": 1, "aaa": 0, "aaaa": 0, "aaaaa": 0},
		`s = "a"*;`:                                         {"": 0, "a": 0},
		`s = "a" s "b" | ();`:                               {"": 0, "a": 1, "aa": 2, "aab": 1, "aaab": 2, "aabb": 0},
		`s = e s "a" | e; e = "b"?;`:                        {"": 0, "b": 0, "bb": 1, "bbb": 2, "bbba": 1, "bbbaa": 0},
		`s = s s "ab" | "b" | ();`:                          {"": 0, "b": 0, "a": 1, "bb": 2, "bbab": 0, "bbb": 4},
		`s = x; x = y; y = s | x | "ab";`:                   {"": 2, "a": 1, "ab": 0},
		`s = "x" (n | "yyyy" | "z" u); n = n; u = "zzzz";`:  {"": 5, "x": 4, "xz": 4, "xzzz": 2, "xy": 3},
	} {
		c := readCfg(t, grammar)
		for text, want := range wants {
			lacks(t, c, hasChart(t, c, text), want)
		}
	}
}

// What an item lacks hangs on what stands in the set where it begins.
func TestWhatItemsLack(t *testing.T) {
	c := cfgOf(3, prod(0, 1, "xyz"), prod(0, "p", 2, "q"), prod(1, "ab"), prod(1, 2, 1), prod(2, "c"), prod(2, 0))
	for _, want := range []struct {
		sets string
		lack int
	}{
		{"0.0@0", 5},
		{"0.1@0", 3},
		{"1.0@0", 3},
		{"1.1@0", 2},
		{"0.0@0 1.2@0", 1},
		{"1.3@0", 0},
		{"0.0@0 2.0@0", 5},
		{"0.0@0 | 2.1@0", 4},
		{"0.0@0 | 2.2@0", 3},
		{"0.0@0 3.0@0 | 4.1@0", 5},
		{"0.0@0 3.0@0 | 3.1@0", 5},
		// Of several items that expect the head, the one that lacks least counts.
		{"1.1@0 3.0@0 | 4.1@0", 1},
		{"0.0@0 1.1@0 3.0@0 | 4.1@0", 1},
		{"0.0@0 3.0@0 | 1.1@0 | 4.0@0 4.0@1", 2},
		// Nonterminal 0 from 0 is a sentence itself; from elsewhere it needs one that expects it.
		{"1.1@0 5.0@0 | 0.4@0", 0},
		{"0.0@0 | 1.1@0 5.0@1 | 0.4@1", 1},
		{"0.0@0 3.0@0 | 1.1@0 5.0@1 | 0.1@1 | 0.2@1", 3},
		// Nothing says what comes behind these.
		{"", -1},
		{"2.0@0", -1},
		{"2.2@0", -1},
		{"0.0@0 | ", -1},
		{" | 0.0@1", -1},
		{" | 0.4@1", -1},
		{"0.1@0 | 2.2@0", -1},
		{"0.0@0 | 2.2@1", -1},
		{"3.0@0 4.0@0", -1},
		{"3.1@0", -1},
		{"0.0@0 3.0@0 | 3.0@1 | 4.1@1", -1},
		// Some of the last set lead nowhere, one does.
		{"0.1@0 2.0@0 4.0@0", 3},
		{"0.0@0 | 0.4@1 2.2@0", 3},
	} {
		lacks(t, c, chartOf(t, want.sets), want.lack)
	}
}

// Heads that begin at one position can lead to one another; around the circle nothing gets less.
func TestWhatItemsInCirclesLack(t *testing.T) {
	c := cfgOf(4, prod(0, 1, "a"), prod(1, 2), prod(1, "bb"), prod(2, 3, "c"), prod(3, 1), prod(3, 3, 3))
	for _, want := range []struct {
		sets string
		lack int
	}{
		{"0.0@0 1.0@0 3.0@0 4.0@0 | 2.2@0", 1},
		{"1.0@0 3.0@0 4.0@0 | 2.2@0", -1},
		{"0.0@0 1.0@0 3.0@0 | 4.1@0", 2},
		{"0.0@0 1.0@0 3.0@0 5.0@0 | 5.1@0", 4},
		{"0.0@0 1.0@0 3.0@0 5.0@0 | 5.2@0", 2},
		{"5.0@0 | 5.2@0", -1},
		// A circle helps only if one of its items, of whatever production, leads out of it.
		{"0.0@0 | 1.0@1 3.0@1 4.0@1 | 2.2@1", -1},
		{"0.0@0 1.0@0 3.0@0 | 1.0@1 3.0@1 4.0@0 | 2.2@1", 2},
		{"0.0@0 1.0@0 | 1.0@1 3.0@1 4.0@1 5.1@0 | 2.2@1", -1},
		{"0.0@0 1.0@0 3.0@0 5.0@0 | 1.0@1 3.0@1 4.0@1 5.1@0 | 2.2@1", 2},
	} {
		lacks(t, c, chartOf(t, want.sets), want.lack)
	}
}

func TestWhatItemsLackAsInTheDocument(t *testing.T) {
	for _, c := range append(chartCfgs(t, 700), wideCfgs(t)...) {
		start := impl.ChartStart(c)
		lacks(t, c, start, slowChartLeast(c, start))
		eachChart(t, c, 4, func(_ string, ch impl.Chart) { lacks(t, c, ch, slowChartLeast(c, ch)) })
	}
	numbers := map[int]int{}
	eachMixedChart(t, 1500, func(c impl.Cfg, ch impl.Chart) {
		want := slowChartLeast(c, ch)
		numbers[want]++
		lacks(t, c, ch, want)
	})
	for number := -1; number <= 3; number++ {
		if numbers[number] < 10 {
			t.Errorf("only %d charts lack %d", numbers[number], number)
		}
	}
}

// The shortest sentence that begins with a text has what the text lacks, and nothing less.
func TestWhatTextsLackIsInSentences(t *testing.T) {
	for _, c := range chartCfgs(t, 400) {
		texts := derived(c, 8)
		eachChart(t, c, 4, func(text string, ch impl.Chart) {
			shortest := -1
			for _, whole := range texts {
				if lack := len(whole) - len(text); strings.HasPrefix(whole, text) && (shortest < 0 || lack < shortest) {
					shortest = lack
				}
			}
			got := impl.ChartLeast(c, ch)
			if got != shortest && (shortest >= 0 || len(text)+got <= 8) {
				t.Fatalf("%s: %q lacks %d, not %d", showCfg(c), text, got, shortest)
			}
		})
	}
}

func TestP38NothingLacksWhereASentenceEnds(t *testing.T) {
	ended, open := 0, 0
	for _, c := range chartCfgs(t, 800) {
		texts := derived(c, 4)
		eachChart(t, c, 4, func(text string, ch impl.Chart) {
			ends := false
			for _, whole := range texts {
				ends = ends || whole == text
			}
			lack := impl.ChartLeast(c, ch)
			if (lack == 0) != ends || impl.ChartEnds(c, ch) != ends || lack < 0 {
				t.Fatalf("%s: %q lacks %d, ends %v, sentences are %q", showCfg(c), text, lack, impl.ChartEnds(c, ch), texts)
			}
			if ends {
				ended++
			} else {
				open++
			}
		})
	}
	if ended < 500 || open < 500 {
		t.Errorf("only %d texts end, and %d do not", ended, open)
	}
}

func TestTheStartLacksTheShortestLength(t *testing.T) {
	for _, c := range append(chartCfgs(t, 1500), validCfgs()...) {
		lacks(t, c, impl.ChartStart(c), impl.CfgLeast(c)[0])
	}
}

// The sum of the symbols of one item is reduced after each nonterminal, as for CfgLeast; nothing else is.
func TestGreatSumsOfItemsAreReduced(t *testing.T) {
	for _, want := range []struct {
		prod impl.Prod
		sets string
		lack int
	}{
		{prod(0, "ab", 1), "0.0@0", 9999},
		{prod(0, "ab", 1), "0.1@0", 9999},
		{prod(0, "ab", 1), "0.2@0", 9999},
		{prod(0, "ab", 1), "0.3@0", 0},
		{prod(0, 1, "abc"), "0.0@0", 10002},
		{prod(0, 1, "abc"), "0.1@0", 3},
		{prod(0, 2, 2, "ab", 2), "0.0@0", 9999},
		{prod(0, 2, 2, "ab", 2), "0.1@0", 9999},
		{prod(0, 2, 2, "ab", 2), "0.2@0", 8194},
		{prod(0, 2, 2, "ab", 2), "0.3@0", 8193},
		{prod(0, 2, "ab", 3), "0.0@0", 9999},
		{prod(0, 2, "ab", 3), "0.1@0", 4098},
		// The length of a nonterminal is taken from the reduced sum of the item that expects it.
		{prod(0, 2, 2, "ab", 2), "0.0@0 | 1.2@0", 9999 - 8192},
		{prod(0, 2, "ab", 3), "0.0@0 | 1.2@0", 9999 - 8192},
		{prod(0, 2, "ab", 3), "0.0@0 | 1.1@0", 4096 + 9999 - 8192},
		{prod(0, 2, "ab", 3), "0.0@0 | 0.1@0", 4098},
		{prod(0, 3, "ab", 3), "0.0@0 | 1.1@0", 2048 + 4098},
		{prod(0, 1, 1, "abc"), "0.0@0 | 1.1@0", 8192 + 10002 - 9999},
		{prod(0, 1, 1, "abc"), "0.1@0 1.1@0 | 2.1@0", 4096 + 3},
		{prod(0, 1, 1, "abc"), "0.0@0 1.0@0 2.1@0 | 3.1@0", 2048 + 4096 - 4096 + 9999 - 8192 + 3},
	} {
		c := doubled(want.prod)
		ch := chartOf(t, want.sets)
		if got := slowChartLeast(c, ch); got != want.lack {
			t.Errorf("%s: slowly %d, not %d", want.sets, got, want.lack)
		}
		lacks(t, c, ch, want.lack)
	}
}

// A length can be greater than what a sum has of it, so that with hand-made sets a number can be less than 0.
func TestReducedSumsLessTheirHeads(t *testing.T) {
	c := doubled(prod(0, 16), prod(0, "c", 17, 1))
	c.Heads = 18
	c.Prods = append(c.Prods, prod(16, 1, "abc"), prod(17, 16, "b"))
	if least := impl.CfgLeast(c); least[0] != 9999 || least[16] != 10002 || least[17] != 10000 {
		t.Fatal(least)
	}
	for _, want := range []struct {
		sets string
		lack int
	}{
		{"0.0@0", 9999},
		{"0.0@0 | 17.0@0", 9999},
		{"0.0@0 | 17.1@0", 0},
		{"0.0@0 | 17.2@0", -1},
		{"0.0@0 | 17.4@0", -3},
		{"1.1@0", 9999},
		{"1.1@0 | 18.0@0", 9999},
		{"1.1@0 | 18.1@0", 0},
		{"1.1@0 18.0@0 | 17.1@0", 0},
		{"1.1@0 18.0@0 | 17.3@0 17.4@0", -3},
		{"0.0@0 | 17.1@0 18.1@0", 0},
		{"18.0@0 | 17.1@0", -1},
	} {
		ch := chartOf(t, want.sets)
		if got := slowChartLeast(c, ch); got != want.lack {
			t.Errorf("%s: slowly %d, not %d", want.sets, got, want.lack)
		}
		lacks(t, c, ch, want.lack)
	}
}

// greatCfgs returns mixed productions of four nonterminals over the bytes a and b and over nonterminals of 16384, 8192, 4096 .. bytes, many of them with sums that are reduced.
func greatCfgs(count int) []impl.Cfg {
	below := numbers()
	var out []impl.Cfg
	for range count {
		c := impl.Cfg{Heads: 19}
		for head := range 4 {
			for range 1 + below(3) {
				p := impl.Prod{Head: head}
				for range 1 + below(4) {
					p.Body = append(p.Body, []impl.Sym{headSym(below(4)), headSym(4 + below(3)), rangeSym('a', 'a'+below(2))}[below(3)])
				}
				c.Prods = append(c.Prods, p)
			}
		}
		for head := 4; head < 18; head++ {
			c.Prods = append(c.Prods, prod(head, head+1, head+1))
		}
		c.Prods = append(c.Prods, prod(18, "a"))
		out = append(out, c)
	}
	return out
}

func TestWhatTextsWithReducedSumsLack(t *testing.T) {
	great := 0
	below := numbers()
	for _, c := range greatCfgs(150) {
		eachChart(t, c, 5, func(_ string, ch impl.Chart) {
			want := slowChartLeast(c, ch)
			lacks(t, c, ch, want)
			if want > impl.CfgMaxLeast-5 {
				great++
			}
		})
		ch := mixedChart(c, below)
		lacks(t, c, ch, slowChartLeast(c, ch))
	}
	if great < 100 {
		t.Errorf("only %d texts lack about as much as can be", great)
	}
}

// Also where sums are reduced, each byte of a text takes away one at the most, and no text of so few bytes gets near a sentence.
func TestP44BytesOfTextsWithReducedSums(t *testing.T) {
	steps := map[bool]int{}
	check := func(c impl.Cfg, text string) {
		t.Helper()
		ch, ok := impl.ChartOf(c, text)
		if !ok {
			return
		}
		lack := impl.ChartLeast(c, ch)
		if end, ok := impl.MaskFinish(c, text); ok != (len(text)+lack <= impl.ChartMax) || ok && (len(end) != lack || !isSentence(c, text+end)) {
			t.Fatalf("%s: %q is completed by %q, %v, and lacks %d", showCfg(c), text, end, ok, lack)
		}
		for _, b := range nextTexts(c, ch) {
			next := impl.ChartLeast(c, hasChart(t, c, text+b))
			if next < lack-1 {
				t.Fatalf("%s: %q lacks %d, but with %q only %d", showCfg(c), text, lack, b, next)
			}
			if lack > impl.ChartMax {
				steps[next == lack-1]++
			}
		}
	}
	for _, c := range greatCfgs(150) {
		for _, text := range textsOf("ab", 4) {
			check(c, text)
		}
	}
	c := doubled(prod(0, 1, 1), prod(0, "b", 8, 9), prod(0, 0, "b"))
	for length := range impl.ChartMax + 1 {
		check(c, strings.Repeat("a", length))
	}
	lacks(t, c, hasChart(t, c, strings.Repeat("a", impl.ChartMax)), impl.CfgMaxLeast-impl.ChartMax)
	hasSeen(t, steps, 100)
}
