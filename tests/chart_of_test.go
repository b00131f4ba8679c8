package tests

import (
	"slices"
	"strings"
	"testing"

	"loop.example/fretwork/impl"
)

func TestChartsWrittenOut(t *testing.T) {
	left := cfgOf(1, prod(0, 0, "a"), prod(0, "b"))
	void := cfgOf(2, prod(0, 1, 0, "a"), prod(0, 1), prod(1), prod(1, "b"))
	for _, c := range []struct {
		cfg        impl.Cfg
		text, want string
	}{
		{cfgOf(1, prod(0)), "", "0.0@0"},
		{cfgOf(1, prod(0, "ab")), "", "0.0@0"},
		{cfgOf(1, prod(0, "ab")), "ab", "0.0@0 | 0.1@0 | 0.2@0"},
		{cfgOf(2, prod(0, "a", 1, "c"), prod(1, "b")), "abc", "0.0@0 | 0.1@0 1.0@1 | 0.2@0 1.1@1 | 0.3@0"},
		{left, "", "0.0@0 1.0@0"},
		{left, "ba", "0.0@0 1.0@0 | 0.1@0 1.1@0 | 0.1@0 0.2@0"},
		{void, "", "0.0@0 0.1@0 0.2@0 1.0@0 1.1@0 2.0@0 3.0@0"},
		{void, "a", "0.0@0 0.1@0 0.2@0 1.0@0 1.1@0 2.0@0 3.0@0 | 0.2@0 0.3@0"},
		{void, "b", "0.0@0 0.1@0 0.2@0 1.0@0 1.1@0 2.0@0 3.0@0 | 0.0@1 0.1@0 0.1@1 0.2@0 0.2@1 1.0@1 1.1@0 1.1@1 2.0@1 3.0@1 3.1@0"},
		// Nonterminal 1 is complete before the second item that expects it comes.
		{cfgOf(2, prod(0, 1, 1, "a"), prod(1)), "", "0.0@0 0.1@0 0.2@0 1.0@0"},
		// Right recursion: the same head is complete from several positions.
		{cfgOf(1, prod(0, "a", 0), prod(0, "b")), "aab", "0.0@0 1.0@0 | 0.0@1 0.1@0 1.0@1 | 0.0@2 0.1@1 1.0@2 | 0.2@0 0.2@1 1.1@2"},
		// Two productions that are equal are two items each.
		{cfgOf(1, prod(0, "a"), prod(0, "a")), "a", "0.0@0 1.0@0 | 0.1@0 1.1@0"},
		// Productions are counted after CfgTrim.
		{cfgOf(4, prod(0, 1), prod(0, "a", 3), prod(1, 1), prod(2, "z"), prod(3, "b")), "ab", "0.0@0 | 0.1@0 1.0@1 | 0.2@0 1.1@1"},
	} {
		if got := showChart(hasChart(t, c.cfg, c.text)); got != c.want {
			t.Errorf("%q has %s, not %s", c.text, got, c.want)
		}
		if c.text == "" {
			if got := showChart(impl.ChartStart(c.cfg)); got != c.want {
				t.Errorf("the start is %s, not %s", got, c.want)
			}
		}
	}
}

func TestOrdinaryTexts(t *testing.T) {
	c := readCfg(t, `s = s "+" n | n; n = [0-9] n | [0-9] | "(" s ")";`)
	for _, text := range []string{"7", "1+23", "(1+2)+(3)", "((4))", "1+2+3+4+5"} {
		if !isSentence(c, text) {
			t.Errorf("%q is no sentence", text)
		}
	}
	for _, text := range []string{"", "1+", "((1", "(1+2)+", "1+(2"} {
		if ch := hasChart(t, c, text); impl.ChartEnds(c, ch) {
			t.Errorf("%q is a sentence", text)
		}
	}
	for _, text := range []string{"+", "1)", "()", "1++", "1+2)", "a", "1 "} {
		hasNoChart(t, c, text)
	}
}

// All bytes are bytes: those from 128 on are no parts of runes.
func TestChartsOfAllBytes(t *testing.T) {
	c := cfgOf(1, prod(0, rangeSym(0, 0), rangeSym(128, 255), rangeSym(255, 255)))
	for _, text := range []string{"\x00\x80\xff", "\x00\xff\xff", "\x00\xc3\xff"} {
		if !isSentence(c, text) {
			t.Errorf("%q is no sentence", text)
		}
	}
	for _, text := range []string{"\x01", "\x00\x7f", "\x00\x80\xfe", "é", "\x00\x80\xff\x00"} {
		hasNoChart(t, c, text)
	}
}

// Each set has exactly the items that it needs.
func TestChartsAreThoseOfTheDocument(t *testing.T) {
	for _, c := range append(chartCfgs(t, 1500), validCfgs()...) {
		checkSlowly(t, c, slowStart(c), "", 3)
	}
}

// checkSlowly compares the charts of a text and of all that go on from it by so many bytes.
func checkSlowly(t *testing.T, c impl.Cfg, want impl.Chart, text string, more int) {
	t.Helper()
	if got, ok := impl.ChartOf(c, text); ok != (len(want.Sets[0]) > 0) || ok && !sameChart(got, want) {
		t.Fatalf("%s: %q has %s, %v, not %s", showCfg(c), text, showChart(got), ok, showChart(want))
	}
	if text == "" && !sameChart(impl.ChartStart(c), want) {
		t.Fatalf("%s starts with %s, not %s", showCfg(c), showChart(impl.ChartStart(c)), showChart(want))
	}
	for _, b := range []byte("ab") {
		next, ok := slowStep(c, want, int(b))
		switch {
		case !ok:
			hasNoChart(t, c, text+string(b))
		case more > 0:
			checkSlowly(t, c, next, text+string(b), more-1)
		}
	}
}

func TestChartsWithoutSentences(t *testing.T) {
	for _, c := range []impl.Cfg{cfgOf(1), cfgOf(5), cfgOf(1, prod(0, 0)), cfgOf(2, prod(1, "a")), cfgOf(2, prod(0, "a", 1), prod(1, 1, "a")), cfgOf(2, prod(0, 0, 1), prod(1))} {
		ch := impl.ChartStart(c)
		if len(ch.Sets) != 1 || len(ch.Sets[0]) != 0 {
			t.Errorf("%s starts with %s", showCfg(c), showChart(ch))
		}
		hasNoChart(t, c, "")
		hasNoChart(t, c, "a")
	}
}

func TestP29NoSentenceNoPrefix(t *testing.T) {
	none := 0
	for _, c := range chartCfgs(t, 1500) {
		if impl.CfgLeast(c)[0] >= 0 {
			continue
		}
		none++
		hasSents(t, c, 20, nil)
		for _, text := range textsOf("ab", 3) {
			hasNoChart(t, c, text)
		}
		start := impl.ChartStart(c)
		if slices.Contains(impl.ChartNext(c, start), true) || impl.ChartEnds(c, start) || impl.ChartLeast(c, start) != -1 {
			t.Fatalf("%s has no sentence, but the start %s goes on", showCfg(c), showChart(start))
		}
	}
	if none < 100 {
		t.Errorf("only %d have no sentence", none)
	}
}

func TestP30ListedSentencesAreSentences(t *testing.T) {
	for _, c := range append(chartCfgs(t, 800), wideCfgs(t)...) {
		for _, most := range []int{0, 1, 3, 6} {
			texts, _ := impl.CfgSents(c, most)
			for i, text := range texts {
				if len(text) > most || i > 0 && texts[i-1] >= text {
					t.Fatalf("%s: %q up to %d", showCfg(c), texts, most)
				}
				if !isSentence(c, text) {
					t.Fatalf("%s: %q is listed, but no sentence", showCfg(c), text)
				}
			}
		}
	}
}

// wideCfgs returns the productions of grammars with other bytes than a and b.
func wideCfgs(t *testing.T) []impl.Cfg {
	var out []impl.Cfg
	for _, text := range []string{
		`s = [\00\7f-\81\fe\ff];`,
		`s = [a-z0-9] "x"?;`,
		`s = "(" s ")" s | ();`,
		`s = "null" | "true" | "false" | "[" (s ("," s){0,1})? "]";`,
		`s = "0" | "-"? [1-2] [0-1]{0,3};`,
		`s = s "+" n | n; n = "1" n | "1" | "(" s ")";`,
	} {
		out = append(out, readCfg(t, text))
	}
	return out
}

func TestP31NoSentenceIsMissing(t *testing.T) {
	for _, c := range chartCfgs(t, 800) {
		texts, ok := impl.CfgSents(c, 4)
		if !ok {
			t.Fatalf("CfgSents of %s fails", showCfg(c))
		}
		for _, text := range textsOf("ab", 4) {
			if isSentence(c, text) && !slices.Contains(texts, text) {
				t.Fatalf("%s: %q is a sentence, but not in %q", showCfg(c), text, texts)
			}
		}
	}
}

func TestP32TheEmptyTextIsAPrefix(t *testing.T) {
	for _, c := range append(chartCfgs(t, 1500), validCfgs()...) {
		if ch, ok := impl.ChartOf(c, ""); ok != (impl.CfgLeast(c)[0] >= 0) {
			t.Fatalf("%s: ChartOf of nothing is %s, %v", showCfg(c), showChart(ch), ok)
		}
	}
	for _, c := range chartCfgs(t, 500) {
		if texts := derived(c, 4); len(texts) > 0 {
			hasChart(t, c, "")
		}
	}
}

func TestP34ChartsGoOnByteByByte(t *testing.T) {
	for _, c := range chartCfgs(t, 300) {
		for _, text := range textsOf("ab", 4) {
			whole, ok := impl.ChartOf(c, text)
			if ok && len(whole.Sets) != len(text)+1 {
				t.Fatalf("%s: %q has %d sets", showCfg(c), text, len(whole.Sets))
			}
			for cut := range len(text) + 1 {
				ch, fine := impl.ChartOf(c, text[:cut])
				for i := cut; i < len(text) && fine; i++ {
					ch, fine = impl.ChartStep(c, ch, int(text[i]))
				}
				if fine != ok || ok && !sameChart(ch, whole) {
					t.Fatalf("%s: %q has %s, %v, but from %q on %s, %v", showCfg(c), text, showChart(whole), ok, text[:cut], showChart(ch), fine)
				}
			}
		}
	}
}

func TestP35PrefixesOfSentencesHaveCharts(t *testing.T) {
	for _, c := range append(chartCfgs(t, 500), wideCfgs(t)...) {
		texts, _ := impl.CfgSents(c, 6)
		for _, text := range texts {
			for cut := range len(text) + 1 {
				hasChart(t, c, text[:cut])
			}
		}
	}
}

// The other way round, a text with a chart is a prefix of a sentence.
func TestOnlyPrefixesOfSentencesHaveCharts(t *testing.T) {
	long := 0
	for _, c := range chartCfgs(t, 300) {
		texts := derived(c, 8)
		eachChart(t, c, 4, func(text string, ch impl.Chart) {
			goesOn := slices.ContainsFunc(texts, func(whole string) bool { return strings.HasPrefix(whole, text) })
			if !goesOn && len(text)+impl.ChartLeast(c, ch) <= 8 {
				t.Fatalf("%s: no sentence begins with %q, but it has %s", showCfg(c), text, showChart(ch))
			}
			if !goesOn {
				long++
			}
		})
	}
	if long > 500 {
		t.Errorf("%d texts need sentences of more than 8 bytes", long)
	}
}

func TestP36SentencesAreThoseOfTheList(t *testing.T) {
	for _, c := range chartCfgs(t, 800) {
		texts := derived(c, 4)
		hasSents(t, c, 4, texts)
		for _, text := range textsOf("ab", 4) {
			if isSentence(c, text) != slices.Contains(texts, text) {
				t.Fatalf("%s: isSentence(%q) is %v, but the list is %q", showCfg(c), text, isSentence(c, text), texts)
			}
		}
	}
	for _, c := range wideCfgs(t) {
		texts, ok := impl.CfgSents(c, 3)
		if !ok {
			t.Fatalf("CfgSents of %s fails", showCfg(c))
		}
		for _, text := range textsOf("()01,[]-x+2\x80", 3) {
			if isSentence(c, text) != slices.Contains(texts, text) {
				t.Fatalf("%s: isSentence(%q) is %v", showCfg(c), text, isSentence(c, text))
			}
		}
	}
}

// Nonterminals that can be empty and left recursion, by what the expressions mean.
func TestP36SentencesAreWhatExpressionsMean(t *testing.T) {
	for _, grammar := range chartTexts() {
		g, c := readGram(t, grammar), readCfg(t, grammar)
		texts := meant(g, 6)
		for _, text := range textsOf("ab", 6) {
			if isSentence(c, text) != slices.Contains(texts, text) {
				t.Fatalf("%s: isSentence(%q) is %v", grammar, text, isSentence(c, text))
			}
		}
	}
}

func TestP39TextsOfTheGreatestLength(t *testing.T) {
	for _, grammar := range []string{`s = "a"*;`, `s = s "a" | ();`, `s = "a" s | ();`, `s = s s | "a" | ();`, `s = e s "a" | e; e = "b"?;`, `s = x x x; x = "a"*;`} {
		c := readCfg(t, grammar)
		for _, length := range []int{1, 79, 80} {
			ch := hasChart(t, c, strings.Repeat("a", length))
			if len(ch.Sets) != length+1 || !impl.ChartEnds(c, ch) {
				t.Errorf("%s: %d bytes have %d sets, %v", grammar, length, len(ch.Sets), impl.ChartEnds(c, ch))
			}
		}
		for _, length := range []int{81, 82, 1000000} {
			hasNoChart(t, c, strings.Repeat("a", length))
		}
	}
	// A sentence that is longer has prefixes of 80 bytes.
	long := strings.Repeat("ab", 60)
	c := cfgOf(1, prod(0, long))
	if ch := hasChart(t, c, long[:80]); len(ch.Sets) != 81 || impl.ChartEnds(c, ch) || impl.ChartLeast(c, ch) != 40 {
		t.Errorf("%d sets, %v, %d", len(ch.Sets), impl.ChartEnds(c, ch), impl.ChartLeast(c, ch))
	}
	hasNoChart(t, c, long[:81])
	hasNoChart(t, c, long)
}

func TestP40PrefixesOfPrefixes(t *testing.T) {
	for _, c := range append(chartCfgs(t, 500), wideCfgs(t)...) {
		for _, text := range append(textsOf("ab", 4), textsOf("()[,1", 3)...) {
			whole, ok := impl.ChartOf(c, text)
			if !ok {
				continue
			}
			for cut := range text {
				if ch := hasChart(t, c, text[:cut]); !sameChart(ch, impl.Chart{Sets: whole.Sets[:cut+1]}) {
					t.Fatalf("%s: %q has %s, but %q has %s", showCfg(c), text[:cut], showChart(ch), text, showChart(whole))
				}
			}
		}
	}
}

func TestP41ItemsOfCharts(t *testing.T) {
	for _, c := range append(chartCfgs(t, 800), validCfgs()...) {
		prods := impl.CfgTrim(c).Prods
		eachChart(t, c, 4, func(text string, ch impl.Chart) {
			for at, set := range ch.Sets {
				for n, i := range set {
					if i.Prod < 0 || i.Prod >= len(prods) || i.Dot < 0 || i.Dot > len(prods[i.Prod].Body) || i.From < 0 || i.From > at {
						t.Fatalf("%s: %q has the item %v at %d", showCfg(c), text, i, at)
					}
					if n > 0 && !isBefore(set[n-1], i) {
						t.Fatalf("%s: %q has %s, out of order", showCfg(c), text, showChart(ch))
					}
				}
			}
		})
	}
}

func isBefore(a, b impl.Item) bool {
	if a.Prod != b.Prod {
		return a.Prod < b.Prod
	}
	if a.Dot != b.Dot {
		return a.Dot < b.Dot
	}
	return a.From < b.From
}

// What an item states is so: its first symbols match the text from where it begins to where it stands.
func TestItemsMatchTheText(t *testing.T) {
	for _, c := range chartCfgs(t, 60) {
		trimmed := impl.CfgTrim(c)
		eachChart(t, c, 3, func(text string, ch impl.Chart) {
			for at, set := range ch.Sets {
				for _, i := range set {
					p := trimmed.Prods[i.Prod]
					if !slices.Contains(derivedFrom(trimmed, p.Body[:i.Dot], 3), text[i.From:at]) {
						t.Fatalf("%s: item %v at %d of %q", showCfg(c), i, at, text)
					}
				}
			}
		})
	}
}

// derivedFrom returns the strings of symbols: the sentences with a new first nonterminal that is replaced by them.
func derivedFrom(c impl.Cfg, body []impl.Sym, most int) []string {
	out := impl.Cfg{Heads: c.Heads + 1, Prods: []impl.Prod{{Body: shifted(body)}}}
	for _, p := range c.Prods {
		out.Prods = append(out.Prods, impl.Prod{Head: p.Head + 1, Body: shifted(p.Body)})
	}
	return derived(out, most)
}

func shifted(body []impl.Sym) []impl.Sym {
	out := slices.Clone(body)
	for i := range out {
		if out[i].Head >= 0 {
			out[i].Head++
		}
	}
	return out
}
