package tests

import (
	"slices"
	"strings"
	"testing"

	"loop.example/fretwork/impl"
)

// hasNext checks that exactly the bytes of a text can come next.
func hasNext(t *testing.T, c impl.Cfg, ch impl.Chart, want string) {
	t.Helper()
	var got []byte
	next := impl.ChartNext(c, ch)
	for b, isNext := range next {
		if isNext {
			got = append(got, byte(b))
		}
	}
	if len(next) != 256 || string(got) != want {
		t.Errorf("after %s come %q of %d, not %q", showChart(ch), got, len(next), want)
	}
}

func TestNextBytes(t *testing.T) {
	c := readCfg(t, `s = s "+" n | n; n = [0-9] n | [0-9] | "(" s ")";`)
	for _, want := range []struct{ text, next string }{
		{"", "(0123456789"},
		{"1", "(+0123456789"},
		{"1+", "(0123456789"},
		{"(", "(0123456789"},
		{"(1", "()+0123456789"},
		{"(1)", "+"},
		{"((1)", ")+"},
	} {
		hasNext(t, c, hasChart(t, c, want.text), want.next)
	}
	ranges := cfgOf(2, prod(0, 1, rangeSym(0, 0)), prod(0, rangeSym(254, 255)), prod(0, rangeSym(0, 1), "x"), prod(0, rangeSym(1, 2)), prod(1))
	hasNext(t, ranges, impl.ChartStart(ranges), "\x00\x01\x02\xfe\xff")
	all := cfgOf(1, prod(0, rangeSym(0, 255)))
	if slices.Contains(impl.ChartNext(all, impl.ChartStart(all)), false) {
		t.Error("not all bytes come next")
	}
	hasNext(t, all, hasChart(t, all, "x"), "")
	hasNext(t, cfgOf(1), impl.ChartStart(cfgOf(1)), "")
}

// A set that is not closed has what it has: a nonterminal that is expected alone brings no byte.
func TestNextBytesOfChartsThatAreNotClosed(t *testing.T) {
	c := cfgOf(2, prod(0, 1, "c"), prod(1, "a"), prod(1, "b", 1))
	hasNext(t, c, chartOf(t, "0.0@0"), "")
	hasNext(t, c, chartOf(t, "0.0@0 2.0@0"), "b")
	hasNext(t, c, chartOf(t, "2.0@0"), "b")
	hasNext(t, c, chartOf(t, "0.1@0 0.2@0 1.0@0 2.1@0"), "ac")
	hasNext(t, c, chartOf(t, "0.0@0 1.0@0 | "), "")
	hasNext(t, c, chartOf(t, "0.0@0 1.0@0 | 0.1@0 1.1@0"), "c")
	hasNext(t, c, chartOf(t, " | 0.1@0 0.1@1"), "c")
}

func checkNext(t *testing.T, c impl.Cfg, ch impl.Chart) {
	t.Helper()
	next := impl.ChartNext(c, ch)
	if len(next) != 256 {
		t.Fatalf("%s: ChartNext of %s has %d elements", showCfg(c), showChart(ch), len(next))
	}
	for b, isNext := range next {
		if _, ok := impl.ChartStep(c, ch, b); ok != isNext {
			t.Fatalf("%s: %s: ChartNext of %d is %v, but a step is %v", showCfg(c), showChart(ch), b, isNext, ok)
		}
	}
}

func TestP37NextBytesAreThoseOfSteps(t *testing.T) {
	for _, c := range chartCfgs(t, 60) {
		checkNext(t, c, impl.ChartStart(c))
		eachChart(t, c, 2, func(_ string, ch impl.Chart) { checkNext(t, c, ch) })
	}
	for _, c := range wideCfgs(t) {
		for _, text := range []string{"", "\x00", "a", "(", "()", "tru", "true", "[null", "-", "-1", "1", "1+", "(1"} {
			if ch, ok := impl.ChartOf(c, text); ok {
				checkNext(t, c, ch)
			}
		}
	}
	eachMixedChart(t, 60, func(c impl.Cfg, ch impl.Chart) { checkNext(t, c, ch) })
}

func TestP37NothingComesAfterTheGreatestChart(t *testing.T) {
	c := readCfg(t, `s = "a"*;`)
	hasNext(t, c, hasChart(t, c, strings.Repeat("a", 79)), "a")
	full := hasChart(t, c, strings.Repeat("a", 80))
	hasNext(t, c, full, "")
	checkNext(t, c, full)
	sets := append(slices.Repeat([][]impl.Item{nil}, impl.ChartMax), []impl.Item{{Prod: 0}, {Prod: 1}})
	hasNext(t, c, impl.Chart{Sets: sets}, "")
	checkNext(t, c, impl.Chart{Sets: sets})
	hasNext(t, c, impl.Chart{Sets: sets[1:]}, "a")
}

func TestEnds(t *testing.T) {
	c := cfgOf(2, prod(0, "a", 1), prod(0, "b"), prod(1, 0), prod(1))
	for _, want := range []struct {
		sets string
		ends bool
	}{
		{"1.1@0", true},
		{"0.2@0", true},
		{"0.0@0 0.2@0 3.0@0", true},
		{" | 1.1@0", true},
		{"1.1@0 | | 0.2@0", true},
		{"", false},
		{"1.0@0", false},
		{"0.1@0", false},
		// The items behind the dot could be empty, but the item is not complete.
		{"0.1@0 3.0@0", false},
		{"2.1@0", false},
		{"3.0@0", false},
		{" | 1.1@1", false},
		{" | 0.2@1", false},
		{"1.1@0 | ", false},
		{"1.1@0 | 1.0@0", false},
	} {
		if got := impl.ChartEnds(c, chartOf(t, want.sets)); got != want.ends {
			t.Errorf("ChartEnds of %s is %v", want.sets, got)
		}
	}
	eachMixedChart(t, 500, func(c impl.Cfg, ch impl.Chart) {
		if impl.ChartEnds(c, ch) != slowEnds(c, ch) {
			t.Fatalf("%s: ChartEnds of %s is %v", showCfg(c), showChart(ch), impl.ChartEnds(c, ch))
		}
	})
}
