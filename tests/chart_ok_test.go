package tests

import (
	"math"
	"slices"
	"strings"
	"testing"

	"loop.example/fretwork/impl"
)

// checkNothing checks that all functions which take a chart say that something is invalid.
func checkNothing(t *testing.T, c impl.Cfg, ch impl.Chart) {
	t.Helper()
	for _, b := range []int{'a', 'b', 0, 255, -1, 256} {
		if next, ok := impl.ChartStep(c, ch, b); ok || len(next.Sets) != 0 {
			t.Errorf("%s with %d goes on to %s, %v", showChart(ch), b, showChart(next), ok)
		}
	}
	if impl.ChartEnds(c, ch) {
		t.Errorf("%s ends", showChart(ch))
	}
	if next := impl.ChartNext(c, ch); !slices.Equal(next, make([]bool, 256)) {
		t.Errorf("ChartNext of %s is %v", showChart(ch), next)
	}
	if got := impl.ChartLeast(c, ch); got != -1 {
		t.Errorf("ChartLeast of %s is %d", showChart(ch), got)
	}
}

// isTaken reports whether a chart counts as valid: a step returns it, with one set more or unchanged.
func isTaken(c impl.Cfg, ch impl.Chart) bool {
	next, _ := impl.ChartStep(c, ch, 'a')
	return len(next.Sets) > 0
}

func TestInvalidProductionsHaveNoCharts(t *testing.T) {
	charts := []impl.Chart{{}, chartOf(t, ""), chartOf(t, "0.0@0"), chartOf(t, "0.1@0"), chartOf(t, "0.0@0 | 0.1@0")}
	for _, c := range invalidCfgs() {
		if ch := impl.ChartStart(c); len(ch.Sets) != 0 {
			t.Errorf("%+v starts with %s", c, showChart(ch))
		}
		for _, text := range []string{"", "a", "ab", strings.Repeat("a", 100)} {
			hasNoChart(t, c, text)
		}
		for _, ch := range charts {
			checkNothing(t, c, ch)
		}
	}
}

func TestInvalidCharts(t *testing.T) {
	c := cfgOf(2, prod(0, "a", 1), prod(0), prod(1, "b"))
	for _, sets := range []string{
		// Productions that do not exist.
		"-1.0@0", "3.0@0", "0.0@0 3.0@0", "4.0@0", "-1.0@0 0.0@0", "0.0@0 | 0.1@0 3.0@1",
		// Dots before the first symbol and behind the last one.
		"0.-1@0", "0.3@0", "1.1@0", "2.2@0", "0.0@0 1.0@0 1.1@0", "0.-1@0 0.0@0", "0.0@0 | 2.2@1",
		// Positions before the text and behind the set.
		"0.0@-1", "0.0@1", "0.0@0 0.0@1", "0.0@0 | 0.1@2", "0.0@0 | 0.1@-1", "0.0@0 | 0.0@-1 0.0@0", "0.0@0 | | 0.1@3",
		// Items that are repeated.
		"0.0@0 0.0@0", "0.0@0 1.0@0 1.0@0", "0.0@0 | 0.1@0 0.1@0", "0.0@0 | 0.1@0 2.0@1 2.0@1",
		// Items that are out of order by Prod, by Dot and by From.
		"1.0@0 0.0@0", "0.0@0 2.0@0 1.0@0", "1.0@0 0.1@0", "0.1@0 0.0@0", "0.0@0 0.2@0 0.1@0", "0.0@0 | 0.0@1 0.0@0", "0.0@0 | 0.1@0 0.0@1", "0.0@0 | 2.0@0 0.1@1", "0.0@0 | | 0.1@0 0.1@2 0.1@1",
		// One fault in any of the sets is enough.
		"1.0@0 0.0@0 | 0.1@0", "0.0@1 | 0.1@0", "0.3@0 | 0.1@0 | 0.2@0", "0.0@0 | 3.0@0 | 0.1@0", " | 0.0@2 | 0.0@0",
	} {
		checkNothing(t, c, chartOf(t, sets))
	}
	for _, i := range []impl.Item{
		{Prod: math.MaxInt}, {Prod: math.MinInt}, {Dot: math.MaxInt}, {Dot: math.MinInt}, {From: math.MaxInt}, {From: math.MinInt},
	} {
		checkNothing(t, c, impl.Chart{Sets: [][]impl.Item{{i}}})
	}
}

func TestChartsWithTooFewAndTooManySets(t *testing.T) {
	c := cfgOf(1, prod(0, "a", 0), prod(0))
	checkNothing(t, c, impl.Chart{})
	checkNothing(t, c, impl.Chart{Sets: [][]impl.Item{}})
	whole := []impl.Item{{}, {Prod: 1}}
	for _, count := range []int{1, 2, impl.ChartMax, impl.ChartMax + 1} {
		sets := slices.Repeat([][]impl.Item{whole}, count)
		if ch := (impl.Chart{Sets: sets}); !isTaken(c, ch) || !impl.ChartEnds(c, ch) || impl.ChartLeast(c, ch) != 0 {
			t.Errorf("a chart with %d sets is not valid", count)
		}
	}
	for _, count := range []int{impl.ChartMax + 2, impl.ChartMax + 3, 1000} {
		checkNothing(t, c, impl.Chart{Sets: slices.Repeat([][]impl.Item{whole}, count)})
	}
}

// Charts that no text has are valid too, as long as each item is one.
func TestChartsThatAreValidAndNotClosed(t *testing.T) {
	c := cfgOf(2, prod(0, "a", 1), prod(0), prod(1, "b"))
	for _, sets := range []string{
		"", "|", "||||", "0.0@0", "2.0@0", "2.1@0", "0.0@0 0.1@0 0.2@0 1.0@0 2.0@0 2.1@0",
		"0.1@0 | 0.0@0", "| 0.0@0 0.0@1 0.1@0 0.1@1 2.1@0 2.1@1", " | | 0.2@0 0.2@1 0.2@2", "0.0@0 | | 1.0@1",
	} {
		if ch := chartOf(t, sets); !isTaken(c, ch) {
			t.Errorf("%s is not valid", sets)
		}
	}
	eachMixedChart(t, 300, func(c impl.Cfg, ch impl.Chart) {
		if !isTaken(c, ch) {
			t.Fatalf("%s: %s is not valid", showCfg(c), showChart(ch))
		}
	})
}

// Which productions and dots exist is a matter of CfgTrim.
func TestChartsAreOfTrimmedProductions(t *testing.T) {
	c := cfgOf(4, prod(0, "xyz", 1), prod(0, "a"), prod(1, 1), prod(2, "bcd"), prod(3))
	for _, sets := range []string{"1.0@0", "4.0@0", "0.2@0", "0.0@0 1.0@0"} {
		checkNothing(t, c, chartOf(t, sets))
	}
	ch := chartOf(t, "0.0@0")
	hasStep(t, c, ch, 'a', "0.1@0")
	hasNoStep(t, c, ch, 'x')
	hasNext(t, c, ch, "a")
	lacks(t, c, ch, 1)
	if !impl.ChartEnds(c, chartOf(t, "0.1@0")) {
		t.Error("the only production that is left is not complete")
	}
	for _, c := range chartCfgs(t, 700) {
		trimmed := impl.CfgTrim(c)
		if !sameChart(impl.ChartStart(c), impl.ChartStart(trimmed)) {
			t.Fatalf("%s starts with %s, trimmed with %s", showCfg(c), showChart(impl.ChartStart(c)), showChart(impl.ChartStart(trimmed)))
		}
		for _, text := range textsOf("ab", 3) {
			ch, ok := impl.ChartOf(c, text)
			if other, fine := impl.ChartOf(trimmed, text); fine != ok || !sameChart(other, ch) {
				t.Fatalf("%s: %q has %s, %v, trimmed %s, %v", showCfg(c), text, showChart(ch), ok, showChart(other), fine)
			}
			if ok && (impl.ChartLeast(c, ch) != impl.ChartLeast(trimmed, ch) || impl.ChartEnds(c, ch) != impl.ChartEnds(trimmed, ch) || !slices.Equal(impl.ChartNext(c, ch), impl.ChartNext(trimmed, ch))) {
				t.Fatalf("%s: %q goes on otherwise if trimmed", showCfg(c), text)
			}
		}
	}
}
