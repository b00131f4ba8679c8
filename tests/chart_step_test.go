package tests

import (
	"math"
	"slices"
	"strings"
	"testing"

	"loop.example/fretwork/impl"
)

// hasStep checks what ChartStep appends to a chart.
func hasStep(t *testing.T, c impl.Cfg, ch impl.Chart, b int, want string) {
	t.Helper()
	next, ok := impl.ChartStep(c, ch, b)
	if !ok || len(next.Sets) != len(ch.Sets)+1 || !sameChart(impl.Chart{Sets: next.Sets[:len(ch.Sets)]}, ch) {
		t.Fatalf("%s with %d goes on to %s, %v", showChart(ch), b, showChart(next), ok)
	}
	if got := showChart(impl.Chart{Sets: next.Sets[len(ch.Sets):]}); got != want {
		t.Errorf("%s with %d appends %s, not %s", showChart(ch), b, got, want)
	}
}

// hasNoStep checks that ChartStep fails with an unchanged chart.
func hasNoStep(t *testing.T, c impl.Cfg, ch impl.Chart, b int) {
	t.Helper()
	if next, ok := impl.ChartStep(c, ch, b); ok || !sameChart(next, ch) {
		t.Errorf("%s with %d goes on to %s, %v", showChart(ch), b, showChart(next), ok)
	}
}

func TestStepsWrittenOut(t *testing.T) {
	c := cfgOf(2, prod(0, 1, rangeSym('p', 'r')), prod(1, rangeSym(0, 9)), prod(1, rangeSym(5, 255), 1))
	start := impl.ChartStart(c)
	hasStep(t, c, start, 0, "0.1@0 1.1@0")
	hasStep(t, c, start, 4, "0.1@0 1.1@0")
	hasStep(t, c, start, 5, "0.1@0 1.0@1 1.1@0 2.0@1 2.1@0")
	hasStep(t, c, start, 9, "0.1@0 1.0@1 1.1@0 2.0@1 2.1@0")
	hasStep(t, c, start, 10, "1.0@1 2.0@1 2.1@0")
	hasStep(t, c, start, 255, "1.0@1 2.0@1 2.1@0")
	next, _ := impl.ChartStep(c, start, 4)
	for _, b := range []int{'p', 'q', 'r'} {
		hasStep(t, c, next, b, "0.2@0")
	}
	for _, b := range []int{'o', 's', 0, 4, 255} {
		hasNoStep(t, c, next, b)
	}
}

func TestNoStepWithWhatIsNoByte(t *testing.T) {
	c := cfgOf(1, prod(0, rangeSym(0, 255)), prod(0, rangeSym(0, 255), 0))
	for _, ch := range []impl.Chart{impl.ChartStart(c), hasChart(t, c, "xyz")} {
		for _, b := range []int{-1, 256, 257, -256, math.MinInt, math.MaxInt, math.MaxInt - 255} {
			hasNoStep(t, c, ch, b)
		}
	}
}

func TestNoStepWithoutItems(t *testing.T) {
	for _, c := range []impl.Cfg{cfgOf(1), cfgOf(1, prod(0, 0)), cfgOf(1, prod(0, "a"))} {
		for _, sets := range []string{"", "|", "||"} {
			hasNoStep(t, c, chartOf(t, sets), 'a')
		}
	}
	c := cfgOf(2, prod(0, "a", 1), prod(1, "b"))
	hasNoStep(t, c, chartOf(t, "0.0@0 | "), 'a')
	hasNoStep(t, c, chartOf(t, "0.0@0 | 0.2@0"), 'a')
	// An item that expects a nonterminal does not expect its first byte.
	hasNoStep(t, c, chartOf(t, "0.1@0"), 'b')
	// Only the last set counts.
	hasNoStep(t, c, chartOf(t, "0.0@0 | 1.0@1"), 'a')
}

// A step adds what the new set needs, and leaves the sets before it as they are, closed or not.
func TestStepsFromChartsThatAreNotClosed(t *testing.T) {
	c := cfgOf(3, prod(0, 1, 2), prod(1, "a"), prod(1, 1, "a"), prod(2), prod(2, "b"))
	hasStep(t, c, chartOf(t, "1.0@0"), 'a', "1.1@0")
	hasStep(t, c, chartOf(t, "0.0@0 1.0@0"), 'a', "0.1@0 0.2@0 1.1@0 3.0@1 4.0@1")
	hasStep(t, c, chartOf(t, "1.0@0 2.0@0"), 'a', "1.1@0 2.1@0")
	hasStep(t, c, chartOf(t, "0.0@0 | 1.0@0"), 'a', "0.1@0 0.2@0 1.1@0 3.0@2 4.0@2")
	hasStep(t, c, chartOf(t, "0.0@0 | 1.0@1"), 'a', "1.1@1")
	hasStep(t, c, chartOf(t, " | 0.0@0 2.0@1 | 1.0@0 1.0@1"), 'a', "0.1@0 0.2@0 1.1@0 1.1@1 2.1@1 3.0@3 4.0@3")
	// Items that no text has: what they expect is there anyway.
	hasStep(t, c, chartOf(t, "0.1@0 4.0@0"), 'b', "0.2@0 4.1@0")
}

func TestStepsAreThoseOfTheDocument(t *testing.T) {
	eachMixedChart(t, 700, func(c impl.Cfg, ch impl.Chart) {
		for _, b := range []int{'a', 'b', 'c'} {
			want, wanted := slowStep(c, ch, b)
			if got, ok := impl.ChartStep(c, ch, b); ok != wanted || !sameChart(got, want) {
				t.Fatalf("%s: %s with %c goes on to %s, %v, not %s, %v", showCfg(c), showChart(ch), b, showChart(got), ok, showChart(want), wanted)
			}
		}
	})
}

func checkKept(t *testing.T, c impl.Cfg, ch impl.Chart) {
	t.Helper()
	for _, b := range []int{'a', 'b', 'c', -1, 256} {
		next, ok := impl.ChartStep(c, ch, b)
		if !ok {
			if !sameChart(next, ch) {
				t.Fatalf("%s: %s with %d fails with %s", showCfg(c), showChart(ch), b, showChart(next))
			}
			continue
		}
		if len(next.Sets) != len(ch.Sets)+1 || len(next.Sets[len(ch.Sets)]) == 0 || !sameChart(impl.Chart{Sets: next.Sets[:len(ch.Sets)]}, ch) {
			t.Fatalf("%s: %s with %d goes on to %s", showCfg(c), showChart(ch), b, showChart(next))
		}
	}
}

func TestP33StepsKeepAllSets(t *testing.T) {
	for _, c := range chartCfgs(t, 500) {
		checkKept(t, c, impl.ChartStart(c))
		eachChart(t, c, 3, func(_ string, ch impl.Chart) { checkKept(t, c, ch) })
	}
	eachMixedChart(t, 500, func(c impl.Cfg, ch impl.Chart) { checkKept(t, c, ch) })
}

func TestP39NoStepFromTheGreatestChart(t *testing.T) {
	for _, grammar := range []string{`s = "a"*;`, `s = s "a" | ();`, `s = e s "a" | e; e = "b"?;`} {
		c := readCfg(t, grammar)
		ch := hasChart(t, c, strings.Repeat("a", 79))
		ch, ok := impl.ChartStep(c, ch, 'a')
		if !ok || len(ch.Sets) != impl.ChartMax+1 {
			t.Fatalf("%s: the last step leads to %d sets, %v", grammar, len(ch.Sets), ok)
		}
		hasNoStep(t, c, ch, 'a')
		hasNoStep(t, c, ch, 'b')
		if !impl.ChartEnds(c, ch) || impl.ChartLeast(c, ch) != 0 {
			t.Errorf("%s: %v, %d", grammar, impl.ChartEnds(c, ch), impl.ChartLeast(c, ch))
		}
	}
	// The number of sets counts, whatever they have.
	c := cfgOf(1, prod(0, "ab"))
	sets := slices.Repeat([][]impl.Item{nil}, impl.ChartMax)
	hasStep(t, c, impl.Chart{Sets: append(slices.Clone(sets[1:]), []impl.Item{{}})}, 'a', "0.1@0")
	hasNoStep(t, c, impl.Chart{Sets: append(slices.Clone(sets), []impl.Item{{}})}, 'a')
}
