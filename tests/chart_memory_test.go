package tests

import (
	"slices"
	"testing"

	"loop.example/fretwork/impl"
)

// roomyChart returns a copy with capacity beyond all lists, which no call may write to.
func roomyChart(ch impl.Chart) impl.Chart {
	sets := make([][]impl.Item, 0, len(ch.Sets)+2)
	for _, set := range ch.Sets {
		items := append(make([]impl.Item, 0, len(set)+3), set...)
		items[:cap(items)][len(items)] = impl.Item{Prod: 77}
		sets = append(sets, items)
	}
	sets[:cap(sets)][len(sets)] = []impl.Item{{Prod: 99}}
	return impl.Chart{Sets: sets}
}

// wholeChart returns a copy with all lists up to their capacities.
func wholeChart(ch impl.Chart) impl.Chart {
	var out impl.Chart
	for _, set := range ch.Sets[:cap(ch.Sets)] {
		out.Sets = append(out.Sets, slices.Clone(set[:cap(set)]))
	}
	return out
}

// clearChart overwrites all lists up to their capacities.
func clearChart(ch impl.Chart) {
	for _, set := range ch.Sets[:cap(ch.Sets)] {
		clear(set[:cap(set)])
	}
	clear(ch.Sets[:cap(ch.Sets)])
}

// memoryCharts calls check with charts of texts, closed or not, valid or not, and with the greatest one.
func memoryCharts(t *testing.T, check func(c impl.Cfg, ch impl.Chart)) {
	t.Helper()
	for _, c := range chartCfgs(t, 50) {
		check(c, impl.ChartStart(c))
		eachChart(t, c, 2, func(_ string, ch impl.Chart) { check(c, ch) })
	}
	eachMixedChart(t, 50, check)
	c := readCfg(t, `s = "a" s | ();`)
	check(c, impl.Chart{Sets: slices.Repeat([][]impl.Item{{{}}}, impl.ChartMax+1)})
	check(c, impl.Chart{Sets: slices.Repeat([][]impl.Item{{{}}}, impl.ChartMax+2)})
	check(c, chartOf(t, "0.0@0 | 1.0@0 0.0@0"))
	check(impl.Cfg{}, chartOf(t, "0.0@0"))
}

func TestNoCallChangesItsChart(t *testing.T) {
	memoryCharts(t, func(c impl.Cfg, ch impl.Chart) {
		given, prods := roomyChart(ch), roomyCfg(c)
		before, prodsBefore := wholeChart(given), wholeCfg(prods)
		impl.ChartStart(prods)
		impl.ChartOf(prods, "ab")
		impl.ChartStep(prods, given, 'a')
		impl.ChartStep(prods, given, 'b')
		impl.ChartEnds(prods, given)
		impl.ChartNext(prods, given)
		impl.ChartLeast(prods, given)
		if !sameChart(wholeChart(given), before) {
			t.Fatalf("%s was changed to %s", showChart(before), showChart(wholeChart(given)))
		}
		if !sameCfg(wholeCfg(prods), prodsBefore) {
			t.Fatalf("%s was changed to %s", showCfg(prodsBefore), showCfg(wholeCfg(prods)))
		}
	})
}

// Also a chart that a step returns unchanged is a new one.
func TestStepsReturnNewMemory(t *testing.T) {
	memoryCharts(t, func(c impl.Cfg, ch impl.Chart) {
		for _, b := range []int{'a', 'b', 'c', -1} {
			given := roomyChart(ch)
			before := wholeChart(given)
			next, ok := impl.ChartStep(c, given, b)
			want := copyChart(next)
			clearChart(next)
			if !sameChart(wholeChart(given), before) {
				t.Fatalf("%s: a step with %d, %v, shares memory with %s", showCfg(c), b, ok, showChart(ch))
			}
			next, _ = impl.ChartStep(c, given, b)
			clearChart(given)
			if !sameChart(next, want) {
				t.Fatalf("%s: what a step with %d, %v, returns changes with its argument %s", showCfg(c), b, ok, showChart(ch))
			}
		}
	})
}

// setsShare reports whether clearing one set, up to its capacity, changes another one.
func setsShare(make func() impl.Chart) bool {
	want := copyChart(make())
	for i := range want.Sets {
		ch := make()
		set := ch.Sets[i]
		clear(set[:cap(set)])
		ch.Sets[i] = want.Sets[i]
		if !sameChart(ch, want) {
			return true
		}
	}
	return false
}

func TestSetsShareNoMemory(t *testing.T) {
	for _, grammar := range chartTexts() {
		c := readCfg(t, grammar)
		eachChart(t, c, 3, func(text string, ch impl.Chart) {
			if setsShare(func() impl.Chart { return hasChart(t, c, text) }) {
				t.Errorf("sets of %q of %s share memory", text, grammar)
			}
			if setsShare(func() impl.Chart { next, _ := impl.ChartStep(c, ch, 'a'); return next }) {
				t.Errorf("sets of a step after %q of %s share memory", text, grammar)
			}
		})
	}
	// Also if they do so in the argument.
	c := cfgOf(1, prod(0, "a", 0), prod(0, "b"))
	shared := impl.Chart{Sets: slices.Repeat([][]impl.Item{{{}, {Prod: 1}}}, 3)}
	for _, b := range []int{'a', 'z'} {
		if setsShare(func() impl.Chart { next, _ := impl.ChartStep(c, shared, b); return next }) {
			t.Errorf("sets of a step with %c share memory as those of its argument do", b)
		}
	}
}

// What a call answers does not depend on what was done with earlier answers, nor on calls that failed.
func TestNothingIsKeptOfCharts(t *testing.T) {
	c := readCfg(t, `s = e s "a" | e; e = "b"?;`)
	want := copyChart(hasChart(t, c, "bba"))
	next := slices.Clone(impl.ChartNext(c, want))
	for range 20 {
		got := hasChart(t, c, "bba")
		if !sameChart(got, want) || !slices.Equal(impl.ChartNext(c, got), next) || impl.ChartLeast(c, got) != 0 || !impl.ChartEnds(c, got) {
			t.Fatalf("%s, %d, %v", showChart(got), impl.ChartLeast(c, got), impl.ChartEnds(c, got))
		}
		clearChart(got)
		clear(impl.ChartNext(c, want))
		clearChart(impl.ChartStart(c))
		impl.ChartOf(c, "bbac")
		impl.ChartStart(impl.Cfg{})
	}
}

func TestEmptyAndNilSetsAreTheSame(t *testing.T) {
	c := cfgOf(1, prod(0, "a", 0), prod(0, "b"))
	a := impl.Chart{Sets: [][]impl.Item{{}, {{}, {Prod: 1}}, {}}}
	b := impl.Chart{Sets: [][]impl.Item{nil, {{}, {Prod: 1}}, nil}}
	for range 2 {
		for _, value := range []int{'a', 'b', 'c'} {
			one, ok := impl.ChartStep(c, a, value)
			other, fine := impl.ChartStep(c, b, value)
			if ok != fine || !sameChart(one, other) {
				t.Errorf("%s, %v, but %s, %v", showChart(one), ok, showChart(other), fine)
			}
		}
		if impl.ChartLeast(c, a) != impl.ChartLeast(c, b) || impl.ChartEnds(c, a) != impl.ChartEnds(c, b) {
			t.Errorf("%d, but %d", impl.ChartLeast(c, a), impl.ChartLeast(c, b))
		}
		a.Sets, b.Sets = a.Sets[:2], b.Sets[:2]
	}
}
