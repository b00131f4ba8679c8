package tests

import (
	"cmp"
	"fmt"
	"math"
	"slices"
	"strings"
	"testing"

	"loop.example/fretwork/impl"
)

// showChart writes an item as "PROD.DOT@FROM", and puts a bar between two sets.
func showChart(ch impl.Chart) string {
	var sets []string
	for _, set := range ch.Sets {
		var items []string
		for _, i := range set {
			items = append(items, fmt.Sprintf("%d.%d@%d", i.Prod, i.Dot, i.From))
		}
		sets = append(sets, strings.Join(items, " "))
	}
	return strings.Join(sets, " | ")
}

// chartOf takes sets as showChart writes them.
func chartOf(t *testing.T, text string) impl.Chart {
	t.Helper()
	var ch impl.Chart
	for _, set := range strings.Split(text, "|") {
		var items []impl.Item
		for _, field := range strings.Fields(set) {
			var i impl.Item
			if _, err := fmt.Sscanf(field, "%d.%d@%d", &i.Prod, &i.Dot, &i.From); err != nil {
				t.Fatalf("%q is no item", field)
			}
			items = append(items, i)
		}
		ch.Sets = append(ch.Sets, items)
	}
	return ch
}

func sameChart(a, b impl.Chart) bool {
	return slices.EqualFunc(a.Sets, b.Sets, slices.Equal[[]impl.Item])
}

func copyChart(ch impl.Chart) impl.Chart {
	var out impl.Chart
	for _, set := range ch.Sets {
		out.Sets = append(out.Sets, slices.Clone(set))
	}
	return out
}

// hasChart returns ChartOf of a text, which must succeed.
func hasChart(t *testing.T, c impl.Cfg, text string) impl.Chart {
	t.Helper()
	ch, ok := impl.ChartOf(c, text)
	if !ok {
		t.Fatalf("ChartOf of %q fails for %s", text, showCfg(c))
	}
	return ch
}

// hasNoChart checks that ChartOf of a text fails, with a zero value.
func hasNoChart(t *testing.T, c impl.Cfg, text string) {
	t.Helper()
	if ch, ok := impl.ChartOf(c, text); ok || len(ch.Sets) != 0 {
		t.Errorf("ChartOf of %q is %s, %v, for %s", text, showChart(ch), ok, showCfg(c))
	}
}

// isSentence asks the chart of a text.
func isSentence(c impl.Cfg, text string) bool {
	ch, ok := impl.ChartOf(c, text)
	return ok && impl.ChartEnds(c, ch)
}

func expected(c impl.Cfg, i impl.Item) (impl.Sym, bool) {
	body := c.Prods[i.Prod].Body
	if i.Dot == len(body) {
		return impl.Sym{}, false
	}
	return body[i.Dot], true
}

// required returns what the last set needs for one of its items to be closed, by the document's sentence.
func required(c impl.Cfg, sets [][]impl.Item, item impl.Item) []impl.Item {
	var out []impl.Item
	if s, ok := expected(c, item); ok {
		for index, p := range c.Prods {
			if p.Head == s.Head {
				out = append(out, impl.Item{Prod: index, From: len(sets) - 1})
			}
		}
		return out
	}
	for _, other := range sets[item.From] {
		if s, ok := expected(c, other); ok && s.Head == c.Prods[item.Prod].Head {
			other.Dot++
			out = append(out, other)
		}
	}
	return out
}

// slowAppend appends a set with the given items, and adds what is required until nothing is missing.
func slowAppend(c impl.Cfg, ch impl.Chart, items []impl.Item) impl.Chart {
	set := slices.Clone(items)
	for again := true; again; {
		again = false
		for _, item := range slices.Clone(set) {
			for _, more := range required(c, append(slices.Clone(ch.Sets), set), item) {
				if !slices.Contains(set, more) {
					set, again = append(set, more), true
				}
			}
		}
	}
	slices.SortFunc(set, func(a, b impl.Item) int {
		return cmp.Or(cmp.Compare(a.Prod, b.Prod), cmp.Compare(a.Dot, b.Dot), cmp.Compare(a.From, b.From))
	})
	out := copyChart(ch)
	out.Sets = append(out.Sets, set)
	return out
}

func slowStart(c impl.Cfg) impl.Chart {
	c = impl.CfgTrim(c)
	var items []impl.Item
	for index, p := range c.Prods {
		if p.Head == 0 {
			items = append(items, impl.Item{Prod: index})
		}
	}
	return slowAppend(c, impl.Chart{}, items)
}

func slowStep(c impl.Cfg, ch impl.Chart, b int) (impl.Chart, bool) {
	c = impl.CfgTrim(c)
	var items []impl.Item
	for _, item := range ch.Sets[len(ch.Sets)-1] {
		if s, ok := expected(c, item); ok && s.Head == -1 && s.Low <= b && b <= s.High {
			item.Dot++
			items = append(items, item)
		}
	}
	if len(items) == 0 || len(ch.Sets) == impl.ChartMax+1 {
		return ch, false
	}
	return slowAppend(c, ch, items), true
}

// lacksNone stands for an item that leads to no sentence.
const lacksNone = math.MaxInt

// slowLacks returns what each item of a valid chart lacks. It takes the document's sentence for all items again and again until no number gets smaller.
func slowLacks(c impl.Cfg, ch impl.Chart) [][]int {
	c = impl.CfgTrim(c)
	least := slowLeast(c)
	var lacks [][]int
	for _, set := range ch.Sets {
		lacks = append(lacks, slices.Repeat([]int{lacksNone}, len(set)))
	}
	for again := true; again; {
		again = false
		for at, set := range ch.Sets {
			for n, item := range set {
				head := c.Prods[item.Prod].Head
				rest := slowSum(c.Prods[item.Prod].Body[item.Dot:], least)
				before := lacks[at][n]
				if head == 0 && item.From == 0 {
					lacks[at][n] = min(lacks[at][n], rest)
				}
				for m, other := range ch.Sets[item.From] {
					if s, ok := expected(c, other); ok && s.Head == head && lacks[item.From][m] != lacksNone {
						lacks[at][n] = min(lacks[at][n], rest+lacks[item.From][m]-least[head])
					}
				}
				again = again || lacks[at][n] < before
			}
		}
	}
	return lacks
}

func slowSum(body []impl.Sym, least []int) int {
	sum := 0
	for _, s := range body {
		if s.Head < 0 {
			sum++
		} else {
			sum = min(sum+least[s.Head], impl.CfgMaxLeast)
		}
	}
	return sum
}

// slowChartLeast returns the smallest of what the items of the last set lack.
func slowChartLeast(c impl.Cfg, ch impl.Chart) int {
	lacks := slowLacks(c, ch)
	shortest := slices.Min(append(lacks[len(lacks)-1], lacksNone))
	if shortest == lacksNone {
		return -1
	}
	return shortest
}

func slowEnds(c impl.Cfg, ch impl.Chart) bool {
	c = impl.CfgTrim(c)
	return slices.ContainsFunc(ch.Sets[len(ch.Sets)-1], func(i impl.Item) bool {
		_, ok := expected(c, i)
		return !ok && c.Prods[i.Prod].Head == 0 && i.From == 0
	})
}

// leftTexts returns grammars with left recursion: direct, through other rules, and behind what can be empty.
func leftTexts() []string {
	return []string{
		`s = s "a" | "b";`,
		`s = s "a" | s "b" | ();`,
		`s = s | "a";`,
		`s = s s | "a" | "b";`,
		`s = s s s | "a" | ();`,
		`s = s "a" s | "b" | ();`,
		`s = x "a" | "b"; x = s | x "b";`,
		`s = x; x = y; y = s | x | "ab";`,
		`s = x "a"; x = y "b" | (); y = s | x;`,
		`s = e s "a" | "b"; e = ();`,
		`s = e s "a" | e; e = "b"?;`,
		`s = e e s e "a" | e; e = "b"?;`,
		`s = x s | "a"; x = x "b" | ();`,
		`s = (s "a")* "b"?;`,
		`s = x y z; x = y | s "a"; y = z | (); z = x "b" | ();`,
	}
}

// voidTexts returns grammars in which nonterminals that can be empty stand side by side, in one another and at the end.
func voidTexts() []string {
	return append(emptyTexts(),
		`s = ();`,
		`s = e e e; e = ();`,
		`s = e e "a"; e = ();`,
		`s = "a" e e; e = e e | ();`,
		`s = e f "a" f e; e = "b"?; f = e e;`,
		`s = f e; e = f f; f = () | "a" e "b";`,
		`s = x x; x = y y; y = z z; z = "a"?;`,
		`s = x "a" | x; x = y; y = x | ();`,
	)
}

// chartTexts returns the texts of all grammars of edge cases.
func chartTexts() []string {
	return slices.Concat(endlessTexts(), voidTexts(), leftTexts())
}

// chartCfgs returns the productions of all grammars of edge cases, and so many mixed ones.
func chartCfgs(t *testing.T, count int) []impl.Cfg {
	out := mixedCfgs(count)
	for _, text := range chartTexts() {
		out = append(out, readCfg(t, text))
	}
	return out
}

// eachChart calls check with all texts of at most most bytes a and b that have a chart, and with their charts.
func eachChart(t *testing.T, c impl.Cfg, most int, check func(text string, ch impl.Chart)) {
	t.Helper()
	for _, text := range textsOf("ab", most) {
		if ch, ok := impl.ChartOf(c, text); ok {
			check(text, ch)
		}
	}
}

// mixedChart returns a valid chart of up to four sets with items picked at random, so that few of its sets are closed.
func mixedChart(c impl.Cfg, below func(int) int) impl.Chart {
	prods := impl.CfgTrim(c).Prods
	var ch impl.Chart
	for at := range 1 + below(4) {
		var set []impl.Item
		for n, p := range prods {
			for dot := range len(p.Body) + 1 {
				for from := range at + 1 {
					if below(3) == 0 {
						set = append(set, impl.Item{Prod: n, Dot: dot, From: from})
					}
				}
			}
		}
		ch.Sets = append(ch.Sets, set)
	}
	return ch
}

// eachMixedChart calls check with charts of all productions, most of them not closed.
func eachMixedChart(t *testing.T, count int, check func(c impl.Cfg, ch impl.Chart)) {
	t.Helper()
	below := numbers()
	for _, c := range chartCfgs(t, count) {
		for range 3 {
			check(c, mixedChart(c, below))
		}
	}
}
