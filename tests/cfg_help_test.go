package tests

import (
	"fmt"
	"slices"
	"strings"
	"testing"

	"loop.example/fretwork/impl"
)

func headSym(head int) impl.Sym {
	return impl.Sym{Head: head}
}

func rangeSym(low, high int) impl.Sym {
	return impl.Sym{Head: -1, Low: low, High: high}
}

// prod takes numbers as nonterminals, texts as their bytes, and symbols.
func prod(head int, symbols ...any) impl.Prod {
	p := impl.Prod{Head: head}
	for _, s := range symbols {
		switch s := s.(type) {
		case int:
			p.Body = append(p.Body, headSym(s))
		case string:
			for i := range len(s) {
				p.Body = append(p.Body, rangeSym(int(s[i]), int(s[i])))
			}
		case impl.Sym:
			p.Body = append(p.Body, s)
		}
	}
	return p
}

func cfgOf(heads int, prods ...impl.Prod) impl.Cfg {
	return impl.Cfg{Heads: heads, Prods: prods}
}

// showCfg writes productions as "HEADS: HEAD = BODY; ..", where a nonterminal is a number and a byte is in quotation marks.
func showCfg(c impl.Cfg) string {
	var prods []string
	for _, p := range c.Prods {
		text := fmt.Sprint(p.Head, " =")
		for _, s := range p.Body {
			switch {
			case s.Head >= 0:
				text += fmt.Sprint(" ", s.Head)
			case s.Low == s.High:
				text += fmt.Sprintf(" '%c'", s.Low)
			default:
				text += fmt.Sprintf(" '%c-%c'", s.Low, s.High)
			}
		}
		prods = append(prods, text)
	}
	return fmt.Sprint(c.Heads, ": ", strings.Join(prods, "; "))
}

func sameProd(a, b impl.Prod) bool {
	return a.Head == b.Head && slices.Equal(a.Body, b.Body)
}

func sameCfg(a, b impl.Cfg) bool {
	return a.Heads == b.Heads && slices.EqualFunc(a.Prods, b.Prods, sameProd)
}

func copyCfg(c impl.Cfg) impl.Cfg {
	out := impl.Cfg{Heads: c.Heads}
	for _, p := range c.Prods {
		out.Prods = append(out.Prods, impl.Prod{Head: p.Head, Body: slices.Clone(p.Body)})
	}
	return out
}

func readGram(t *testing.T, text string) impl.Gram {
	t.Helper()
	g, ok := impl.GramRead(text)
	if !ok {
		t.Fatalf("GramRead(%q) fails", text)
	}
	return g
}

func readCfg(t *testing.T, text string) impl.Cfg {
	t.Helper()
	c, ok := impl.CfgOf(readGram(t, text))
	if !ok {
		t.Fatalf("CfgOf of %q fails", text)
	}
	return c
}

// hasSents checks that CfgSents succeeds with these sentences.
func hasSents(t *testing.T, c impl.Cfg, most int, want []string) {
	t.Helper()
	got, ok := impl.CfgSents(c, most)
	if !ok {
		t.Errorf("CfgSents of %s up to %d fails", showCfg(c), most)
	} else if !slices.Equal(got, want) {
		t.Errorf("CfgSents of %s up to %d is %q, not %q", showCfg(c), most, got, want)
	}
}

// hasTooMany checks that CfgSents fails, with an empty list.
func hasTooMany(t *testing.T, c impl.Cfg, most int) {
	t.Helper()
	if got, ok := impl.CfgSents(c, most); ok || len(got) != 0 {
		t.Errorf("CfgSents of %s up to %d is %q, %v", showCfg(c), most, got, ok)
	}
}

// sortedTexts returns the texts ascending, each once.
func sortedTexts(texts []string) []string {
	texts = slices.Clone(texts)
	slices.Sort(texts)
	return slices.Compact(texts)
}

// joined returns each text followed by each end, as far as that has at most most bytes.
func joined(texts, ends []string, most int) []string {
	var out []string
	for _, text := range texts {
		for _, end := range ends {
			if len(text)+len(end) <= most {
				out = append(out, text+end)
			}
		}
	}
	return sortedTexts(out)
}

func classTexts(low, high []int) []string {
	var out []string
	for i := range low {
		for b := low[i]; b <= high[i]; b++ {
			out = append(out, string([]byte{byte(b)}))
		}
	}
	return out
}

// meant returns the sentences of at most most bytes of a grammar, by what its expressions mean and without productions.
func meant(g impl.Gram, most int) []string {
	rules := map[string][]string{}
	for again := true; again; {
		again = false
		for _, r := range g.Rules {
			texts := meantPart(r.Part, rules, most)
			again = again || len(texts) > len(rules[r.Name])
			rules[r.Name] = texts
		}
	}
	return rules[g.Rules[0].Name]
}

func meantPart(p impl.Part, rules map[string][]string, most int) []string {
	out := []string{}
	switch p.Kind {
	case impl.PartText:
		return joined([]string{p.Text}, []string{""}, most)
	case impl.PartClass:
		return joined([]string{""}, classTexts(p.Low, p.High), most)
	case impl.PartName:
		return rules[p.Text]
	case impl.PartSeq:
		out = []string{""}
		for _, kid := range p.Kids {
			out = joined(out, meantPart(kid, rules, most), most)
		}
	case impl.PartAlt:
		for _, kid := range p.Kids {
			out = append(out, meantPart(kid, rules, most)...)
		}
	case impl.PartMany:
		return meantTimes(meantPart(p.Kids[0], rules, most), p.Min, p.Max, most)
	}
	return sortedTexts(out)
}

// meantTimes takes most+1 further times for all of them, since each but the empty one adds a byte.
func meantTimes(texts []string, least, times, most int) []string {
	if times < 0 {
		times = least + most + 1
	}
	now := []string{""}
	var out []string
	for i := 0; i <= times; i++ {
		if i >= least {
			out = append(out, now...)
		}
		now = joined(now, texts, most)
	}
	return sortedTexts(out)
}

// derived returns the sentences of at most most bytes of productions, without a limit to their number and without CfgTrim.
func derived(c impl.Cfg, most int) []string {
	lists := make([][]string, c.Heads)
	for again := true; again; {
		again = false
		for _, p := range c.Prods {
			now := []string{""}
			for _, s := range p.Body {
				if s.Head >= 0 {
					now = joined(now, lists[s.Head], most)
				} else {
					now = joined(now, classTexts([]int{s.Low}, []int{s.High}), most)
				}
			}
			before := len(lists[p.Head])
			lists[p.Head] = sortedTexts(append(now, lists[p.Head]...))
			again = again || len(lists[p.Head]) > before
		}
	}
	return lists[0]
}

// numbers returns a source of the same numbers each time, from 0 to one less than what it is asked for.
func numbers() func(int) int {
	state := uint64(1)
	return func(below int) int {
		state = state*6364136223846793005 + 1442695040888963407
		return int(state>>33) % below
	}
}

// mixedCfgs returns productions of up to five nonterminals over the bytes a and b, many of them without a sentence, with productions that no sentence needs, or with cycles.
func mixedCfgs(count int) []impl.Cfg {
	below := numbers()
	var out []impl.Cfg
	for range count {
		c := impl.Cfg{Heads: 1 + below(5)}
		for head := range c.Heads {
			for range below(4) {
				p := impl.Prod{Head: head}
				for range below(4) {
					if below(5) < 2 {
						p.Body = append(p.Body, headSym(below(c.Heads)))
					} else {
						low := 'a' + below(2)
						p.Body = append(p.Body, rangeSym(low, max(low, 'a'+below(2))))
					}
				}
				c.Prods = append(c.Prods, p)
			}
		}
		out = append(out, c)
	}
	return out
}

// endlessTexts returns grammars with expressions that never end.
func endlessTexts() []string {
	return []string{
		`s = s;`,
		`s = "a" s;`,
		`s = s "a";`,
		`s = s s;`,
		`s = s | s "a" | "b" s s;`,
		`s = x; x = s;`,
		`s = x "a" | y; x = y "b"; y = x | s;`,
		`s = "a" | n | u; n = "a" n; u = "b" n; z = "b";`,
		`s = s "a" | "b";`,
		`s = "a" s | s "a" | "b";`,
		`s = n*; n = "a" n;`,
		`s = n+; n = "a" n;`,
		`s = n+ | "b"; n = [ab] n;`,
		`s = n? "b"; n = n;`,
		`s = n{0,2}; n = n n;`,
		`s = n{1,2} | "a"; n = n n;`,
		`s = n{2,3}; n = n | "a" n;`,
		`s = ("a" n)* "b" (n | "a"); n = n;`,
		`s = "a"; n = n x; x = "b";`,
		`s = x "a"; x = y | "b" n; y = "a" x | x; n = s;`,
		`s = (s "a")+ | ("b" s)*;`,
	}
}

// emptyTexts returns grammars with repetitions of what can be empty.
func emptyTexts() []string {
	return []string{
		`s = ()*;`,
		`s = ()+;`,
		`s = ()?;`,
		`s = (){3,5};`,
		`s = (){6,};`,
		`s = ("a"?)*;`,
		`s = ("a"*)*;`,
		`s = ("a"*)+;`,
		`s = ("a"+)?;`,
		`s = ("a"?){6,6};`,
		`s = ("a"*){2,3};`,
		`s = ("a" | ()){2,};`,
		`s = ("a"? "b"?)*;`,
		`s = ("a"* | "b"*){1,2};`,
		`s = "a"* "b"* "a"?;`,
		`s = s*;`,
		`s = s* | "a";`,
		`s = s+ | "a"?;`,
		`s = (s?)+ "b"?;`,
		`s = x* "a"; x = y?; y = x x | ();`,
		`s = (((("a"?)*)?)+)*;`,
		`s = (("a" s | ())* "b")?;`,
	}
}
