package tests

import (
	"slices"
	"strings"
	"testing"

	"loop.example/fretwork/impl"
)

func quotedPart(text string) impl.Part {
	return impl.Part{Kind: impl.PartText, Text: text}
}

// classPart takes the low and the high byte of each range in turn.
func classPart(bounds ...int) impl.Part {
	p := impl.Part{Kind: impl.PartClass}
	for i := 0; i < len(bounds); i += 2 {
		p.Low = append(p.Low, bounds[i])
		p.High = append(p.High, bounds[i+1])
	}
	return p
}

func namePart(name string) impl.Part {
	return impl.Part{Kind: impl.PartName, Text: name}
}

func seqPart(kids ...impl.Part) impl.Part {
	return impl.Part{Kind: impl.PartSeq, Kids: kids}
}

func altPart(kids ...impl.Part) impl.Part {
	return impl.Part{Kind: impl.PartAlt, Kids: kids}
}

func manyPart(kid impl.Part, least, most int) impl.Part {
	return impl.Part{Kind: impl.PartMany, Kids: []impl.Part{kid}, Min: least, Max: most}
}

// gramOf names its rules s, x, y and z.
func gramOf(parts ...impl.Part) impl.Gram {
	var g impl.Gram
	for i, p := range parts {
		g.Rules = append(g.Rules, impl.Rule{Name: "sxyz"[i : i+1], Part: p})
	}
	return g
}

// nested returns an expression of the given depth.
func nested(depth int) impl.Part {
	p := quotedPart("a")
	for i := 1; i < depth; i++ {
		switch i % 3 {
		case 0:
			p = manyPart(p, 0, 1)
		case 1:
			p = altPart(p, quotedPart("b"))
		case 2:
			p = seqPart(quotedPart("c"), p)
		}
	}
	return p
}

// repeated returns a text in so many repetitions.
func repeated(times int) impl.Part {
	p := quotedPart("a")
	for range times {
		p = manyPart(p, 2, 3)
	}
	return p
}

// crowd returns a grammar of so many expressions, at least three, in two rules.
func crowd(parts int) impl.Gram {
	return gramOf(seqPart(slices.Repeat([]impl.Part{quotedPart("a")}, parts-2)...), quotedPart("b"))
}

// manyRules returns a grammar of so many rules, each of which uses the next one.
func manyRules(rules int) impl.Gram {
	var g impl.Gram
	for i := range rules {
		g.Rules = append(g.Rules, impl.Rule{Name: strings.Repeat("r", i/20+1) + string(rune('a'+i%20)), Part: quotedPart("a")})
		if i > 0 {
			g.Rules[i-1].Part = namePart(g.Rules[i].Name)
		}
	}
	return g
}

// sizedGram returns a grammar whose text has so many bytes, at least 1000.
func sizedGram(size int) impl.Gram {
	long := quotedPart(strings.Repeat("\x00", 20))
	size -= len("s =") + len(";\n")
	var kids []impl.Part
	for size > 100 {
		kids = append(kids, long)
		size -= len(" ") + 62
	}
	for size > 23 {
		kids = append(kids, quotedPart("ab"))
		size -= len(" ") + 4
	}
	kids = append(kids, quotedPart(strings.Repeat("a", size-len(" ")-2)))
	return gramOf(seqPart(kids...))
}

// smallParts returns expressions of all kinds, nested at most three deep, with every kind in every other one where it may be.
func smallParts() []impl.Part {
	leaves := []impl.Part{quotedPart("a"), quotedPart("\" \\\n\x00\xff]-^"), classPart('^', '^', 'a', 'b'), classPart(0, 255), namePart("s"), namePart("x"), seqPart()}
	twice := slices.Concat(leaves, combined(leaves))
	return slices.Concat(twice, combined(twice))
}

// combined returns repetitions, sequences and alternatives of the given expressions.
func combined(kids []impl.Part) []impl.Part {
	var out []impl.Part
	for i, kid := range kids {
		for _, t := range [][2]int{{0, -1}, {1, -1}, {0, 1}, {2, -1}, {6, 6}} {
			out = append(out, manyPart(kid, t[0], t[1]))
		}
		for j, other := range kids {
			if kid.Kind != impl.PartSeq && other.Kind != impl.PartSeq {
				out = append(out, seqPart(kid, other))
			}
			if kid.Kind != impl.PartAlt && other.Kind != impl.PartAlt {
				out = append(out, altPart(kid, other))
			}
			if i == j && kid.Kind != impl.PartSeq {
				out = append(out, seqPart(kid, quotedPart("b"), kid))
			}
		}
	}
	return out
}

// validGrams returns valid grammars whose texts are not too long.
func validGrams() []impl.Gram {
	grams := []impl.Gram{
		manyRules(impl.GramMaxRules),
		crowd(impl.GramMaxParts),
		gramOf(nested(impl.GramMaxDeep)),
		gramOf(repeated(impl.GramMaxDeep - 1)),
		sizedGram(impl.GramMaxText),
		{Rules: []impl.Rule{{Name: "abcdefgh", Part: namePart("abcdefgh")}}},
		{Rules: []impl.Rule{{Name: "z", Part: namePart("a")}, {Name: "a", Part: namePart("z")}}},
	}
	for _, p := range smallParts() {
		grams = append(grams, gramOf(p, quotedPart("x")))
	}
	return grams
}

// fewGrams returns every eleventh of the valid grammars, for tests that take longer on each.
func fewGrams() []impl.Gram {
	var grams []impl.Gram
	for i, g := range validGrams() {
		if i < 20 || i%11 == 0 {
			grams = append(grams, g)
		}
	}
	return grams
}

func sameGram(a, b impl.Gram) bool {
	return slices.EqualFunc(a.Rules, b.Rules, func(a, b impl.Rule) bool { return a.Name == b.Name && samePart(a.Part, b.Part) })
}

func samePart(a, b impl.Part) bool {
	return a.Kind == b.Kind && a.Text == b.Text && a.Min == b.Min && a.Max == b.Max &&
		slices.Equal(a.Low, b.Low) && slices.Equal(a.High, b.High) && slices.EqualFunc(a.Kids, b.Kids, samePart)
}

func copyGram(g impl.Gram) impl.Gram {
	var out impl.Gram
	for _, r := range g.Rules {
		out.Rules = append(out.Rules, impl.Rule{Name: r.Name, Part: copyPart(r.Part)})
	}
	return out
}

func copyPart(p impl.Part) impl.Part {
	p.Low, p.High = slices.Clone(p.Low), slices.Clone(p.High)
	var kids []impl.Part
	for _, kid := range p.Kids {
		kids = append(kids, copyPart(kid))
	}
	p.Kids = kids
	return p
}

// reads checks that GramRead of text is want.
func reads(t *testing.T, text string, want impl.Gram) {
	t.Helper()
	g, ok := impl.GramRead(text)
	if !ok {
		t.Errorf("GramRead(%q) fails", text)
	} else if !sameGram(g, want) {
		t.Errorf("GramRead(%q) is %#v, not %#v", text, g, want)
	}
}

// readsNot checks that GramRead of text fails, with a zero value.
func readsNot(t *testing.T, text string) {
	t.Helper()
	if g, ok := impl.GramRead(text); ok || len(g.Rules) != 0 {
		t.Errorf("GramRead(%q) is %#v, %v", text, g, ok)
	}
}
