package tests

import (
	"slices"
	"strings"
	"testing"

	"loop.example/fretwork/impl"
)

func TestAlternativesAndSequencesAreSpread(t *testing.T) {
	a, b, s := quotedPart("a"), quotedPart("b"), namePart("s")
	for _, c := range []struct {
		text string
		want impl.Part
	}{
		{`"a"`, a},
		{`("a")`, a},
		{`"a""b"s`, seqPart(a, b, s)},
		{`"a"("b"s)`, seqPart(a, b, s)},
		{`("a" "b") s`, seqPart(a, b, s)},
		{`("a" ("b" (s)))`, seqPart(a, b, s)},
		{`("a" "b")`, seqPart(a, b)},
		{`"a"|"b"|s`, altPart(a, b, s)},
		{`"a"|("b"|s)`, altPart(a, b, s)},
		{`("a"|"b")|s`, altPart(a, b, s)},
		{`("a"|("b"|(s)))`, altPart(a, b, s)},
		{`("a"|"b")`, altPart(a, b)},
		{`("a"|"b")("a"|s)`, seqPart(altPart(a, b), altPart(a, s))},
		{`("a" "b")|("a" s)`, altPart(seqPart(a, b), seqPart(a, s))},
		{`"a" "b"|s`, altPart(seqPart(a, b), s)},
		{`"a" ("b"|s)`, seqPart(a, altPart(b, s))},
		{``, seqPart()},
		{`()`, seqPart()},
		{`(())`, seqPart()},
		{`() () ()`, seqPart()},
		{`() "a"`, a},
		{`"a" () "b"`, seqPart(a, b)},
		{`("a") ()`, a},
		{`|`, altPart(seqPart(), seqPart())},
		{`||`, altPart(seqPart(), seqPart(), seqPart())},
		{`(|)`, altPart(seqPart(), seqPart())},
		{`"a"|`, altPart(a, seqPart())},
		{`|"a"`, altPart(seqPart(), a)},
		{`"a"||"b"`, altPart(a, seqPart(), b)},
		{`(|"a")"b"`, seqPart(altPart(seqPart(), a), b)},
		{`("a"|"b")()`, altPart(a, b)},
		{`("a"|"b")()|s`, altPart(a, b, s)},
	} {
		reads(t, "s="+c.text+";", gramOf(c.want))
	}
}

func TestRepeatedRepetitions(t *testing.T) {
	a, b := quotedPart("a"), quotedPart("b")
	for _, c := range []struct {
		text string
		want impl.Part
	}{
		{`"a"**`, manyPart(manyPart(a, 0, -1), 0, -1)},
		{`"a"*+?`, manyPart(manyPart(manyPart(a, 0, -1), 1, -1), 0, 1)},
		{`"a"{0,1}{1,}{0,}`, manyPart(manyPart(manyPart(a, 0, 1), 1, -1), 0, -1)},
		{`"a"{1,1}{6,6}{6,}`, manyPart(manyPart(manyPart(a, 1, 1), 6, 6), 6, -1)},
		{`("a"*)*`, manyPart(manyPart(a, 0, -1), 0, -1)},
		{`(("a"){2,3})?`, manyPart(manyPart(a, 2, 3), 0, 1)},
		{`("a""b")*?`, manyPart(manyPart(seqPart(a, b), 0, -1), 0, 1)},
		{`("a"|"b")+*`, manyPart(manyPart(altPart(a, b), 1, -1), 0, -1)},
		{`()?+`, manyPart(manyPart(seqPart(), 0, 1), 1, -1)},
		{`(())*`, manyPart(seqPart(), 0, -1)},
		{`"a""b"*`, seqPart(a, manyPart(b, 0, -1))},
		{`"a"*"b"`, seqPart(manyPart(a, 0, -1), b)},
		{`"a"|"b"*`, altPart(a, manyPart(b, 0, -1))},
		{`[a]*s+`, seqPart(manyPart(classPart('a', 'a'), 0, -1), manyPart(namePart("s"), 1, -1))},
		{`"a"` + strings.Repeat("{2,3}", impl.GramMaxDeep-1), repeated(impl.GramMaxDeep - 1)},
	} {
		reads(t, "s="+c.text+";", gramOf(c.want))
	}
	for _, text := range []string{
		"s=*;", "s=|*;", "s=(*);", `s="a"|+;`, `s="a" *;`, "s=\"a\"\n*;", `s="a"* ?;`, `s="a"{};`, `s="a"{,};`, `s="a"{1};`, `s="a"{,1};`,
		`s="a"{1,2;`, `s="a"{1,`, `s="a"{1`, `s="a"{`, `s="a"{1 ,2};`, `s="a"{1, 2};`, `s="a"{ 1,2};`, `s="a"{1,2 };`, `s="a"{01,2};`, `s="a"{1,02};`,
		`s="a"{a,};`, `s="a"{1,a};`, `s="a"{-1,2};`, `s="a"{1,-1};`, `s="a"{0,0};`, `s="a"{0,7};`, `s="a"{7,};`, `s="a"{7,7};`, `s="a"{9,9};`, `s="a"{3,2};`,
		`s="a"{0,0}*;`, `s="a"*{0,0};`, `s="a"{1,10};`,
		`s="a"` + strings.Repeat("*", impl.GramMaxDeep) + ";",
		`s="a"` + strings.Repeat("*", 3000) + ";",
		`s=("a"` + strings.Repeat("*", 7) + `)?;`,
	} {
		readsNot(t, text)
	}
}

func TestNestedParentheses(t *testing.T) {
	wrapped := func(deep int, text string) string {
		return "s=" + strings.Repeat("(", deep) + text + strings.Repeat(")", deep) + ";"
	}
	a := quotedPart("a")
	for deep := range impl.GramMaxDeep {
		reads(t, wrapped(deep, `"a"`), gramOf(a))
		reads(t, wrapped(deep, `"a"|s`), gramOf(altPart(a, namePart("s"))))
		// The innermost of these does not count, having nothing in it.
		reads(t, wrapped(deep, `()`), gramOf(seqPart()))
		reads(t, wrapped(deep, ` ( ) `), gramOf(seqPart()))
		reads(t, wrapped(deep, "(\n)*"), gramOf(manyPart(seqPart(), 0, -1)))
	}
	for _, deep := range []int{8, 9, 50, 1990} {
		readsNot(t, wrapped(deep, `"a"`))
		readsNot(t, wrapped(deep, `()`))
		readsNot(t, wrapped(deep, `|`))
		readsNot(t, wrapped(deep, ` s `))
	}
	// One behind the other, they are not nested.
	inner := strings.Repeat("(", 7) + `"a"` + strings.Repeat(")", 7)
	reads(t, "s="+strings.Repeat(inner, 9)+";", gramOf(seqPart(slices.Repeat([]impl.Part{a}, 9)...)))
	reads(t, "s="+inner+"|"+inner+";x="+inner+";", gramOf(altPart(a, a), a))
	readsNot(t, "s=("+inner+");")
	readsNot(t, "s="+inner+"("+inner+");")
	for _, text := range []string{`s=(;`, `s=);`, `s=("a";`, `s="a");`, `s=("a"));`, `s=(("a");`, `s=)(;`, `s=(;);`, `(s)="a";`, `s=(`, `s=("a"`, `s=( `} {
		readsNot(t, text)
	}
}

func TestBytesAreReadAsWritten(t *testing.T) {
	for b := range 256 {
		raw := string([]byte{byte(b)})
		texts, classes := shown(b, `\"`), shown(b, `\-]^`)
		for _, form := range []string{raw, escaped(b), strings.ToUpper(escaped(b))} {
			// A quotation mark ends a text.
			if form == texts {
				reads(t, `s="x`+form+`";`, gramOf(quotedPart("x"+raw)))
			} else {
				readsNot(t, `s="x`+form+`";`)
			}
			if form == classes {
				reads(t, `s=[`+form+`];`, gramOf(classPart(b, b)))
				reads(t, `s=[`+form+`-`+form+`];`, gramOf(classPart(b, b)))
			} else if form != "^" {
				readsNot(t, `s=[`+form+`];`)
			}
			if form != classes {
				readsNot(t, `s=[\00`+form+`];`)
				readsNot(t, `s=[\00-`+form+`];`)
				readsNot(t, `s=[^`+form+`];`)
			}
		}
	}
	for _, text := range []string{
		`s="";`, `s=" ;`, `s="`, `s="a`, `s="\`, `s="\0`, `s="\00`, `s="\";`, `s="\0";`, `s="\0g";`, `s="\g0";`, `s="\n";`, `s="\x00";`, `s="\\";`, `s="\"";`, "s=\"\n\";",
		`s="\000" "`, `s='a';`, `s="a'b;`,
		`s="` + strings.Repeat("a", 21) + `";`, `s="` + strings.Repeat(`\00`, 21) + `";`,
	} {
		readsNot(t, text)
	}
	reads(t, `s="`+strings.Repeat(`\00`, 20)+`";`, gramOf(quotedPart(strings.Repeat("\x00", 20))))
	reads(t, `s="\000";`, gramOf(quotedPart("\x000")))
	reads(t, `s=" ; | = ( ";`, gramOf(quotedPart(" ; | = ( ")))
}

func TestClassesAreRead(t *testing.T) {
	for _, c := range []struct {
		text string
		want impl.Part
	}{
		{`[a]`, classPart('a', 'a')},
		{`[a-a]`, classPart('a', 'a')},
		{`[aaa]`, classPart('a', 'a')},
		{`[ab]`, classPart('a', 'b')},
		{`[ba]`, classPart('a', 'b')},
		{`[c-da-b]`, classPart('a', 'd')},
		{`[a-db-c]`, classPart('a', 'd')},
		{`[b-da-c]`, classPart('a', 'd')},
		{`[za-b]`, classPart('a', 'b', 'z', 'z')},
		{`[ac]`, classPart('a', 'a', 'c', 'c')},
		{`[\2d]`, classPart('-', '-')},
		{`[+-\2d]`, classPart('+', '-')},
		{`[\2d-/]`, classPart('-', '/')},
		{`[\5c-\5e]`, classPart('\\', '^')},
		{`["]`, classPart('"', '"')},
		{`[ ]`, classPart(' ', ' ')},
		{`[ - ]`, classPart(' ', ' ')},
		{`[;|()=[]`, classPart('(', ')', ';', ';', '=', '=', '[', '[', '|', '|')},
		{`[\ff\00]`, classPart(0, 0, 255, 255)},
		{`[\00-\ff]`, classPart(0, 255)},
	} {
		reads(t, "s="+c.text+";", gramOf(c.want))
	}
	for _, text := range []string{`s=[];`, `s=[`, `s=[a`, `s=[a-`, `s=[a-b`, `s=[^`, `s=[^a`, `s=];`, `s=[b-a];`, `s=[a-];`, `s=[-a];`, `s=[-];`, `s=[a--b];`, `s=[a-b-c];`, `s=[a-b-\7f];`, `s=[^-a];`, `s=[a^];`, `s=[^^];`, `s=[a]];`, `s=[^b-a];`, "s=[\n];", "s=[a\n];"} {
		readsNot(t, text)
	}
}

func TestMalformedGrammars(t *testing.T) {
	for _, text := range []string{
		"", " ", "\n", ";", "=", "s", "s=", `s="a"`, `="a";`, `s "a";`, `s=="a";`, `s="a";;`, `s="a";x`, `s="a";x=`, `s="a"x="b";`, `s:="a";`,
		`S="a";`, `sX="a";`, `s1="a";`, `s s="a";`, `"s"="a";`, `abcdefghi="a";`, `abcdefgh i="a";`, `s=abcdefghi;abcdefgh="a";i="b";`,
		`s=a;`, `s=A;`, `s=sx;x="a";`, `s=x;y="a";`, `s="a";s="b";`, `s="a";x="b";s="c";`,
		`s=1;`, `s="a"&;`, `s="a",;`, `s="a"}`, `s=};`, `s=/;`, `s=#;`, "s=\"a\";\x00", "\x00s=\"a\";", "\xffs=\"a\";", "s=\xe9;", "s=\"a\";é",
	} {
		readsNot(t, text)
	}
}

func TestLimitsOfReading(t *testing.T) {
	reads(t, impl.GramWrite(manyRules(impl.GramMaxRules)), manyRules(impl.GramMaxRules))
	reads(t, `s=`+strings.Repeat(`"a"`, impl.GramMaxParts-2)+`;x="b";`, crowd(impl.GramMaxParts))
	readsNot(t, `s=`+strings.Repeat(`"a"`, impl.GramMaxParts-1)+`;x="b";`)
	reads(t, `abcdefgh=abcdefgh;`, impl.Gram{Rules: []impl.Rule{{Name: "abcdefgh", Part: namePart("abcdefgh")}}})
	var rules string
	for _, rule := range manyRules(impl.GramMaxRules + 1).Rules {
		rules += rule.Name + "=();"
	}
	readsNot(t, rules)
	for size := impl.GramMaxText - 3; size <= impl.GramMaxText; size++ {
		reads(t, `s="a";`+strings.Repeat(" ", size-6), gramOf(quotedPart("a")))
	}
	readsNot(t, `s="a";`+strings.Repeat(" ", impl.GramMaxText-5))
	readsNot(t, strings.Repeat("\n", 1000000)+`s="a";`)
	// A grammar that can be read need not be one that can be written: blanks are added.
	g, ok := impl.GramRead(`s=` + strings.Repeat(`"`+strings.Repeat(`\00`, 20)+`"`, 64) + `;`)
	if !ok || !impl.GramOk(g) || impl.GramWrite(g) != "" {
		t.Errorf("%v, %q", ok, impl.GramWrite(g))
	}
}

// variants returns texts that differ from a text in one byte, or lack or add one.
func variants(text string) []string {
	var out []string
	for i := range len(text) {
		out = append(out, text[:i]+text[i+1:])
		for _, b := range "\"\\[]()|*{},;=- \ns1^" {
			out = append(out, text[:i]+string(b)+text[i:], text[:i]+string(b)+text[i+1:])
		}
	}
	return out
}

func TestP13WhatIsReadIsValid(t *testing.T) {
	texts := []string{
		"s=\"a\\22\"|[a-c]*(x|())+;\nx=[^\\00-@B-\\ff]{2,3};",
		"s = ((((((( x x ) x ) x ) x ) x ) x ) x | s );x=\"x\"?;",
		"s=\"ab\"{0,}{1,6}???[--];x=(x|(s|(x s)))(s|());",
		"s=()()()|(|)x*s;x=( )+;",
	}
	for _, text := range texts {
		for _, variant := range append(variants(text), text) {
			checkReading(t, variant)
		}
	}
	for _, inside := range textsOf(`"a(|)*s `, 5) {
		checkReading(t, "s="+inside+";")
	}
}

// checkReading checks that what is read is valid and is read back from its own text.
func checkReading(t *testing.T, text string) {
	t.Helper()
	g, ok := impl.GramRead(text)
	if !ok {
		if len(g.Rules) != 0 {
			t.Errorf("GramRead(%q) fails with %#v", text, g)
		}
		return
	}
	if !impl.GramOk(g) {
		t.Errorf("GramRead(%q) is %#v, which is not valid", text, g)
	}
	if own := impl.GramWrite(g); own == "" {
		t.Errorf("GramRead(%q) can't be written", text)
	} else {
		reads(t, own, g)
	}
}

func TestP14AppendedRulesAreReadLast(t *testing.T) {
	parts := []impl.Part{quotedPart("n"), classPart(0, 5), seqPart(), namePart("new"), altPart(namePart("new"), seqPart()), manyPart(quotedPart("\n"), 2, 4)}
	for _, g := range fewGrams() {
		text := impl.GramWrite(g)
		for _, p := range append(parts, namePart(g.Rules[0].Name)) {
			longer := copyGram(g)
			longer.Rules = append(longer.Rules, impl.Rule{Name: "new", Part: p})
			rule := strings.Split(impl.GramWrite(impl.Gram{Rules: []impl.Rule{{Name: "new", Part: p}, {Name: g.Rules[0].Name, Part: quotedPart("a")}}}), "\n")[0]
			got, ok := impl.GramRead(text + rule)
			if want := impl.GramOk(longer) && len(text+rule) <= impl.GramMaxText; ok != want {
				t.Fatalf("%q and %q: %v", text, rule, ok)
			}
			if ok && !sameGram(got, longer) {
				t.Fatalf("%q and %q: %#v", text, rule, got)
			}
		}
	}
	readsNot(t, `s="a";`+`s="b";`)
	readsNot(t, `s="a";`+`x=y;`)
	readsNot(t, impl.GramWrite(manyRules(impl.GramMaxRules))+`x="b";`)
	readsNot(t, impl.GramWrite(crowd(impl.GramMaxParts))+`y="b";`)
}

// uses reports whether an expression has that name in it.
func uses(p impl.Part, name string) bool {
	return p.Kind == impl.PartName && p.Text == name || slices.ContainsFunc(p.Kids, func(kid impl.Part) bool { return uses(kid, name) })
}

func TestP15TheLastRuleCanBeRemovedIfUnused(t *testing.T) {
	grams := []impl.Gram{gramOf(quotedPart("a"), namePart("x")), gramOf(quotedPart("a"), quotedPart("x"), altPart(namePart("y"), namePart("x")))}
	counts := [2]int{}
	for _, g := range append(grams, validGrams()...) {
		last := len(g.Rules) - 1
		if last == 0 {
			continue
		}
		used := slices.ContainsFunc(g.Rules[:last], func(r impl.Rule) bool { return uses(r.Part, g.Rules[last].Name) })
		less := impl.Gram{Rules: g.Rules[:last]}
		if impl.GramOk(less) == used {
			t.Fatalf("%#v is valid although a rule is missing, or not although none is: %v", less, used)
		}
		lines := strings.SplitAfter(impl.GramWrite(g), "\n")
		got, ok := impl.GramRead(strings.Join(lines[:last], ""))
		if ok == used || ok && !sameGram(got, less) {
			t.Fatalf("%q without the last line is %#v, %v", lines, got, ok)
		}
		if used {
			counts[0]++
		} else {
			counts[1]++
		}
	}
	if counts[0] < 100 || counts[1] < 100 {
		t.Errorf("only %v grammars where the last rule is used, and not", counts)
	}
}

func TestP16BlanksAndNewlinesDoNotMatter(t *testing.T) {
	gaps := []string{"", " ", "\n", "  \n\n \n"}
	for _, g := range fewGrams() {
		text := impl.GramWrite(g)
		for _, gap := range gaps {
			for _, other := range gaps {
				padded := gap + strings.ReplaceAll(text, " = ", " ="+other) + gap
				if len(padded) <= impl.GramMaxText {
					reads(t, padded, g)
				}
			}
		}
	}
	text := impl.GramWrite(gramOf(quotedPart("a")))
	reads(t, text+strings.Repeat(" ", impl.GramMaxText-len(text)), gramOf(quotedPart("a")))
	reads(t, strings.Repeat("\n", impl.GramMaxText-len(text))+text, gramOf(quotedPart("a")))
	readsNot(t, text+strings.Repeat(" ", impl.GramMaxText+1-len(text)))
}

// Blanks and newlines may be in more places than those, but not in all.
func TestPlacesOfBlanks(t *testing.T) {
	want := gramOf(altPart(seqPart(quotedPart("a"), namePart("x")), manyPart(altPart(quotedPart("b"), seqPart()), 2, 3)), classPart('c', 'd'))
	pieces := []string{``, `s`, `=`, `"a"`, `x`, `|`, `(`, `"b"`, `|`, `(`, `)`, `){2,3}`, `;`, `x`, `=`, `[c-d]`, `;`, ``}
	for _, gap := range []string{"", " ", "\n", " \n  \n"} {
		reads(t, strings.Join(pieces, gap), want)
	}
	for _, gap := range []string{"\t", "\r", "\v", "\f", "\x00", "\u00a0", " \t ", "\r\n"} {
		for i := range pieces {
			readsNot(t, strings.Join(pieces[:i+1], " ")+gap+strings.Join(pieces[i+1:], " "))
		}
	}
	for _, text := range []string{`s="a" {2,3};`, `s="a"{2 ,3};`, `s=x x;xx="a";`, `s=x;x x="a";`, `s="\0 a";`, "s=\"a\n\";", `s=x ?;x="a";`} {
		readsNot(t, text)
	}
}

func hasByte(p impl.Part, b int) bool {
	for i := range p.Low {
		if p.Low[i] <= b && b <= p.High[i] {
			return true
		}
	}
	return false
}

func TestP17NegatedClassesHaveTheOtherBytes(t *testing.T) {
	insides := []string{`a`, `ab`, `ac`, `c-da-b`, `b-da-c`, `\00`, `\ff`, `\00\ff`, `\01-\fe`, `\00-\7f`, `\80-\ff`, `\00-@B-\ff`, `\5e`, `\2d\5d`, `\00-\fe`, `\01-\ff`, `zyxa-a`, `\00-\7f\80-\fe`, ` -~`}
	for low := 0; low < 256; low += 5 {
		for high := low; high < 256; high += 3 {
			insides = append(insides, shown(low, `\-]^`)+"-"+shown(high, `\-]^`))
		}
	}
	for _, inside := range insides {
		g, ok := impl.GramRead("s=[" + inside + "];x=[^" + inside + "];")
		if strings.HasPrefix(inside, `\00-\ff`) {
			if ok {
				t.Errorf("[^%s] has bytes", inside)
			}
			continue
		}
		if !ok {
			t.Fatalf("[%s] or [^%s] is not read", inside, inside)
		}
		for b := range 256 {
			if hasByte(g.Rules[0].Part, b) == hasByte(g.Rules[1].Part, b) {
				t.Fatalf("byte %d is in both or none of [%s] and [^%s]", b, inside, inside)
			}
		}
	}
}

func TestP17EdgesOfNegation(t *testing.T) {
	for _, inside := range []string{`\00-\ff`, `\80-\ff\00-\7f`, `a\00-\feb\ff`, `\01-\ff\00`} {
		readsNot(t, "s=[^"+inside+"];")
		reads(t, "s=["+inside+"];", gramOf(classPart(0, 255)))
	}
	reads(t, `s=[^\00-@B-\ff];`, gramOf(classPart('A', 'A')))
	reads(t, `s=[^\5e];`, gramOf(classPart(0, 0x5d, 0x5f, 255)))
	reads(t, `s=[^\00];`, gramOf(classPart(1, 255)))
	reads(t, `s=[^\ff];`, gramOf(classPart(0, 254)))
	reads(t, `s=[^\01-\fe];`, gramOf(classPart(0, 0, 255, 255)))
	// No range at all: all bytes are in none of them.
	reads(t, `s=[^];`, gramOf(classPart(0, 255)))
	var evens string
	for b := 254; b >= 0; b -= 2 {
		evens += shown(b, `\-]^`)
	}
	odds := classPart()
	for b := 1; b < 256; b += 2 {
		odds.Low, odds.High = append(odds.Low, b), append(odds.High, b)
	}
	reads(t, "s=["+evens+"];", gramOf(everyOther()))
	reads(t, "s=[^"+evens+"];", gramOf(odds))
}
