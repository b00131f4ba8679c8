package tests

import (
	"slices"
	"strings"
	"testing"

	"loop.example/fretwork/impl"
)

func TestGrammarsOfSchemasWithoutKids(t *testing.T) {
	for _, c := range []struct {
		schema impl.Schema
		want   string
	}{
		{nullSchema(), `"null"`},
		{flagSchema(), `"true" | "false"`},
		{numSchema(), `"0" | "-"? [1-9] [0-9]{0,6}`},
		{textSchema(0, 0), `"\22\22"`},
		{textSchema(0, 1), `"\22" [ -!#-[\5d-~]? "\22"`},
		{textSchema(1, 1), `"\22" [ -!#-[\5d-~]{1,1} "\22"`},
		{textSchema(0, 6), `"\22" [ -!#-[\5d-~]{0,6} "\22"`},
		{textSchema(2, 5), `"\22" [ -!#-[\5d-~]{2,5} "\22"`},
		{textSchema(6, 6), `"\22" [ -!#-[\5d-~]{6,6} "\22"`},
		{formSchema(""), `"{}"`},
		{oneSchema(""), `"\22\22"`},
		{oneSchema("a"), `"\22a\22"`},
		{oneSchema("no", "yes"), `"\22no\22" | "\22yes\22"`},
		{oneSchema("b", "", "ab", "a"), `"\22b\22" | "\22\22" | "\22ab\22" | "\22a\22"`},
		{oneSchema("12345678", "[{-^]}:,"), `"\2212345678\22" | "\22[{-^]}:,\22"`},
	} {
		hasSchemaGram(t, c.schema, "root = "+c.want+";\n")
	}
}

func TestGrammarsOfLists(t *testing.T) {
	for _, c := range []struct {
		least, most int
		want        string
	}{
		{0, 0, `"[]"`},
		{0, 1, `"[" aa? "]"`},
		{1, 1, `"[" aa "]"`},
		{0, 2, `"[" (aa ("," aa)?)? "]"`},
		{1, 2, `"[" aa ("," aa)? "]"`},
		{2, 2, `"[" aa ("," aa){1,1} "]"`},
		{0, 3, `"[" (aa ("," aa){0,2})? "]"`},
		{1, 3, `"[" aa ("," aa){0,2} "]"`},
		{2, 3, `"[" aa ("," aa){1,2} "]"`},
		{3, 3, `"[" aa ("," aa){2,2} "]"`},
		{0, 6, `"[" (aa ("," aa){0,5})? "]"`},
		{1, 6, `"[" aa ("," aa){0,5} "]"`},
		{2, 6, `"[" aa ("," aa){1,5} "]"`},
		{6, 6, `"[" aa ("," aa){5,5} "]"`},
	} {
		hasSchemaGram(t, listSchema(c.least, c.most, nullSchema()), "root = "+c.want+";\naa = \"null\";\n")
	}
}

func TestGrammarsOfObjects(t *testing.T) {
	null, flag, one := nullSchema(), flagSchema(), oneSchema("x")
	kids := "aa = \"null\";\nab = \"true\" | \"false\";\n"
	three := kids + "ac = \"\\22x\\22\";\n"
	for _, c := range []struct {
		schema impl.Schema
		want   string
	}{
		{formSchema("a", null), `root = "{" ab "}";` + "\naa = \"null\";\n" + `ab = "\22a\22:" aa;` + "\n"},
		{formSchema("a?", null), `root = "{" ab "}";` + "\naa = \"null\";\n" + `ab = "\22a\22:" aa | ();` + "\n"},
		{formSchema("b a", null, flag), `root = "{" ae "}";` + "\n" + kids + `ac = "\22a\22:" ab;` + "\n" + `ad = ",\22a\22:" ab;` + "\n" + `ae = "\22b\22:" aa ad;` + "\n"},
		{formSchema("a b?", null, flag), `root = "{" ae "}";` + "\n" + kids + `ac = "\22b\22:" ab | ();` + "\n" + `ad = ",\22b\22:" ab | ();` + "\n" + `ae = "\22a\22:" aa ad;` + "\n"},
		{formSchema("a? b", null, flag), `root = "{" ae "}";` + "\n" + kids + `ac = "\22b\22:" ab;` + "\n" + `ad = ",\22b\22:" ab;` + "\n" + `ae = "\22a\22:" aa ad | ac;` + "\n"},
		{formSchema("a? b?", null, flag), `root = "{" ae "}";` + "\n" + kids + `ac = "\22b\22:" ab | ();` + "\n" + `ad = ",\22b\22:" ab | ();` + "\n" + `ae = "\22a\22:" aa ad | ac;` + "\n"},
		{formSchema("a? b? c?", null, flag, one), `root = "{" ah "}";` + "\n" + three + `ad = "\22c\22:" ac | ();` + "\n" + `ae = ",\22c\22:" ac | ();` + "\n" + `af = "\22b\22:" ab ae | ad;` + "\n" + `ag = ",\22b\22:" ab ae | ae;` + "\n" + `ah = "\22a\22:" aa ag | af;` + "\n"},
		{formSchema("a? b c?", null, flag, one), `root = "{" ah "}";` + "\n" + three + `ad = "\22c\22:" ac | ();` + "\n" + `ae = ",\22c\22:" ac | ();` + "\n" + `af = "\22b\22:" ab ae;` + "\n" + `ag = ",\22b\22:" ab ae;` + "\n" + `ah = "\22a\22:" aa ag | af;` + "\n"},
		{formSchema("a b? abcdefgh", null, flag, one), `root = "{" ah "}";` + "\n" + three + `ad = "\22abcdefgh\22:" ac;` + "\n" + `ae = ",\22abcdefgh\22:" ac;` + "\n" + `af = "\22b\22:" ab ae | ad;` + "\n" + `ag = ",\22b\22:" ab ae | ae;` + "\n" + `ah = "\22a\22:" aa ag;` + "\n"},
	} {
		hasSchemaGram(t, c.schema, c.want)
	}
}

// The rules of a kid come before its own, and those of its members before that of the object.
func TestRulesOfKidsComeFirst(t *testing.T) {
	hasSchemaGram(t, anySchema(numSchema(), nullSchema()), "root = aa | ab;\naa = \"0\" | \"-\"? [1-9] [0-9]{0,6};\nab = \"null\";\n")
	hasSchemaGram(t, anySchema(nullSchema(), nullSchema()), "root = aa | ab;\naa = \"null\";\nab = \"null\";\n")
	hasSchemaGram(t, listSchema(0, 1, listSchema(0, 0, listSchema(1, 1, nullSchema()))), "root = \"[\" ac? \"]\";\naa = \"null\";\nab = \"[\" aa \"]\";\nac = \"[]\";\n")
	hasSchemaGram(t, anySchema(listSchema(0, 1, nullSchema()), oneSchema("x"), anySchema(flagSchema(), formSchema(""))), "root = ab | ac | af;\naa = \"null\";\nab = \"[\" aa? \"]\";\nac = \"\\22x\\22\";\nad = \"true\" | \"false\";\nae = \"{}\";\naf = ad | ae;\n")
	hasSchemaGram(t, anySchema(formSchema("a b?", nullSchema(), flagSchema()), textSchema(0, 0)), "root = af | ag;\naa = \"null\";\nab = \"true\" | \"false\";\nac = \"\\22b\\22:\" ab | ();\nad = \",\\22b\\22:\" ab | ();\nae = \"\\22a\\22:\" aa ad;\naf = \"{\" ae \"}\";\nag = \"\\22\\22\";\n")
	hasSchemaGram(t, formSchema("a b", formSchema("c", nullSchema()), flagSchema()), "root = \"{\" ag \"}\";\naa = \"null\";\nab = \"\\22c\\22:\" aa;\nac = \"{\" ab \"}\";\nad = \"true\" | \"false\";\nae = \"\\22b\\22:\" ad;\naf = \",\\22b\\22:\" ad;\nag = \"\\22a\\22:\" ac af;\n")
}

// The expressions are exactly those that are read from the text of the document's sentences.
func TestGrammarsAreAsTheDocumentSays(t *testing.T) {
	seen := map[bool]int{}
	for _, s := range append(namedSchemas(), mixedSchemas(8000)...) {
		want, isMeant := impl.GramRead(slowGram(s))
		got, ok := impl.SchemaGram(s)
		if ok != isMeant || !sameGram(got, want) {
			t.Fatalf("%s has the grammar\n%v, %s, not\n%v, %s", showSchema(s), ok, impl.GramWrite(got), isMeant, slowGram(s))
		}
		seen[ok]++
	}
	if seen[true] < 7000 || seen[false] < 3 {
		t.Errorf("%d grammars, and %d schemas without one", seen[true], seen[false])
	}
}

// Three objects of nine members together have one rule too many, if each of them has members.
func TestSchemasWithTooManyRules(t *testing.T) {
	members := func(count int, others ...impl.Schema) impl.Schema {
		kids := append(slices.Repeat([]impl.Schema{numSchema()}, count-len(others)), others...)
		return formSchema(manyNames(count), kids...)
	}
	for _, c := range []struct {
		schema impl.Schema
		rules  int
	}{
		{members(4, members(4)), 1 + 8 + 8 + 6},
		{members(4, members(3), members(1)), 1 + 8 + 8 + 5},
		{members(4, members(2), members(2), formSchema("")), 1 + 8 + 8 + 5},
		{members(4, members(4), formSchema("")), 1 + 8 + 8 + 6},
		{listSchema(0, 6, members(4, members(4))), 1 + 9 + 8 + 6},
		{members(4, listSchema(0, 6, members(4))), 1 + 9 + 8 + 6},
		{members(4, members(2), members(2), members(1)), 1 + 9 + 9 + 5},
		{members(4, members(4), members(1)), 25},
		{members(4, members(3), members(2)), 25},
		{members(4, members(1), members(4)), 25},
		{members(3, members(3), members(3)), 25},
		{members(4, members(2, members(3))), 25},
	} {
		if !impl.SchemaOk(c.schema) || strings.Count(slowGram(c.schema), "\n") != c.rules {
			t.Fatalf("%s has %d rules, not %d", showSchema(c.schema), strings.Count(slowGram(c.schema), "\n"), c.rules)
		}
		g, ok := impl.SchemaGram(c.schema)
		if c.rules <= impl.GramMaxRules {
			hasSchemaGram(t, c.schema, impl.GramWrite(readGram(t, slowGram(c.schema))))
			schemaCfg(t, c.schema)
		} else if ok || len(g.Rules) != 0 {
			t.Errorf("%s has the grammar %q, %v", showSchema(c.schema), impl.GramWrite(g), ok)
		}
		// What a value must be to satisfy the schema does not depend on that.
		if j := slowSome(c.schema); impl.SchemaFits(c.schema, j) != impl.JsonOk(j) {
			t.Errorf("%s fits %s: %v", showJson(j), showSchema(c.schema), !impl.JsonOk(j))
		}
	}
}

func TestP90GrammarsOfSchemasAreValid(t *testing.T) {
	for _, s := range gramSchemas(3000) {
		g := schemaGram(t, s)
		if !impl.GramOk(g) || len(g.Rules) == 0 || g.Rules[0].Name != "root" {
			t.Fatalf("%s has the grammar %v", showSchema(s), g)
		}
		for i, rule := range g.Rules[1:] {
			if rule.Name != "a"+string(rune('a'+i)) {
				t.Fatalf("rule %d of the grammar of %s is %s", i+1, showSchema(s), rule.Name)
			}
		}
		c := schemaCfg(t, s)
		if isSentence(c, "") || impl.CfgLeast(c)[0] < 1 {
			t.Fatalf("the shortest sentence of %s has %d bytes", showSchema(s), impl.CfgLeast(c)[0])
		}
	}
}

// A schema whose values are all too long for a chart has a grammar too.
func TestP90GrammarsOfGreatValues(t *testing.T) {
	s := listSchema(6, 6, listSchema(6, 6, listSchema(6, 6, textSchema(6, 6))))
	c := schemaCfg(t, s)
	if least := impl.CfgLeast(c)[0]; least != 6*(6*(6*8+5+2)+5+2)+5+2 {
		t.Errorf("the shortest sentence has %d bytes", least)
	}
	if got := impl.MaskJump(c, ""); got != `[[["` {
		t.Errorf("%q is forced", got)
	}
	finishesNot(t, c, `[[["`)
}

func TestP87SentencesAreTheTextsOfValues(t *testing.T) {
	below := numbers()
	seen := map[bool]int{}
	for _, s := range gramSchemas(1500) {
		c := schemaCfg(t, s)
		for _, j := range varied(s, 8, below) {
			text := meantText(j)
			if len(text) > impl.ChartMax {
				continue
			}
			want := impl.SchemaFits(s, j)
			if got := isSentence(c, text); got != want {
				t.Fatalf("%q is a sentence of %s: %v; it satisfies it: %v", text, showSchema(s), got, want)
			}
			seen[want]++
		}
	}
	hasSeen(t, seen, 3000)
}

// No value of any kind is a sentence of a schema that it does not satisfy.
func TestP87ValuesOfAllKinds(t *testing.T) {
	seen := map[bool]int{}
	values := append(leafJsons(), mixedJsons(150)...)
	for _, s := range gramSchemas(150) {
		c := schemaCfg(t, s)
		for _, j := range values {
			if impl.JsonOk(j) {
				seen[isReadAsParsed(t, s, c, meantText(j))]++
			}
		}
	}
	hasSeen(t, seen, 1000)
}

// schemaTexts returns the texts of at most most bytes of the values that satisfy a schema, by what schemas mean and without a grammar.
func schemaTexts(s impl.Schema, most int) []string {
	var kids [][]string
	for _, kid := range s.Kids {
		// Of a kid that no list may contain, there can be too many texts.
		if s.Kind == 5 && s.Max == 0 {
			break
		}
		kids = append(kids, schemaTexts(kid, most))
	}
	out := []string{}
	switch s.Kind {
	case 1:
		out = []string{"null"}
	case 2:
		out = []string{"true", "false"}
	case 3:
		out = numberTexts(most)
	case 4:
		out = quotedTexts(s.Min, s.Max, most)
	case 5:
		for size := s.Min; size <= s.Max; size++ {
			out = append(out, listTexts(slices.Repeat(kids, size), most)...)
		}
	case 6:
		out = formTexts(s, kids, most)
	case 7:
		out = slices.Concat(kids...)
	case 8:
		for _, text := range s.Names {
			out = append(out, `"`+text+`"`)
		}
	}
	return joined(out, []string{""}, most)
}

func numberTexts(most int) []string {
	out := []string{"0"}
	digits := classTexts([]int{'1'}, []int{'9'})
	for size := 1; size <= min(most, 7); size++ {
		out = append(out, joined([]string{"", "-"}, digits, most)...)
		digits = joined(digits, classTexts([]int{'0'}, []int{'9'}), most)
	}
	return out
}

func quotedTexts(least, most, length int) []string {
	var out []string
	texts := []string{`"`}
	for size := 0; size <= most; size++ {
		if size >= least {
			out = append(out, joined(texts, []string{`"`}, length)...)
		}
		texts = joined(texts, classTexts([]int{' ', '#', ']'}, []int{'!', '[', '~'}), length-1)
	}
	return out
}

// listTexts takes the texts of each element.
func listTexts(elements [][]string, most int) []string {
	texts := []string{"["}
	for i, element := range elements {
		if i > 0 {
			texts = joined(texts, []string{","}, most)
		}
		texts = joined(texts, element, most)
	}
	return joined(texts, []string{"]"}, most)
}

// formTexts takes each choice of members for itself.
func formTexts(s impl.Schema, kids [][]string, most int) []string {
	var out []string
	for choice := range 1 << len(kids) {
		texts, isAllowed, comma := []string{"{"}, true, ""
		for i, kid := range kids {
			if choice>>i&1 == 0 {
				isAllowed = isAllowed && !s.Must[i]
				continue
			}
			texts = joined(texts, joined([]string{comma + `"` + s.Names[i] + `":`}, kid, most), most)
			comma = ","
		}
		if isAllowed {
			out = append(out, joined(texts, []string{"}"}, most)...)
		}
	}
	return out
}

// All sentences up to a length are all texts of values that satisfy the schema, as long as they are not too many to be listed.
func TestP87AllShortSentencesAreMeant(t *testing.T) {
	listed, none := 0, 0
	for _, s := range gramSchemas(600) {
		c := schemaCfg(t, s)
		for most := 1; most <= 20; most++ {
			got, ok := impl.CfgSents(c, most)
			if !ok {
				break
			}
			if want := schemaTexts(s, most); !slices.Equal(got, want) {
				t.Fatalf("the sentences of %s up to %d bytes are %q, not %q", showSchema(s), most, got, want)
			}
			listed += len(got)
			none += max(1-len(got), 0)
		}
	}
	if listed < 20000 || none < 1000 {
		t.Errorf("only %d sentences; %d times none", listed, none)
	}
}

// The sentences of schemas with few values, all of them.
func TestP87AllSentencesOfSmallSchemas(t *testing.T) {
	null, flag, one := nullSchema(), flagSchema(), oneSchema("", "a")
	for _, c := range []struct {
		schema impl.Schema
		want   []string
	}{
		{null, []string{`null`}},
		{flag, []string{`false`, `true`}},
		{one, []string{`""`, `"a"`}},
		{textSchema(0, 0), []string{`""`}},
		{formSchema(""), []string{`{}`}},
		{listSchema(0, 0, flag), []string{`[]`}},
		{listSchema(0, 1, flag), []string{`[]`, `[false]`, `[true]`}},
		{listSchema(1, 1, flag), []string{`[false]`, `[true]`}},
		{listSchema(0, 2, null), []string{`[]`, `[null,null]`, `[null]`}},
		{listSchema(1, 2, null), []string{`[null,null]`, `[null]`}},
		{listSchema(2, 2, null), []string{`[null,null]`}},
		{listSchema(2, 3, one), []string{`["","",""]`, `["","","a"]`, `["","a",""]`, `["","a","a"]`, `["",""]`, `["","a"]`, `["a","",""]`, `["a","","a"]`, `["a","a",""]`, `["a","a","a"]`, `["a",""]`, `["a","a"]`}},
		{listSchema(6, 6, listSchema(0, 0, null)), []string{`[[],[],[],[],[],[]]`}},
		{formSchema("a", null), []string{`{"a":null}`}},
		{formSchema("a?", flag), []string{`{"a":false}`, `{"a":true}`, `{}`}},
		{formSchema("b? a?", one, oneSchema("")), []string{`{"a":""}`, `{"b":"","a":""}`, `{"b":""}`, `{"b":"a","a":""}`, `{"b":"a"}`, `{}`}},
		{formSchema("b? a", one, oneSchema("")), []string{`{"a":""}`, `{"b":"","a":""}`, `{"b":"a","a":""}`}},
		{formSchema("b a?", one, oneSchema("")), []string{`{"b":"","a":""}`, `{"b":""}`, `{"b":"a","a":""}`, `{"b":"a"}`}},
		{formSchema("b a", one, oneSchema("")), []string{`{"b":"","a":""}`, `{"b":"a","a":""}`}},
		{anySchema(null, flag, one), []string{`""`, `"a"`, `false`, `null`, `true`}},
		{anySchema(null, null), []string{`null`}},
		{anySchema(anySchema(null, flag), listSchema(0, 1, null)), []string{`[]`, `[null]`, `false`, `null`, `true`}},
	} {
		want := sortedTexts(c.want)
		hasSents(t, schemaCfg(t, c.schema), 20, want)
		if got := schemaTexts(c.schema, 20); !slices.Equal(got, want) {
			t.Errorf("%s means %q, not %q", showSchema(c.schema), got, want)
		}
		takes(t, c.schema, want...)
	}
}

// Each prefix of the text of a value has a completion, since the rest of the text is one.
func TestP88PrefixesAreCompletedToValues(t *testing.T) {
	count := 0
	eachFitting(t, gramSchemas(150), 3, func(s impl.Schema, c impl.Cfg, j impl.Json) {
		text := meantText(j)
		if len(text) > impl.ChartMax {
			return
		}
		for end := range len(text) + 1 {
			prefix := text[:end]
			if rest := hasFinish(t, c, prefix); !isRead(s, prefix+rest) {
				t.Fatalf("%q is completed to %q, which does not satisfy %s", prefix, prefix+rest, showSchema(s))
			}
			count++
		}
	})
	if count < 5000 {
		t.Errorf("only %d prefixes", count)
	}
}

// Bytes that are permitted one after the other, any of them, lead to the text of a value.
func TestP88PermittedBytesLeadToValues(t *testing.T) {
	below := numbers()
	count := 0
	for _, s := range gramSchemas(200) {
		c := schemaCfg(t, s)
		ch := impl.ChartStart(c)
		text := ""
		for range 60 {
			next := nextTexts(c, ch)
			if len(next) == 0 {
				break
			}
			one := next[below(len(next))]
			text += one
			ch, _ = impl.ChartStep(c, ch, int(one[0]))
			rest, ok := impl.MaskFinish(c, text)
			if ok && !isRead(s, text+rest) {
				t.Fatalf("%q is completed to %q, which does not satisfy %s", text, text+rest, showSchema(s))
			}
			if ok {
				count++
			}
		}
		if impl.ChartEnds(c, ch) != isRead(s, text) {
			t.Fatalf("%q is a sentence of %s: %v", text, showSchema(s), impl.ChartEnds(c, ch))
		}
	}
	if count < 3000 {
		t.Errorf("only %d prefixes", count)
	}
}

// changedTexts returns a text with each byte in turn replaced by each of the given ones, left out, and with one ahead of it.
func changedTexts(text, others string) []string {
	var out []string
	for i := range len(text) {
		out = append(out, text[:i]+text[i+1:])
		for k := range len(others) {
			out = append(out, text[:i]+others[k:k+1]+text[i+1:], text[:i]+others[k:k+1]+text[i:])
		}
	}
	return out
}

func TestP95ChangedTextsAreSentencesIfTheyAreRead(t *testing.T) {
	seen := map[bool]int{}
	others := "[]{}\",:-0159aby \\\n\x00\x7f\x80~!#null"
	eachFitting(t, gramSchemas(60), 1, func(s impl.Schema, c impl.Cfg, j impl.Json) {
		text := meantText(j)
		if len(text) > 40 {
			return
		}
		for _, changed := range changedTexts(text, others) {
			seen[isReadAsParsed(t, s, c, changed)]++
		}
	})
	hasSeen(t, seen, 1500)
}

// All bytes, in texts that have everything that a text of a value can have.
func TestP95EachByteInEachPlace(t *testing.T) {
	var all []byte
	for b := range 256 {
		all = append(all, byte(b))
	}
	s := formSchema("a? b c?", numSchema(), listSchema(0, 3, anySchema(textSchema(0, 2), flagSchema(), nullSchema())), oneSchema("x", "y"))
	c := schemaCfg(t, s)
	seen := map[bool]int{}
	for _, text := range []string{`{"b":[]}`, `{"a":10,"b":["a",""]}`, `{"b":[true,"!~"],"c":"x"}`, `{"a":-7,"b":[null]}`} {
		if !isReadAsParsed(t, s, c, text) {
			t.Errorf("%q does not satisfy %s", text, showSchema(s))
		}
		for _, changed := range changedTexts(text, string(all)) {
			seen[isReadAsParsed(t, s, c, changed)]++
		}
	}
	hasSeen(t, seen, 500)
}
