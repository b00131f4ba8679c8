package tests

import (
	"slices"
	"strings"
	"testing"

	"loop.example/fretwork/impl"
)

func TestLeavesAsTextsAndValues(t *testing.T) {
	takes(t, nullSchema(), `null`)
	refuses(t, nullSchema(), ``, `nul`, `nulll`, `true`, `0`, `""`, `"null"`, `[]`, `{}`, `[null]`)
	takes(t, flagSchema(), `true`, `false`)
	refuses(t, flagSchema(), ``, `tru`, `truefalse`, `null`, `1`, `"true"`, `[true]`)
	takes(t, numSchema(), `0`, `1`, `9`, `-1`, `-9`, `10`, `90009`, `1234567`, `-1234567`, `9999999`)
	refuses(t, numSchema(), ``, `-`, `-0`, `00`, `01`, `-01`, `12345678`, `-12345678`, `+1`, `--1`, `1-`, `1.0`, `1e1`, `"1"`, `null`, `[1]`, ` 1`, `1 `)
	takes(t, textSchema(0, 0), `""`)
	refuses(t, textSchema(0, 0), ``, `"`, `"a"`, `" "`, `""""`, `null`)
	takes(t, textSchema(0, 2), `""`, `"a"`, `" "`, `"ab"`, `"[]"`, `"~!"`)
	refuses(t, textSchema(0, 2), `"abc"`, `"\"`, `"\n"`, `"""`, "\"\n\"", "\"\x7f\"", "\"\x80\"", `a`, `"a`, `a"`)
	takes(t, textSchema(6, 6), `"abcdef"`, `"      "`)
	refuses(t, textSchema(6, 6), `""`, `"abcde"`, `"abcdefg"`)
	takes(t, formSchema(""), `{}`)
	refuses(t, formSchema(""), ``, `{`, `}`, `{"a":null}`, `[]`, `{{}}`, `{ }`, `{,}`)
}

func TestCommasOfLists(t *testing.T) {
	null := nullSchema()
	takes(t, listSchema(0, 0, null), `[]`)
	refuses(t, listSchema(0, 0, null), `[null]`, `[,]`, `[`, `]`, `[null,null]`, `{}`, `null`, ``)
	takes(t, listSchema(0, 1, null), `[]`, `[null]`)
	refuses(t, listSchema(0, 1, null), `[null,]`, `[,null]`, `[,]`, `[null,null]`, `[null`, `null]`)
	takes(t, listSchema(1, 1, null), `[null]`)
	refuses(t, listSchema(1, 1, null), `[]`, `[null,]`, `[,null]`, `[null,null]`, `[nullnull]`)
	takes(t, listSchema(0, 2, null), `[]`, `[null]`, `[null,null]`)
	refuses(t, listSchema(0, 2, null), `[,]`, `[null,]`, `[,null]`, `[null,,null]`, `[nullnull]`, `[null,null,]`, `[null,null,null]`)
	takes(t, listSchema(1, 2, null), `[null]`, `[null,null]`)
	refuses(t, listSchema(1, 2, null), `[]`, `[null,null,null]`, `[null null]`)
	takes(t, listSchema(2, 2, null), `[null,null]`)
	refuses(t, listSchema(2, 2, null), `[]`, `[null]`, `[null,null,null]`, `[null,]`)
	takes(t, listSchema(3, 6, numSchema()), `[1,2,3]`, `[1,2,3,4]`, `[1,2,3,4,5]`, `[1,2,3,4,5,6]`)
	refuses(t, listSchema(3, 6, numSchema()), `[]`, `[1]`, `[1,2]`, `[123]`, `[1,2,3,4,5,6,7]`, `[1,2,3,]`, `[1,2,,3]`)
	takes(t, listSchema(0, 2, listSchema(0, 2, null)), `[]`, `[[]]`, `[[],[]]`, `[[null],[]]`, `[[],[null,null]]`)
	refuses(t, listSchema(0, 2, listSchema(0, 2, null)), `[null]`, `[[[]]]`, `[[],]`, `[[][]]`, `[[],[],[]]`, `[[null],null]`)
}

// Whichever member comes first, no comma is ahead of it, and one is ahead of each other member.
func TestCommasOfMembers(t *testing.T) {
	num := numSchema()
	all := formSchema("a? b? c?", num, num, num)
	takes(t, all, `{}`, `{"a":1}`, `{"b":1}`, `{"c":1}`, `{"a":1,"b":2}`, `{"a":1,"c":2}`, `{"b":1,"c":2}`, `{"a":1,"b":2,"c":3}`)
	refuses(t, all, ``, `{`, `{,}`, `{,"a":1}`, `{,"b":1}`, `{,"c":1}`, `{"a":1,}`, `{"b":1,}`, `{"c":1,}`, `{"a":1"b":2}`, `{"b":1"c":2}`, `{"a":1,,"c":2}`, `{"a":1,"b":2,}`, `{"b":1,"a":2}`, `{"c":1,"a":2}`, `{"c":1,"b":2}`, `{"a":1,"a":2}`, `{"d":1}`, `{"a":null}`, `{"a":1,"b":null}`, `{a:1}`, `{"a"1}`, `{"a":}`)
	last := formSchema("a? b? c", num, num, num)
	takes(t, last, `{"c":1}`, `{"a":1,"c":2}`, `{"b":1,"c":2}`, `{"a":1,"b":2,"c":3}`)
	refuses(t, last, `{}`, `{"a":1}`, `{"b":1}`, `{"a":1,"b":2}`, `{,"c":1}`, `{"c":1,}`, `{"a":1,}`)
	middle := formSchema("a? b c?", num, num, num)
	takes(t, middle, `{"b":1}`, `{"a":1,"b":2}`, `{"b":1,"c":2}`, `{"a":1,"b":2,"c":3}`)
	refuses(t, middle, `{}`, `{"a":1}`, `{"c":1}`, `{"a":1,"c":2}`, `{,"b":1}`, `{"b":1,}`)
	first := formSchema("a b? c?", num, num, num)
	takes(t, first, `{"a":1}`, `{"a":1,"b":2}`, `{"a":1,"c":2}`, `{"a":1,"b":2,"c":3}`)
	refuses(t, first, `{}`, `{"b":1}`, `{"c":1}`, `{"b":1,"c":2}`, `{,"a":1}`, `{"a":1,}`)
	none := formSchema("a b c", num, num, num)
	takes(t, none, `{"a":1,"b":2,"c":3}`)
	refuses(t, none, `{}`, `{"a":1}`, `{"a":1,"b":2}`, `{"b":1,"c":2}`, `{"a":1,"c":2}`, `{"c":1,"b":2,"a":3}`, `{"b":1,"a":2,"c":3}`, `{"a":1,"b":2,"c":3,"d":4}`, `{"a":1,"b":2,"c":3,"a":4}`)
	takes(t, formSchema("b a aa? ab?", num, num, num, num), `{"b":1,"a":2}`, `{"b":1,"a":2,"ab":3}`, `{"b":1,"a":2,"aa":3}`)
	refuses(t, formSchema("b a aa? ab?", num, num, num, num), `{"b":1,"aa":2}`, `{"a":1,"b":2}`, `{"b":1,"a":2,"aab":3}`, `{"b":1,"a":2,"ab":3,"aa":4}`)
}

func TestSchemasInOneAnother(t *testing.T) {
	s := formSchema("a? b", listSchema(0, 2, formSchema("x?", numSchema())), anySchema(nullSchema(), oneSchema("", "yes"), listSchema(1, 1, flagSchema())))
	takes(t, s, `{"b":null}`, `{"b":""}`, `{"b":"yes"}`, `{"b":[true]}`, `{"a":[],"b":null}`, `{"a":[{}],"b":null}`, `{"a":[{},{"x":-1}],"b":[false]}`)
	refuses(t, s, `{}`, `{"b":[]}`, `{"b":"no"}`, `{"b":true}`, `{"b":[true,false]}`, `{"a":[{}]}`, `{"a":{},"b":null}`, `{"a":[{"x":null}],"b":null}`, `{"a":[{},{},{}],"b":null}`, `{"a":[],"b":null,"x":1}`)
}

// Nothing is valid together with what is not.
func TestInvalidArgumentsOfSchemaFits(t *testing.T) {
	bad := []impl.Json{{}, {Kind: 7}, {Kind: impl.JsonNull, Flag: true}, {Kind: impl.JsonFlag, Text: "a"}, numJson(""), numJson("-0"), numJson("12345678"), textJson("\""), textJson("\\"), textJson(strings.Repeat("a", 21)), listJson(impl.Json{}), listJson(numJson("01")), formJson("a"), formJson("a a", numJson("1"), numJson("1")), formJson("A", numJson("1")), {Kind: impl.JsonList, Names: []string{"a"}}, crowdsOf(41)[0], wrapped("[[[[[", nullJson(), false)}
	for _, s := range namedSchemas() {
		for _, j := range bad {
			if impl.SchemaFits(s, j) {
				t.Errorf("%s, which is not valid, fits %s", showJson(j), showSchema(s))
			}
		}
	}
	// Without their one fault, these would satisfy the schema.
	for _, c := range []struct {
		schema impl.Schema
		value  impl.Json
	}{
		{nullSchema(), impl.Json{Kind: impl.JsonNull, Text: "null"}},
		{flagSchema(), impl.Json{Kind: impl.JsonFlag, Kids: []impl.Json{nullJson()}}},
		{textSchema(1, 1), textJson("\n")},
		{textSchema(2, 2), textJson("é")},
		{listSchema(2, 2, textSchema(0, 6)), listJson(textJson("a"), textJson("\x00"))},
		{formSchema("a b?", numSchema(), numSchema()), formJson("a b", numJson("1"), numJson("-0"))},
		{listSchema(6, 6, listSchema(6, 6, nullSchema())), listJson(slices.Repeat([]impl.Json{listJson(slices.Repeat([]impl.Json{nullJson()}, 6)...)}, 6)...)},
		{impl.Schema{Kind: impl.SchemaNull, Min: 1}, nullJson()},
		{impl.Schema{Kind: impl.SchemaFlag, Must: []bool{true}}, flagJson(true)},
		{textSchema(0, 7), textJson("a")},
		{textSchema(-1, 1), textJson("a")},
		{listSchema(0, 7, nullSchema()), listJson(nullJson())},
		{listSchema(0, 1, numSchema(), numSchema()), listJson(numJson("1"))},
		{anySchema(nullSchema()), nullJson()},
		{anySchema(nullSchema(), impl.Schema{}), nullJson()},
		{oneSchema("a", "a"), textJson("a")},
		{oneSchema("a", "123456789"), textJson("123456789")},
		{oneSchema("\""), textJson("\"")},
		{formSchema("a? a?", nullSchema(), nullSchema()), formJson("a", nullJson())},
		{formSchema("A", nullSchema()), formJson("A", nullJson())},
		{formSchema("a b? c? d? e?", slices.Repeat([]impl.Schema{nullSchema()}, 5)...), formJson("a", nullJson())},
		{impl.Schema{Kind: impl.SchemaForm, Names: []string{"a"}, Kids: []impl.Schema{nullSchema()}}, formJson("a", nullJson())},
		{nestedSchema(5, 0, nullSchema()), listJson()},
	} {
		if impl.SchemaFits(c.schema, c.value) {
			t.Errorf("%s fits %s, of which one is not valid", showJson(c.value), showSchema(c.schema))
		}
	}
}

func TestValuesFitAsTheDocumentSays(t *testing.T) {
	below := numbers()
	seen := map[bool]int{}
	for _, s := range append(namedSchemas(), mixedSchemas(5000)...) {
		for _, j := range varied(s, 4, below) {
			want := slowFits(s, j)
			if got := impl.SchemaFits(s, j); got != want {
				t.Fatalf("%s fits %s: %v, not %v", showJson(j), showSchema(s), got, want)
			}
			seen[want]++
		}
	}
	hasSeen(t, seen, 6000)
}

func TestP91AnyIsOneOfTheKids(t *testing.T) {
	below := numbers()
	seen := map[bool]int{}
	for range 3000 {
		var kids []impl.Schema
		for range 2 + below(3) {
			kids = append(kids, mixedSchema(below, 1+below(3)))
		}
		s := anySchema(kids...)
		if !impl.SchemaOk(s) {
			continue
		}
		for _, kid := range kids {
			for _, j := range varied(kid, 2, below) {
				want := slices.ContainsFunc(kids, func(kid impl.Schema) bool { return impl.SchemaFits(kid, j) })
				if got := impl.SchemaFits(s, j); got != want {
					t.Fatalf("%s fits %s: %v, not %v", showJson(j), showSchema(s), got, want)
				}
				seen[want]++
			}
		}
	}
	hasSeen(t, seen, 1000)
	s := anySchema(textSchema(0, 1), oneSchema("a", "bb"), numSchema())
	takes(t, s, `""`, `"a"`, `"x"`, `"bb"`, `7`)
	refuses(t, s, `"xx"`, `"ab"`, `null`, `[7]`, `""""`, `"a""a"`, `77777777`)
}

func TestP92ListsFitByTheirElementsAndNumber(t *testing.T) {
	below := numbers()
	seen := map[bool]int{}
	for _, kid := range leafSchemas() {
		for range 40 {
			most := below(7)
			s := listSchema(below(most+1), most, kid)
			j := listJson()
			areFitting := true
			for range below(8) {
				element := fitting(kid, below)
				if below(12) == 0 {
					element = nearJson(kid, below)
				}
				areFitting = areFitting && impl.SchemaFits(kid, element)
				j.Kids = append(j.Kids, element)
			}
			want := areFitting && s.Min <= len(j.Kids) && len(j.Kids) <= s.Max
			if got := impl.SchemaFits(s, j); got != want {
				t.Fatalf("%s fits %s: %v, not %v", showJson(j), showSchema(s), got, want)
			}
			seen[want]++
		}
	}
	hasSeen(t, seen, 200)
}

// Every number of elements, for every range.
func TestP92NumbersOfElements(t *testing.T) {
	for most := range 7 {
		for least := range most + 1 {
			s := listSchema(least, most, numSchema())
			c := schemaCfg(t, s)
			for size := range 10 {
				text := meantText(listJson(slices.Repeat([]impl.Json{numJson("1")}, size)...))
				if got := isReadAsParsed(t, s, c, text); got != (least <= size && size <= most) {
					t.Errorf("%q satisfies %s: %v", text, showSchema(s), got)
				}
				for place := range size {
					kids := slices.Repeat([]impl.Json{numJson("1")}, size)
					kids[place] = nullJson()
					if text := meantText(listJson(kids...)); isReadAsParsed(t, s, c, text) {
						t.Errorf("%q satisfies %s", text, showSchema(s))
					}
				}
			}
		}
	}
}

// withoutMember returns an object without the member of that index.
func withoutMember(j impl.Json, i int) impl.Json {
	j.Names, j.Kids = slices.Delete(slices.Clone(j.Names), i, i+1), slices.Delete(slices.Clone(j.Kids), i, i+1)
	return j
}

func TestP93MembersCanBeOmittedIfTheyAreNotRequired(t *testing.T) {
	seen := map[bool]int{}
	eachFitting(t, gramSchemas(2000), 3, func(s impl.Schema, c impl.Cfg, j impl.Json) {
		if s.Kind != impl.SchemaForm {
			return
		}
		for i, name := range j.Names {
			without := withoutMember(j, i)
			want := !s.Must[slices.Index(s.Names, name)]
			if got := impl.SchemaFits(s, without); got != want {
				t.Fatalf("%s fits %s: %v, not %v", showJson(without), showSchema(s), got, want)
			}
			isReadAsParsed(t, s, c, meantText(without))
			seen[want]++
		}
	})
	hasSeen(t, seen, 200)
}

// Every choice of members, for every choice of which of them are required.
func TestP93ChoicesOfMembers(t *testing.T) {
	names := []string{"d", "a", "c", "b"}
	seen := map[bool]int{}
	for count := range 5 {
		for _, marked := range allMust(names[:count]...) {
			s := formSchema(marked, slices.Repeat([]impl.Schema{flagSchema()}, count)...)
			c := schemaCfg(t, s)
			for choice := range 1 << count {
				j, want := formJson(""), true
				for i, name := range names[:count] {
					if choice>>i&1 == 1 {
						j.Names, j.Kids = append(j.Names, name), append(j.Kids, flagJson(i%2 == 0))
					} else {
						want = want && !s.Must[i]
					}
				}
				if got := isReadAsParsed(t, s, c, meantText(j)); got != want {
					t.Errorf("%s fits %s: %v, not %v", showJson(j), showSchema(s), got, want)
				}
				seen[want]++
			}
		}
	}
	hasSeen(t, seen, 50)
}

func TestP94ValuesHaveTheKindOfTheirSchema(t *testing.T) {
	below := numbers()
	values := append(leafJsons(), mixedJsons(200)...)
	seen := map[bool]int{}
	for _, s := range append(namedSchemas(), mixedSchemas(600)...) {
		kind := s.Kind
		switch kind {
		case impl.SchemaOne:
			kind = impl.JsonText
		case impl.SchemaAny:
			continue
		}
		for _, j := range slices.Concat(values, varied(s, 3, below)) {
			got := impl.SchemaFits(s, j)
			if got && j.Kind != kind {
				t.Fatalf("%s fits %s", showJson(j), showSchema(s))
			}
			seen[got]++
		}
	}
	hasSeen(t, seen, 3000)
}

func TestP96AGreaterMaximumExcludesNoValue(t *testing.T) {
	count := 0
	eachFitting(t, gramSchemas(600), 3, func(s impl.Schema, _ impl.Cfg, j impl.Json) {
		other := copySchema(s)
		for _, part := range schemasOf(&other) {
			if (part.Kind != impl.SchemaText && part.Kind != impl.SchemaList) || part.Max == 6 {
				continue
			}
			part.Max++
			if !impl.SchemaFits(other, j) {
				t.Fatalf("%s fits %s, but not %s", showJson(j), showSchema(s), showSchema(other))
			}
			if text := meantText(j); len(text) <= impl.ChartMax && !isSentence(schemaCfg(t, other), text) {
				t.Fatalf("%q is no sentence of %s", text, showSchema(other))
			}
			count++
		}
	})
	if count < 500 {
		t.Errorf("only %d cases", count)
	}
}

func TestP97OptionalMembersExcludeNoValue(t *testing.T) {
	count := 0
	eachFitting(t, gramSchemas(600), 2, func(s impl.Schema, _ impl.Cfg, j impl.Json) {
		other := copySchema(s)
		for _, part := range schemasOf(&other) {
			clear(part.Must)
		}
		if sameSchema(s, other) {
			return
		}
		c := schemaCfg(t, other)
		if !isReadAsParsed(t, other, c, meantText(j)) {
			t.Fatalf("%s fits %s, but not %s", showJson(j), showSchema(s), showSchema(other))
		}
		if s.Kind == impl.SchemaForm && !isReadAsParsed(t, other, c, "{}") {
			t.Fatalf("the empty object does not fit %s", showSchema(other))
		}
		count++
	})
	if count < 100 {
		t.Errorf("only %d cases", count)
	}
}

func TestP98MembersInReverseOrderDoNotFit(t *testing.T) {
	count := 0
	eachFitting(t, gramSchemas(1500), 3, func(s impl.Schema, c impl.Cfg, j impl.Json) {
		if s.Kind != impl.SchemaForm || len(j.Names) < 2 {
			return
		}
		other := copyJson(j)
		slices.Reverse(other.Names)
		slices.Reverse(other.Kids)
		if isReadAsParsed(t, s, c, meantText(other)) {
			t.Fatalf("%s fits %s", showJson(other), showSchema(s))
		}
		count++
	})
	if count < 300 {
		t.Errorf("only %d cases", count)
	}
	same := formSchema("a? b?", numSchema(), numSchema())
	takes(t, same, `{"a":1,"b":1}`)
	refuses(t, same, `{"b":1,"a":1}`, `{"b":1,"a":2}`)
}

func TestP99ExactlyTheListedTextsFit(t *testing.T) {
	for _, listed := range [][]string{{""}, {"a"}, {"a", "b"}, {"ab", "a", "", "b"}, {"aaa", "aa"}, {"ba", "ab", "abab"}, {" ", "a "}, {"null", "0", "[]", "{}"}, {"12345678"}, {"abababab", "babababa"}} {
		s := oneSchema(listed...)
		c := schemaCfg(t, s)
		for _, text := range slices.Concat(textsOf("ab ", 4), listed, trickyTexts(), []string{"1234567", "123456789", "12345679", "abababa", "ababababa"}) {
			want := slices.Contains(listed, text)
			if got := impl.SchemaFits(s, textJson(text)); got != want {
				t.Errorf("the text %q fits %s: %v", text, showSchema(s), got)
			}
			if got := isReadAsParsed(t, s, c, `"`+text+`"`); got != want {
				t.Errorf("the text %q is read as fitting %s: %v", text, showSchema(s), got)
			}
			isReadAsParsed(t, s, c, text)
		}
		refuses(t, s, `null`, `0`, `[]`, `{}`, ``, `"`, `12345678`)
	}
}

func TestP100TextsFitByTheirNumberOfBytes(t *testing.T) {
	for most := range 7 {
		for least := range most + 1 {
			s := textSchema(least, most)
			c := schemaCfg(t, s)
			for size := range 21 {
				for _, filler := range []string{"a", " ", "~", "!", "[", "]", "#", "1", ",:{}^-"} {
					text := strings.Repeat(filler, size)[:size]
					want := least <= size && size <= most
					if got := impl.SchemaFits(s, textJson(text)); got != want {
						t.Errorf("the text %q fits %s: %v", text, showSchema(s), got)
					}
					if got := isReadAsParsed(t, s, c, `"`+text+`"`); got != want {
						t.Errorf("the text %q is read as fitting %s: %v", text, showSchema(s), got)
					}
				}
			}
			isReadAsParsed(t, s, c, `"é"`)
			refuses(t, s, `null`, `0`, `[]`, `{}`, ``, `"`, `"""`)
		}
	}
	// Any byte that a text can have counts as one.
	s := textSchema(1, 1)
	c := schemaCfg(t, s)
	for b := range 256 {
		one := string([]byte{byte(b)})
		if got := isReadAsParsed(t, s, c, `"`+one+`"`); got != textsMeant.MatchString(one) {
			t.Errorf("the text %q is read as fitting %s: %v", one, showSchema(s), got)
		}
	}
}
