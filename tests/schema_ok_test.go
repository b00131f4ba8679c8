package tests

import (
	"math"
	"slices"
	"strings"
	"testing"

	"loop.example/fretwork/impl"
)

func TestKindsOfSchemasThatDoNotExist(t *testing.T) {
	for _, kind := range []int{0, -1, 9, 10, 256 + impl.SchemaNull, math.MinInt, math.MaxInt} {
		for _, s := range append(namedSchemas(), impl.Schema{}) {
			s.Kind = kind
			isNoSchema(t, s)
			isNoSchema(t, listSchema(0, 1, s))
			isNoSchema(t, formSchema("a?", s))
			isNoSchema(t, anySchema(nullSchema(), s))
		}
	}
}

func TestKindsOfSchemasHaveTheirNumbers(t *testing.T) {
	for i, kind := range []int{impl.SchemaNull, impl.SchemaFlag, impl.SchemaNum, impl.SchemaText, impl.SchemaList, impl.SchemaForm, impl.SchemaAny, impl.SchemaOne} {
		if kind != i+1 {
			t.Errorf("kind %d is %d", i+1, kind)
		}
	}
}

func TestNamedSchemasAreValid(t *testing.T) {
	for _, s := range namedSchemas() {
		isSchema(t, s)
		if !slowSchemaOk(s) {
			t.Errorf("%s is not valid by the document's sentence", showSchema(s))
		}
	}
}

// A field that the kind does not have makes a schema invalid, whatever is in it.
func TestFieldsOfOtherKindsOfSchemas(t *testing.T) {
	null := nullSchema()
	fields := []struct {
		name string
		with func(s *impl.Schema)
		of   []int
	}{
		{"Max", func(s *impl.Schema) { s.Max++ }, []int{impl.SchemaText, impl.SchemaList}},
		{"Min and Max", func(s *impl.Schema) { s.Min, s.Max = 1, 1 }, []int{impl.SchemaText, impl.SchemaList}},
		{"Min", func(s *impl.Schema) { s.Min = 1 }, []int{impl.SchemaText, impl.SchemaList}},
		{"Min below 0", func(s *impl.Schema) { s.Min = -1 }, nil},
		{"Max below 0", func(s *impl.Schema) { s.Max = -1 }, nil},
		{"Names", func(s *impl.Schema) { s.Names = append(slices.Clone(s.Names), "z") }, []int{impl.SchemaOne}},
		{"a name without bytes", func(s *impl.Schema) { s.Names = append(slices.Clone(s.Names), "") }, []int{impl.SchemaOne}},
		{"Must", func(s *impl.Schema) { s.Must = append(slices.Clone(s.Must), true) }, nil},
		{"Must that is false", func(s *impl.Schema) { s.Must = append(slices.Clone(s.Must), false) }, nil},
		{"Kids", func(s *impl.Schema) { s.Kids = append(slices.Clone(s.Kids), null) }, []int{impl.SchemaAny}},
		{"a kid that is invalid", func(s *impl.Schema) { s.Kids = append(slices.Clone(s.Kids), impl.Schema{}) }, nil},
		{"Names and Must", func(s *impl.Schema) {
			s.Names, s.Must = append(slices.Clone(s.Names), "z"), append(slices.Clone(s.Must), true)
		}, nil},
		{"Names and Kids", func(s *impl.Schema) {
			s.Names, s.Kids = append(slices.Clone(s.Names), "z"), append(slices.Clone(s.Kids), null)
		}, nil},
		{"Must and Kids", func(s *impl.Schema) {
			s.Must, s.Kids = append(slices.Clone(s.Must), true), append(slices.Clone(s.Kids), null)
		}, nil},
		{"Names, Must and Kids", func(s *impl.Schema) {
			s.Names, s.Must, s.Kids = append(slices.Clone(s.Names), "z"), append(slices.Clone(s.Must), false), append(slices.Clone(s.Kids), null)
		}, []int{impl.SchemaForm}},
	}
	for _, s := range []impl.Schema{nullSchema(), flagSchema(), numSchema(), textSchema(1, 2), textSchema(1, 5), listSchema(1, 2, null), listSchema(1, 5, null), formSchema(""), formSchema("a b?", null, null), anySchema(null, null), anySchema(null, null, null), oneSchema("a"), oneSchema("a", "b", "c")} {
		isSchema(t, s)
		for _, field := range fields {
			changed := copySchema(s)
			field.with(&changed)
			if slices.Contains(field.of, s.Kind) {
				isSchema(t, changed)
				continue
			}
			isNoSchema(t, changed)
			isNoSchema(t, listSchema(0, 1, changed))
			isNoSchema(t, formSchema("a?", changed))
			isNoSchema(t, anySchema(null, changed))
		}
	}
}

// Lists without elements are equal to none.
func TestSchemasWithEmptyLists(t *testing.T) {
	for _, s := range leafSchemas() {
		g := schemaGram(t, s)
		for _, lists := range []func(s *impl.Schema){
			func(s *impl.Schema) { s.Must, s.Kids = []bool{}, []impl.Schema{} },
			func(s *impl.Schema) { s.Must, s.Kids = nil, nil },
			func(s *impl.Schema) { s.Must, s.Kids = make([]bool, 0, 3), make([]impl.Schema, 0, 3) },
		} {
			lists(&s)
			if s.Kind != impl.SchemaOne {
				s.Names = make([]string, 0, 2)
			}
			isSchema(t, s)
			if got := schemaGram(t, s); !sameGram(got, g) {
				t.Errorf("%s has the grammar %q, not %q", showSchema(s), impl.GramWrite(got), impl.GramWrite(g))
			}
		}
	}
}

func TestMinAndMaxOfSchemas(t *testing.T) {
	bounds := []int{math.MinInt, -6, -2, -1, 0, 1, 2, 3, 4, 5, 6, 7, 8, 40, math.MaxInt}
	for _, least := range bounds {
		for _, most := range bounds {
			want := 0 <= least && least <= most && most <= 6
			for _, s := range []impl.Schema{textSchema(least, most), listSchema(least, most, nullSchema()), listSchema(least, most, listSchema(0, 1, numSchema()))} {
				if want {
					isSchema(t, s)
					isSchema(t, formSchema("a", s))
					continue
				}
				isNoSchema(t, s)
				isNoSchema(t, formSchema("a?", s))
				isNoSchema(t, listSchema(0, 0, s))
			}
		}
	}
}

func TestAListHasOneKid(t *testing.T) {
	for count := range 6 {
		for _, most := range []int{0, 1, 3} {
			s := listSchema(0, most, slices.Repeat([]impl.Schema{nullSchema()}, count)...)
			if count == 1 {
				isSchema(t, s)
			} else {
				isNoSchema(t, s)
			}
		}
	}
}

func TestNumbersOfKids(t *testing.T) {
	for count := range 9 {
		kids := slices.Repeat([]impl.Schema{nullSchema()}, count)
		form := formSchema(manyNames(count), kids...)
		if count <= 4 {
			isSchema(t, form)
		} else {
			isNoSchema(t, form)
		}
		if count >= 2 && count <= 4 {
			isSchema(t, anySchema(kids...))
		} else {
			isNoSchema(t, anySchema(kids...))
		}
		one := oneSchema(strings.Fields(manyNames(count))...)
		if count >= 1 && count <= 4 {
			isSchema(t, one)
		} else {
			isNoSchema(t, one)
		}
	}
}

func TestAsManyNamesAsMustAndKids(t *testing.T) {
	for names := range 5 {
		for musts := range 5 {
			for kids := range 5 {
				s := impl.Schema{Kind: impl.SchemaForm, Names: strings.Fields(manyNames(names)), Must: make([]bool, musts), Kids: slices.Repeat([]impl.Schema{nullSchema()}, kids)}
				if names == musts && musts == kids {
					isSchema(t, s)
				} else {
					isNoSchema(t, s)
				}
			}
		}
	}
}

func TestNamesOfFormSchemas(t *testing.T) {
	null := nullSchema()
	for _, name := range []string{"a", "z", "null", "abcdefgh", "zzzzzzzz"} {
		isSchema(t, formSchema(name, null))
		isSchema(t, formSchema("b "+name, null, null))
	}
	for _, name := range []string{"", " ", "A", "aA", "a1", "1", "-", "a_b", "a b", " a", "a ", "abcdefghi", "é", "a\x00", "a\n", "`", "{", "\"", "\\", "a:", "\xff", strings.Repeat("a", 1000)} {
		for _, names := range [][]string{{name}, {name, "b"}, {"b", name}, {"b", "c", "d", name}} {
			s := impl.Schema{Kind: impl.SchemaForm, Names: names, Must: make([]bool, len(names)), Kids: slices.Repeat([]impl.Schema{null}, len(names))}
			isNoSchema(t, s)
			isNoSchema(t, listSchema(0, 0, s))
		}
	}
	for _, names := range []string{"a a", "a a?", "a? a?", "a b a", "b a a", "a a b", "a b c a", "b c a? a", "abcdefgh abcdefgh"} {
		isNoSchema(t, formSchema(names, slices.Repeat([]impl.Schema{null}, len(strings.Fields(names)))...))
	}
	// The same name may be in several objects, and names may begin alike.
	isSchema(t, formSchema("a b", formSchema("a", null), formSchema("b a", null, null)))
	isSchema(t, formSchema("a aa ab aaa", null, null, null, null))
}

func TestTextsOfOneSchemas(t *testing.T) {
	for b := range 256 {
		one := string([]byte{byte(b)})
		for _, text := range []string{one, "a" + one, one + "b", strings.Repeat(one, 8)} {
			if b >= 32 && b <= 126 && b != '"' && b != '\\' {
				isSchema(t, oneSchema(text))
				isSchema(t, oneSchema("zz", text, ""))
				continue
			}
			isNoSchema(t, oneSchema(text))
			isNoSchema(t, oneSchema("zz", text, ""))
			isNoSchema(t, oneSchema("", "zz", "a", text))
		}
	}
	for length := range 30 {
		text := strings.Repeat("a", length)
		for _, s := range []impl.Schema{oneSchema(text), oneSchema("b", text), oneSchema(text, "b", "c", "d"), oneSchema("b", "c", "d", text)} {
			if length <= 8 {
				isSchema(t, s)
			} else {
				isNoSchema(t, s)
			}
		}
	}
	for _, texts := range [][]string{{"a", "a"}, {"", ""}, {"a", "b", "a"}, {"b", "a", "a"}, {"a", "a", "b"}, {"", "b", "c", ""}, {"a", "b", "c", "b"}, {"12345678", "12345678"}} {
		isNoSchema(t, oneSchema(texts...))
		isNoSchema(t, listSchema(0, 1, oneSchema(texts...)))
	}
	isSchema(t, oneSchema("", " ", "a", "A"))
}

// nestedSchema returns a schema of the given depth: the kinds that have kids in one another, in an order that depends on the turn.
func nestedSchema(depth, turn int, leaf impl.Schema) impl.Schema {
	s := leaf
	for i := 1; i < depth; i++ {
		switch (i + turn) % 3 {
		case 0:
			s = listSchema(0, 1, s)
		case 1:
			s = formSchema("a?", s)
		case 2:
			s = anySchema(nullSchema(), s)
		}
	}
	return s
}

func TestDepthsOfSchemas(t *testing.T) {
	for depth := 1; depth <= 8; depth++ {
		for turn := range 3 {
			for _, leaf := range []impl.Schema{nullSchema(), formSchema(""), textSchema(0, 0), oneSchema("")} {
				s := nestedSchema(depth, turn, leaf)
				if schemaDepth(s) != depth {
					t.Fatalf("%s has the depth %d, not %d", showSchema(s), schemaDepth(s), depth)
				}
				if depth <= 4 {
					isSchema(t, s)
				} else {
					isNoSchema(t, s)
				}
			}
		}
	}
	// The deepest kid counts, wherever it is.
	deep, deeper := nestedSchema(3, 0, numSchema()), nestedSchema(4, 0, numSchema())
	for place := range 4 {
		kids := slices.Repeat([]impl.Schema{nullSchema()}, 4)
		kids[place] = deep
		isSchema(t, anySchema(kids...))
		isSchema(t, formSchema("a b? c? d", kids...))
		kids[place] = deeper
		isNoSchema(t, anySchema(kids...))
		isNoSchema(t, formSchema("a b? c? d", kids...))
	}
}

// sizedSchemas returns schemas of so many schemas, 7 to 17, in several shapes.
func sizedSchemas(count int) []impl.Schema {
	nulls := func(count int) []impl.Schema { return slices.Repeat([]impl.Schema{nullSchema()}, count) }
	form := func(kids ...impl.Schema) impl.Schema { return formSchema(manyNames(len(kids)), kids...) }
	var out []impl.Schema
	// A root with three to four kids, of which the last three have what is left between them.
	for first := range 2 {
		left := count - 4 - first
		var kids, others []impl.Schema
		for i := range 3 {
			size := (left + i) / 3
			kids = append(kids, form(nulls(size)...))
			if size > 1 {
				others = append(others, anySchema(nulls(size)...))
			} else {
				others = append(others, form(nulls(size)...))
			}
		}
		out = append(out, form(append(nulls(first), kids...)...), anySchema(append(nulls(first), others...)...), form(slices.Concat(kids, nulls(first))...))
	}
	return out
}

func countOf(s impl.Schema) int {
	return len(schemasOf(&s))
}

func TestSizesOfSchemas(t *testing.T) {
	for count := 7; count <= 16; count++ {
		for _, s := range sizedSchemas(count) {
			if countOf(s) != count || schemaDepth(s) > 4 {
				t.Fatalf("%s has %d schemas, not %d", showSchema(s), countOf(s), count)
			}
			if count <= 10 {
				isSchema(t, s)
			} else {
				isNoSchema(t, s)
			}
		}
	}
	null := nullSchema()
	four := anySchema(null, null, null, null)
	isSchema(t, anySchema(four, null, null, listSchema(0, 1, null)))
	isNoSchema(t, anySchema(four, null, null, listSchema(0, 1, listSchema(0, 1, null))))
	isSchema(t, anySchema(null, four, formSchema("a? b?", null, null)))
	isNoSchema(t, anySchema(null, four, formSchema("a? b? c?", null, null, null)))
	isNoSchema(t, anySchema(formSchema("a? b? c?", null, null, null), null, four))
	isNoSchema(t, listSchema(0, 1, anySchema(four, four)))
}

// Schemas that are in themselves, and lists that are far too long, end in time.
func TestSchemasWithoutEnd(t *testing.T) {
	for kind := range 10 {
		loop := impl.Schema{Kind: kind, Kids: make([]impl.Schema, 1)}
		switch kind {
		case impl.SchemaForm:
			loop.Names, loop.Must = []string{"a"}, []bool{true}
		case impl.SchemaAny:
			loop.Kids = make([]impl.Schema, 4)
		}
		for i := range loop.Kids {
			loop.Kids[i] = loop
		}
		if _, ok := impl.SchemaGram(loop); ok || impl.SchemaOk(loop) || impl.SchemaFits(loop, nullJson()) {
			t.Errorf("a schema of kind %d that is in itself is valid", kind)
		}
	}
	many, different := slices.Repeat([]impl.Schema{nullSchema()}, 1000000), differentNames(1000000)
	for i, s := range []impl.Schema{
		anySchema(many...),
		listSchema(0, 1, many...),
		listSchema(0, 1, anySchema(many...)),
		{Kind: impl.SchemaForm, Names: different, Must: make([]bool, 1000000), Kids: many},
		{Kind: impl.SchemaForm, Names: different},
		oneSchema(different...),
		oneSchema(strings.Repeat("a", 1000000)),
		{Kind: impl.SchemaNull, Names: different},
	} {
		if _, ok := impl.SchemaSome(s); ok || impl.SchemaOk(s) || impl.SchemaFits(s, nullJson()) {
			t.Errorf("schema %d is valid", i)
		}
	}
}

// A kid that is not valid makes all that it is in invalid, also where no value needs it.
func TestInvalidKidsMakeInvalidSchemas(t *testing.T) {
	for _, bad := range []impl.Schema{{}, {Kind: 9}, {Kind: impl.SchemaNum, Max: 1}, textSchema(2, 1), textSchema(0, 7), {Kind: impl.SchemaList, Max: 1}, anySchema(nullSchema()), anySchema(), oneSchema(), oneSchema("a", "a"), oneSchema("123456789"), formSchema("a"), formSchema("a a", nullSchema(), nullSchema())} {
		isNoSchema(t, bad)
		for place := range 4 {
			kids := slices.Repeat([]impl.Schema{numSchema()}, 4)
			kids[place] = bad
			isNoSchema(t, anySchema(kids...))
			isNoSchema(t, formSchema("a? b? c? d?", kids...))
		}
		for depth := 2; depth <= 4; depth++ {
			for turn := range 3 {
				isNoSchema(t, nestedSchema(depth, turn, bad))
			}
		}
		isNoSchema(t, listSchema(0, 0, bad))
	}
}

func TestSchemasAreValidAsTheDocumentSays(t *testing.T) {
	below := numbers()
	seen := map[bool]int{}
	for i := range 30000 {
		s := mixedSchema(below, 1+below(6))
		if i%2 == 0 {
			spoilSchema(&s, below)
		}
		want := slowSchemaOk(s)
		if got := impl.SchemaOk(s); got != want {
			t.Fatalf("%s is valid: %v, not %v", showSchema(s), got, want)
		}
		if !want && i%5 == 0 {
			isNoSchema(t, s)
		}
		seen[want]++
	}
	hasSeen(t, seen, 5000)
}
