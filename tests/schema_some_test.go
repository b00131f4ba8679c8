package tests

import (
	"slices"
	"strings"
	"testing"

	"loop.example/fretwork/impl"
)

// hasSome checks which value SchemaSome returns, by its text.
func hasSome(t *testing.T, s impl.Schema, want string) {
	t.Helper()
	j, ok := impl.SchemaSome(s)
	if got := meantText(j); !ok || got != want {
		t.Errorf("SchemaSome of %s is %q, %v, not %q", showSchema(s), got, ok, want)
	}
}

// hasNoSome checks that a valid schema has a value that is too large.
func hasNoSome(t *testing.T, s impl.Schema) {
	t.Helper()
	if !impl.SchemaOk(s) {
		t.Errorf("%s is not valid", showSchema(s))
	}
	if j, ok := impl.SchemaSome(s); ok || !sameJson(j, impl.Json{}) {
		t.Errorf("SchemaSome of %s is %s, %v", showSchema(s), showJson(j), ok)
	}
}

func TestSomeValueOfEachKind(t *testing.T) {
	null, num := nullSchema(), numSchema()
	for _, c := range []struct {
		schema impl.Schema
		want   string
	}{
		{null, `null`},
		{flagSchema(), `false`},
		{num, `0`},
		{textSchema(0, 0), `""`},
		{textSchema(0, 6), `""`},
		{textSchema(1, 6), `" "`},
		{textSchema(6, 6), `"      "`},
		{listSchema(0, 0, num), `[]`},
		{listSchema(0, 6, num), `[]`},
		{listSchema(1, 1, num), `[0]`},
		{listSchema(3, 5, num), `[0,0,0]`},
		{listSchema(2, 2, listSchema(2, 2, flagSchema())), `[[false,false],[false,false]]`},
		{listSchema(2, 2, formSchema("a? b", null, num)), `[{"b":0},{"b":0}]`},
		{formSchema(""), `{}`},
		{formSchema("a?", null), `{}`},
		{formSchema("a", null), `{"a":null}`},
		{formSchema("b a? c d?", null, num, num, null), `{"b":null,"c":0}`},
		{formSchema("b? a c? d", null, num, num, textSchema(2, 3)), `{"a":0,"d":"  "}`},
		{formSchema("d c b a", null, num, flagSchema(), oneSchema("x", "y")), `{"d":null,"c":0,"b":false,"a":"x"}`},
		{anySchema(num, null), `0`},
		{anySchema(null, num), `null`},
		{anySchema(listSchema(2, 2, anySchema(oneSchema("", "a"), null)), null), `["",""]`},
		{anySchema(anySchema(flagSchema(), null), num), `false`},
		{oneSchema(""), `""`},
		{oneSchema("b", "a"), `"b"`},
		{oneSchema("", "a"), `""`},
		{oneSchema("a", ""), `"a"`},
		{oneSchema("12345678", "a", "b", "c"), `"12345678"`},
	} {
		hasSome(t, c.schema, c.want)
	}
}

// greatest returns a copy with the longest lists and texts and with all members required, so that its value is often too large.
func greatest(s impl.Schema) impl.Schema {
	s = copySchema(s)
	for _, part := range schemasOf(&s) {
		if part.Kind == impl.SchemaText || part.Kind == impl.SchemaList {
			part.Min, part.Max = 6, 6
		}
		for i := range part.Must {
			part.Must[i] = true
		}
	}
	return s
}

func TestP89SomeValueSatisfiesItsSchema(t *testing.T) {
	seen := map[bool]int{}
	schemas := append(namedSchemas(), mixedSchemas(5000)...)
	for _, s := range schemas {
		schemas = append(schemas, greatest(s))
	}
	for _, s := range schemas {
		want := slowSome(s)
		got, ok := impl.SchemaSome(s)
		if ok != slowJsonOk(want) || ok && !sameJson(got, want) || !ok && !sameJson(got, impl.Json{}) {
			t.Fatalf("SchemaSome of %s is %s, %v, not %s", showSchema(s), showJson(got), ok, showJson(want))
		}
		seen[ok]++
		if !ok {
			continue
		}
		if !impl.JsonOk(got) || !impl.SchemaFits(s, got) {
			t.Fatalf("SchemaSome of %s is %s, which is valid: %v", showSchema(s), showJson(got), impl.JsonOk(got))
		}
		if _, hasGram := impl.SchemaGram(s); !hasGram {
			continue
		}
		if text := impl.JsonWrite(got); len(text) <= impl.ChartMax && !isSentence(schemaCfg(t, s), text) {
			t.Fatalf("%q is no sentence of %s", text, showSchema(s))
		}
	}
	hasSeen(t, seen, 100)
}

// A value has at most JsonMaxSize values, itself included.
func TestSomeValuesOfManyValues(t *testing.T) {
	num := numSchema()
	lists := func(outer, inner int) impl.Schema { return listSchema(outer, outer, listSchema(inner, inner, num)) }
	row := func(count int) string { return "[" + strings.TrimPrefix(strings.Repeat(",0", count), ",") + "]" }
	hasSome(t, lists(6, 5), "["+strings.TrimPrefix(strings.Repeat(","+row(5), 6), ",")+"]")
	hasSome(t, lists(5, 6), "["+strings.TrimPrefix(strings.Repeat(","+row(6), 5), ",")+"]")
	hasNoSome(t, lists(6, 6))
	hasNoSome(t, listSchema(6, 6, lists(6, 6)))
	// 1 and 22 and 17 values are 40 together.
	forty := formSchema("a b", lists(3, 6), lists(4, 3))
	if j, ok := impl.SchemaSome(forty); !ok || len(partsOf(j)) != 40 {
		t.Errorf("SchemaSome of %s has %d values, %v", showSchema(forty), len(partsOf(j)), ok)
	}
	hasNoSome(t, formSchema("a b c", lists(3, 6), lists(4, 3), num))
	hasNoSome(t, formSchema("c a b", num, lists(3, 6), lists(4, 3)))
	// What need not be there makes no value too large.
	if j, ok := impl.SchemaSome(formSchema("a b c?", lists(3, 6), lists(4, 3), num)); !ok || len(partsOf(j)) != 40 {
		t.Errorf("SchemaSome has %d values, %v", len(partsOf(j)), ok)
	}
	hasSome(t, listSchema(0, 6, lists(6, 6)), "[]")
	hasSome(t, anySchema(num, lists(6, 6)), "0")
	hasNoSome(t, anySchema(lists(6, 6), num))
}

// The text of a value has at most JsonMaxText bytes.
func TestSomeValuesOfManyBytes(t *testing.T) {
	row := listSchema(6, 6, formSchema("abcdefgh bbbbbbbb c", nullSchema(), textSchema(6, 6), numSchema()))
	text := "[" + strings.TrimPrefix(strings.Repeat(`,{"abcdefgh":null,"bbbbbbbb":"      ","c":0}`, 6), ",") + "]"
	hasSome(t, row, text)
	base := len(`{"row":,"x":"","y":"","z":""}`) + len(text)
	for more := range 19 {
		var kids []impl.Schema
		for i := range 3 {
			size := (more + i) / 3
			kids = append(kids, textSchema(size, 6))
		}
		s := formSchema("row x y z", append([]impl.Schema{row}, kids...)...)
		if got := len(meantText(slowSome(s))); got != base+more {
			t.Fatalf("the value of %s has %d bytes, not %d", showSchema(s), got, base+more)
		}
		if base+more <= impl.JsonMaxText {
			hasSome(t, s, meantText(slowSome(s)))
		} else {
			hasNoSome(t, s)
		}
	}
	if base > impl.JsonMaxText || base+18 <= impl.JsonMaxText {
		t.Errorf("the limit is not within %d to %d bytes", base, base+18)
	}
}

// The value of a schema that is not valid is none, even if it would be valid.
func TestInvalidSchemasHaveNoValue(t *testing.T) {
	for _, s := range []impl.Schema{{}, {Kind: 9}, {Kind: impl.SchemaNull, Max: 1}, textSchema(1, 0), textSchema(7, 7), textSchema(-1, 3), listSchema(0, 0), listSchema(0, 1, impl.Schema{}), listSchema(0, 1, numSchema(), numSchema()), formSchema("a? a?", numSchema(), numSchema()), formSchema("a", impl.Schema{}), anySchema(), anySchema(numSchema()), anySchema(numSchema(), impl.Schema{}), oneSchema(), oneSchema("a", "a"), oneSchema("\n"), oneSchema("123456789"), nestedSchema(5, 0, numSchema()), nestedSchema(5, 2, numSchema())} {
		isNoSchema(t, s)
	}
	for _, s := range append(sizedSchemas(11), anySchema(slices.Repeat([]impl.Schema{numSchema()}, 5)...)) {
		isNoSchema(t, s)
	}
}
