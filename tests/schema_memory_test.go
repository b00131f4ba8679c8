package tests

import (
	"slices"
	"strings"
	"testing"

	"loop.example/fretwork/impl"
)

// roomySchema returns a copy with capacity beyond all lists, which no call may write to.
func roomySchema(s impl.Schema) impl.Schema {
	names, must := append(slices.Clone(s.Names), "spare", "zz"), append(slices.Clone(s.Must), true, false)
	kids := make([]impl.Schema, 0, len(s.Kids)+2)
	for _, kid := range s.Kids {
		kids = append(kids, roomySchema(kid))
	}
	s.Names, s.Must, s.Kids = names[:len(names)-2], must[:len(must)-2], kids
	return s
}

// wholeSchema returns a copy with all lists up to their capacities.
func wholeSchema(s impl.Schema) impl.Schema {
	s.Names, s.Must = slices.Clone(s.Names[:cap(s.Names)]), slices.Clone(s.Must[:cap(s.Must)])
	var kids []impl.Schema
	for _, kid := range s.Kids[:cap(s.Kids)] {
		kids = append(kids, wholeSchema(kid))
	}
	s.Kids = kids
	return s
}

func TestNoCallChangesItsSchema(t *testing.T) {
	below := numbers()
	for i, s := range append(namedSchemas(), mixedSchemas(1000)...) {
		if i%3 == 0 {
			spoilSchema(&s, below)
		}
		given := roomySchema(s)
		before := wholeSchema(given)
		for _, j := range []impl.Json{nullJson(), listJson(numJson("1"), nullJson()), formJson("a b", nullJson(), flagJson(true)), textJson("a"), {}} {
			value := roomyJson(j)
			whole := wholeJson(value)
			impl.SchemaFits(given, value)
			if !sameJson(wholeJson(value), whole) {
				t.Fatalf("%s was changed to %s", showJson(whole), showJson(wholeJson(value)))
			}
		}
		impl.SchemaOk(given)
		impl.SchemaSome(given)
		impl.SchemaGram(given)
		if !sameSchema(wholeSchema(given), before) {
			t.Fatalf("%s was changed to %s", showSchema(before), showSchema(wholeSchema(given)))
		}
	}
}

// clearSchema clears all lists of a schema and of what is in it, to their capacities.
func clearSchema(s impl.Schema) {
	for _, kid := range s.Kids {
		clearSchema(kid)
	}
	clear(s.Names[:cap(s.Names)])
	clear(s.Must[:cap(s.Must)])
	clear(s.Kids[:cap(s.Kids)])
}

// memorySchemas returns schemas with everything whose memory an answer could have twice.
func memorySchemas() []impl.Schema {
	text, num := textSchema(1, 3), numSchema()
	return []impl.Schema{
		num,
		text,
		oneSchema("abc", "d", "efg"),
		listSchema(2, 4, listSchema(2, 3, text)),
		listSchema(3, 3, formSchema("name other?", listSchema(1, 2, num), text)),
		listSchema(0, 3, anySchema(text, text, oneSchema("some", "text"))),
		formSchema("first second? third last?", text, num, listSchema(2, 2, oneSchema("text")), formSchema("name", text)),
		anySchema(formSchema("name other", num, num), listSchema(1, 1, text), text),
	}
}

// Clearing the argument changes no answer.
func TestAnswersDoNotShareTheMemoryOfTheirSchema(t *testing.T) {
	for _, s := range memorySchemas() {
		given := roomySchema(s)
		g := schemaGram(t, given)
		j, _ := impl.SchemaSome(given)
		clearSchema(given)
		if want := readGram(t, slowGram(s)); !sameGram(g, want) {
			t.Errorf("the grammar of %s became %s", showSchema(s), impl.GramWrite(g))
		}
		if !sameJson(j, slowSome(s)) {
			t.Errorf("the value of %s became %s", showSchema(s), showJson(j))
		}
	}
}

// Clearing a list changes that list alone, so no two lists of an answer share memory.
func TestListsOfSchemaGramShareNoMemory(t *testing.T) {
	for _, s := range memorySchemas() {
		want := copyGram(schemaGram(t, s))
		for list := range listCount(want) {
			changed, other := schemaGram(t, s), schemaGram(t, s)
			var all []func()
			for i := range changed.Rules {
				all = append(all, clearings(&changed.Rules[i].Part)...)
			}
			all[list]()
			if !sameGram(other, want) {
				t.Fatalf("list %d of the grammar of %s is shared by two answers", list, showSchema(s))
			}
			if left := differences(changed, want); left > 1 {
				t.Fatalf("list %d of the grammar of %s shares memory with others: %d differ", list, showSchema(s), left)
			}
		}
		changed := schemaGram(t, s)
		clear(changed.Rules[:cap(changed.Rules)])
		if other := schemaGram(t, s); !sameGram(other, want) {
			t.Fatalf("the rules of %s are shared by two answers", showSchema(s))
		}
	}
}

func TestListsOfSchemaSomeShareNoMemory(t *testing.T) {
	for _, s := range memorySchemas() {
		want := slowSome(s)
		whole := copyJson(want)
		for list := range jsonClearings(&whole) {
			changed, _ := impl.SchemaSome(s)
			other, _ := impl.SchemaSome(s)
			jsonClearings(&changed)[list]()
			if !sameJson(other, want) {
				t.Fatalf("list %d of the value of %s is shared by two answers", list, showSchema(s))
			}
			if left := jsonDifferences(changed, want); left > 1 {
				t.Fatalf("list %d of the value of %s shares memory with others: %d differ", list, showSchema(s), left)
			}
		}
	}
}

// The texts and names of an answer are new memory, not that of the argument. (Texts of one byte are all the same memory in Go.)
func TestTextsOfSchemasAreNewMemory(t *testing.T) {
	name, text := strings.Clone("name"), strings.Clone("text")
	s := formSchema("a", oneSchema(text))
	s.Names[0] = name
	j, ok := impl.SchemaSome(s)
	if !ok || isWithin(j.Names[0], name) || isWithin(j.Kids[0].Text, text) {
		t.Errorf("the value of %s has the argument's memory", showSchema(s))
	}
	for _, rule := range schemaGram(t, s).Rules {
		for _, part := range append(rule.Part.Kids, rule.Part) {
			if isWithin(part.Text, name) || isWithin(part.Text, text) {
				t.Errorf("%q is in the argument's memory", part.Text)
			}
		}
	}
}

// What a call answers does not depend on the calls before it, nor on what was done with their answers.
func TestNothingIsKeptOfSchemas(t *testing.T) {
	s := formSchema("a? b", listSchema(0, 2, numSchema()), oneSchema("x", ""))
	want := impl.GramWrite(readGram(t, slowGram(s)))
	for _, other := range append(namedSchemas(), impl.Schema{}, impl.Schema{Kind: 9}, nestedSchema(5, 1, numSchema()), oneSchema("a", "a"), sizedSchemas(11)[0]) {
		if g, ok := impl.SchemaGram(other); ok {
			for i := range g.Rules {
				for _, wipe := range slices.Backward(clearings(&g.Rules[i].Part)) {
					wipe()
				}
			}
		}
		if j, ok := impl.SchemaSome(other); ok {
			for _, wipe := range slices.Backward(jsonClearings(&j)) {
				wipe()
			}
		}
		hasSchemaGram(t, s, want)
		hasSome(t, s, `{"b":"x"}`)
	}
}
