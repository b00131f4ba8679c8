package tests

import (
	"fmt"
	"regexp"
	"slices"
	"strings"
	"testing"

	"loop.example/fretwork/impl"
)

func nullSchema() impl.Schema {
	return impl.Schema{Kind: impl.SchemaNull}
}

func flagSchema() impl.Schema {
	return impl.Schema{Kind: impl.SchemaFlag}
}

func numSchema() impl.Schema {
	return impl.Schema{Kind: impl.SchemaNum}
}

func textSchema(least, most int) impl.Schema {
	return impl.Schema{Kind: impl.SchemaText, Min: least, Max: most}
}

func listSchema(least, most int, kids ...impl.Schema) impl.Schema {
	return impl.Schema{Kind: impl.SchemaList, Min: least, Max: most, Kids: kids}
}

// formSchema takes the names separated by blanks, with a question mark behind each that is not required.
func formSchema(names string, kids ...impl.Schema) impl.Schema {
	s := impl.Schema{Kind: impl.SchemaForm, Kids: kids}
	for _, name := range strings.Fields(names) {
		name, isOptional := strings.CutSuffix(name, "?")
		s.Names = append(s.Names, name)
		s.Must = append(s.Must, !isOptional)
	}
	return s
}

func anySchema(kids ...impl.Schema) impl.Schema {
	return impl.Schema{Kind: impl.SchemaAny, Kids: kids}
}

func oneSchema(texts ...string) impl.Schema {
	return impl.Schema{Kind: impl.SchemaOne, Names: texts}
}

// showSchema writes a schema in a short way of its own, whether it is valid or not.
func showSchema(s impl.Schema) string {
	var kids []string
	for _, kid := range s.Kids {
		kids = append(kids, showSchema(kid))
	}
	return fmt.Sprintf("%d{%d,%d}%q%v(%s)", s.Kind, s.Min, s.Max, s.Names, s.Must, strings.Join(kids, " "))
}

func sameSchema(a, b impl.Schema) bool {
	return a.Kind == b.Kind && a.Min == b.Min && a.Max == b.Max && slices.Equal(a.Names, b.Names) && slices.Equal(a.Must, b.Must) && slices.EqualFunc(a.Kids, b.Kids, sameSchema)
}

func copySchema(s impl.Schema) impl.Schema {
	s.Names, s.Must = slices.Clone(s.Names), slices.Clone(s.Must)
	var kids []impl.Schema
	for _, kid := range s.Kids {
		kids = append(kids, copySchema(kid))
	}
	s.Kids = kids
	return s
}

// schemasOf returns pointers to a schema and to all that are in it.
func schemasOf(s *impl.Schema) []*impl.Schema {
	all := []*impl.Schema{s}
	for i := range s.Kids {
		all = append(all, schemasOf(&s.Kids[i])...)
	}
	return all
}

func schemaDepth(s impl.Schema) int {
	depth := 0
	for _, kid := range s.Kids {
		depth = max(depth, schemaDepth(kid))
	}
	return depth + 1
}

var shortTextsMeant = regexp.MustCompile(`\A[ !#-\[\]-~]{0,8}\z`)

func allMatch(pattern *regexp.Regexp, texts []string) bool {
	return !slices.ContainsFunc(texts, func(text string) bool { return !pattern.MatchString(text) })
}

// slowRowOk takes the row of the document's table, without what is in the kids.
func slowRowOk(s impl.Schema) bool {
	used := impl.Schema{Kind: s.Kind}
	isOk := true
	switch s.Kind {
	case 1, 2, 3:
	case 4:
		used.Min, used.Max = s.Min, s.Max
	case 5:
		used.Min, used.Max, used.Kids, isOk = s.Min, s.Max, s.Kids, len(s.Kids) == 1
	case 6:
		used.Names, used.Must, used.Kids = s.Names, s.Must, s.Kids
		isOk = len(s.Names) == len(s.Must) && len(s.Must) == len(s.Kids) && allMatch(namesMeant, s.Names)
	case 7:
		used.Kids, isOk = s.Kids, len(s.Kids) > 1
	case 8:
		used.Names, isOk = s.Names, len(s.Names) > 0 && len(s.Names) < 5 && allMatch(shortTextsMeant, s.Names)
	default:
		return false
	}
	isDifferent := len(sortedTexts(s.Names)) == len(s.Names)
	return isOk && isDifferent && sameSchema(used, s) && 0 <= s.Min && s.Min <= s.Max && s.Max <= 6 && len(s.Kids) <= 4
}

// slowSchemaOk takes the document's sentence, schema by schema.
func slowSchemaOk(s impl.Schema) bool {
	all := schemasOf(&s)
	return !slices.ContainsFunc(all, func(part *impl.Schema) bool { return !slowRowOk(*part) }) &&
		schemaDepth(s) <= 4 && len(all) <= 10
}

// slowFits takes the document's table for a schema and a value that are both valid.
func slowFits(s impl.Schema, j impl.Json) bool {
	inRange := func(size int) bool { return s.Min <= size && size <= s.Max }
	isText := j.Kind == impl.JsonText
	switch s.Kind {
	case 4:
		return isText && inRange(len(j.Text))
	case 5:
		return j.Kind == impl.JsonList && inRange(len(j.Kids)) && !slices.ContainsFunc(j.Kids, func(kid impl.Json) bool { return !slowFits(s.Kids[0], kid) })
	case 6:
		return j.Kind == impl.JsonForm && slowFormFits(s, j)
	case 7:
		return slices.ContainsFunc(s.Kids, func(kid impl.Schema) bool { return slowFits(kid, j) })
	case 8:
		return isText && slices.Contains(s.Names, j.Text)
	}
	return j.Kind == s.Kind
}

// slowFormFits looks each name of the object up among those of the schema.
func slowFormFits(s impl.Schema, j impl.Json) bool {
	var places []int
	for i, name := range j.Names {
		place := slices.Index(s.Names, name)
		if place < 0 || !slowFits(s.Kids[place], j.Kids[i]) {
			return false
		}
		places = append(places, place)
	}
	for place, isRequired := range s.Must {
		if isRequired && !slices.Contains(places, place) {
			return false
		}
	}
	return slices.IsSorted(places)
}

// slowSome takes the document's sentence for a valid schema; the value need not be valid.
func slowSome(s impl.Schema) impl.Json {
	switch s.Kind {
	case 1:
		return nullJson()
	case 2:
		return flagJson(false)
	case 3:
		return numJson("0")
	case 4:
		return textJson("      "[:s.Min])
	case 5:
		return listJson(slices.Repeat([]impl.Json{slowSome(s.Kids[0])}, s.Min)...)
	case 7:
		return slowSome(s.Kids[0])
	case 8:
		return textJson(s.Names[0])
	}
	j := formJson("")
	for i, name := range s.Names {
		if s.Must[i] {
			j.Names, j.Kids = append(j.Names, name), append(j.Kids, slowSome(s.Kids[i]))
		}
	}
	return j
}

// gramText has the texts of the rules of a grammar, but the first one.
type gramText struct {
	rules []string
}

func (g *gramText) rule(part string) string {
	name := "a" + string(rune('a'+len(g.rules)))
	g.rules = append(g.rules, name+" = "+part+";\n")
	return name
}

// slowGram takes the document's sentences for a valid schema and writes the grammar as they are written there.
func slowGram(s impl.Schema) string {
	var g gramText
	root := "root = " + g.part(s) + ";\n"
	return root + strings.Join(g.rules, "")
}

func (g *gramText) part(s impl.Schema) string {
	var kids []string
	for _, kid := range s.Kids {
		kids = append(kids, g.rule(g.part(kid)))
	}
	switch s.Kind {
	case 1:
		return `"null"`
	case 2:
		return `"true" | "false"`
	case 3:
		return `"0" | "-"? [1-9] [0-9]{0,6}`
	case 4:
		if s.Max == 0 {
			return `"\22\22"`
		}
		return fmt.Sprintf(`"\22" [ -!#-[\5d-~]{%d,%d} "\22"`, s.Min, s.Max)
	case 5:
		return g.list(s, kids[0])
	case 6:
		return g.form(s, kids)
	case 7:
		return strings.Join(kids, " | ")
	}
	var texts []string
	for _, name := range s.Names {
		texts = append(texts, `"\22`+name+`\22"`)
	}
	return strings.Join(texts, " | ")
}

func (g *gramText) list(s impl.Schema, kid string) string {
	items := kid
	if s.Max > 1 {
		items += fmt.Sprintf(` ("," %s){%d,%d}`, kid, max(s.Min-1, 0), s.Max-1)
	}
	switch {
	case s.Max == 0:
		return `"[]"`
	case s.Min == 0:
		return `"[" (` + items + `)? "]"`
	}
	return `"[" ` + items + ` "]"`
}

func (g *gramText) form(s impl.Schema, kids []string) string {
	if len(kids) == 0 {
		return `"{}"`
	}
	first, later := "()", "()"
	for i, kid := range slices.Backward(kids) {
		rest := kid
		if later != "()" {
			rest += " " + later
		}
		ahead := `"\22` + s.Names[i] + `\22:" ` + rest
		behind := `",\22` + s.Names[i] + `\22:" ` + rest
		if !s.Must[i] {
			ahead, behind = ahead+" | "+first, behind+" | "+later
		}
		first = g.rule(ahead)
		if i > 0 {
			later = g.rule(behind)
		}
	}
	return `"{" ` + first + ` "}"`
}

// isSchema checks that a schema is valid, and that a value which satisfies it is known as one.
func isSchema(t *testing.T, s impl.Schema) {
	t.Helper()
	if !impl.SchemaOk(s) {
		t.Errorf("%s is not valid", showSchema(s))
	} else if j := slowSome(s); impl.SchemaFits(s, j) != slowJsonOk(j) {
		t.Errorf("%s fits %s: %v", showJson(j), showSchema(s), impl.SchemaFits(s, j))
	}
}

// isNoSchema checks that a schema is invalid, and what all functions do with it.
func isNoSchema(t *testing.T, s impl.Schema) {
	t.Helper()
	if impl.SchemaOk(s) {
		t.Errorf("%s is valid", showSchema(s))
	}
	if g, ok := impl.SchemaGram(s); ok || len(g.Rules) != 0 {
		t.Errorf("%s has the grammar %q, %v", showSchema(s), impl.GramWrite(g), ok)
	}
	if j, ok := impl.SchemaSome(s); ok || !sameJson(j, impl.Json{}) {
		t.Errorf("%s has the value %s, %v", showSchema(s), showJson(j), ok)
	}
	for _, j := range []impl.Json{{}, nullJson(), flagJson(false), numJson("0"), textJson(""), textJson("a"), listJson(), listJson(nullJson()), formJson(""), formJson("a", nullJson())} {
		if impl.SchemaFits(s, j) {
			t.Errorf("%s fits %s, which is not valid", showJson(j), showSchema(s))
		}
	}
}

// schemaGram returns the grammar of a schema, which must have one.
func schemaGram(t *testing.T, s impl.Schema) impl.Gram {
	t.Helper()
	g, ok := impl.SchemaGram(s)
	if !ok {
		t.Fatalf("SchemaGram of %s fails", showSchema(s))
	}
	return g
}

// schemaCfg returns the productions of a schema, which must have some.
func schemaCfg(t *testing.T, s impl.Schema) impl.Cfg {
	t.Helper()
	c, ok := impl.CfgOf(schemaGram(t, s))
	if !ok {
		t.Fatalf("CfgOf of the grammar of %s fails", showSchema(s))
	}
	return c
}

// hasSchemaGram checks the text of the grammar of a schema.
func hasSchemaGram(t *testing.T, s impl.Schema, want string) {
	t.Helper()
	if got := impl.GramWrite(schemaGram(t, s)); got != want {
		t.Errorf("%s has the grammar\n%swhich is not\n%s", showSchema(s), got, want)
	}
}

// isRead says whether a text is read as a value that satisfies the schema.
func isRead(s impl.Schema, text string) bool {
	j, ok := impl.JsonRead(text)
	return ok && impl.SchemaFits(s, j)
}

// isReadAsParsed checks that a text is a sentence of a schema's productions if and only if it is read as a value that satisfies the schema, and says whether it is. Of longer texts, which have no chart, no one can ask.
func isReadAsParsed(t *testing.T, s impl.Schema, c impl.Cfg, text string) bool {
	t.Helper()
	want := isRead(s, text)
	if len(text) > impl.ChartMax {
		return want
	}
	if got := isSentence(c, text); got != want {
		t.Fatalf("%q is a sentence of %s: %v; it satisfies it: %v", text, showSchema(s), got, want)
	}
	return want
}

// takes checks that texts are sentences of a schema, and are read as values that satisfy it.
func takes(t *testing.T, s impl.Schema, texts ...string) {
	t.Helper()
	c := schemaCfg(t, s)
	for _, text := range texts {
		if !isReadAsParsed(t, s, c, text) {
			t.Errorf("%q does not satisfy %s", text, showSchema(s))
		}
	}
}

// refuses checks that texts are no sentences of a schema, and are not read as values that satisfy it.
func refuses(t *testing.T, s impl.Schema, texts ...string) {
	t.Helper()
	c := schemaCfg(t, s)
	for _, text := range texts {
		if isReadAsParsed(t, s, c, text) {
			t.Errorf("%q satisfies %s", text, showSchema(s))
		}
	}
}

// leafSchemas returns schemas without kids, all kinds of them.
func leafSchemas() []impl.Schema {
	leaves := []impl.Schema{nullSchema(), flagSchema(), numSchema(), formSchema("")}
	for most := range 7 {
		for least := range most + 1 {
			leaves = append(leaves, textSchema(least, most))
		}
	}
	return append(leaves, oneSchema(""), oneSchema("a"), oneSchema("no", "yes"), oneSchema("a", "", "ab"), oneSchema("b", "a", "ba", "ab"), oneSchema("[]{},:|^", "-~ !'0"), oneSchema("null", "true", "12345678", "0"))
}

// allMust returns names for formSchema, with every choice of which of them are required.
func allMust(names ...string) []string {
	out := []string{""}
	for _, name := range names {
		var longer []string
		for _, before := range out {
			longer = append(longer, before+" "+name, before+" "+name+"?")
		}
		out = longer
	}
	return out
}

// namedSchemas returns valid schemas of the edge cases that the document names, not too large for a grammar.
func namedSchemas() []impl.Schema {
	out := leafSchemas()
	for most := range 7 {
		for least := range most + 1 {
			out = append(out, listSchema(least, most, flagSchema()))
		}
	}
	for count := 1; count <= 4; count++ {
		for _, names := range allMust([]string{"b", "a", "abcdefgh", "aa"}[:count]...) {
			out = append(out, formSchema(names, []impl.Schema{numSchema(), textSchema(0, 1), flagSchema(), nullSchema()}[:count]...))
		}
	}
	deep := listSchema(0, 2, listSchema(0, 1, listSchema(1, 1, nullSchema())))
	full := formSchema("a? b? c? d?", numSchema(), numSchema(), numSchema(), numSchema())
	return append(out,
		anySchema(nullSchema(), flagSchema()),
		anySchema(nullSchema(), nullSchema()),
		anySchema(numSchema(), textSchema(0, 2), listSchema(0, 0, numSchema()), formSchema("")),
		anySchema(oneSchema("a", "b"), oneSchema("b", "c"), textSchema(2, 2)),
		anySchema(listSchema(2, 3, numSchema()), listSchema(0, 1, textSchema(1, 1))),
		anySchema(anySchema(nullSchema(), numSchema()), anySchema(numSchema(), oneSchema(""))),
		anySchema(formSchema("a?", numSchema()), formSchema("a b", numSchema(), nullSchema())),
		deep,
		listSchema(6, 6, listSchema(6, 6, listSchema(6, 6, textSchema(6, 6)))),
		listSchema(0, 6, formSchema("x y?", numSchema(), flagSchema())),
		listSchema(0, 3, anySchema(nullSchema(), listSchema(0, 2, numSchema()))),
		formSchema("list? any", listSchema(1, 2, textSchema(1, 2)), anySchema(nullSchema(), oneSchema("no", "yes"))),
		formSchema("a? b? c d?", full, numSchema(), numSchema(), numSchema()),
		formSchema("a", formSchema("a", formSchema("a", formSchema("")))),
		formSchema("a?", formSchema("a?", formSchema("a?", formSchema("")))),
	)
}

// mixedSchema returns a valid schema, or one that is beyond the limits of depth or size.
func mixedSchema(below func(int) int, depth int) impl.Schema {
	if depth == 1 || below(4) == 0 {
		return mixedLeaf(below)
	}
	var kids []impl.Schema
	for range 1 + below(4) {
		kids = append(kids, mixedSchema(below, depth-1))
	}
	most := below(7)
	switch {
	case below(3) == 0:
		return listSchema(below(most+1), most, kids[0])
	case below(3) == 0 && len(kids) > 1:
		return anySchema(kids...)
	}
	names := []string{"a", "b", "ab", "abcdefgh"}
	s := formSchema("", kids...)
	for range kids {
		place := below(len(names))
		s.Names, s.Must = append(s.Names, names[place]), append(s.Must, below(2) == 0)
		names = slices.Delete(names, place, place+1)
	}
	return s
}

// mixedLeaf returns every second time a kind without fields, so that not most of them are texts.
func mixedLeaf(below func(int) int) impl.Schema {
	if kind := below(6); kind < 3 {
		return impl.Schema{Kind: 1 + kind}
	}
	leaves := leafSchemas()
	return leaves[below(len(leaves))]
}

// mixedSchemas returns so many schemas of all kinds that are valid.
func mixedSchemas(count int) []impl.Schema {
	below := numbers()
	var out []impl.Schema
	for len(out) < count {
		if s := mixedSchema(below, 1+below(4)); slowSchemaOk(s) {
			out = append(out, s)
		}
	}
	return out
}

// gramSchemas returns the named schemas and so many mixed ones, those that have a grammar.
func gramSchemas(count int) []impl.Schema {
	var out []impl.Schema
	for _, s := range append(namedSchemas(), mixedSchemas(count)...) {
		if _, ok := impl.SchemaGram(s); ok {
			out = append(out, s)
		}
	}
	return out
}

// spoilSchema changes a field of a schema or of one in it, often so that it is valid no more.
func spoilSchema(s *impl.Schema, below func(int) int) {
	all := schemasOf(s)
	one := all[below(len(all))]
	switch below(8) {
	case 0:
		one.Kind = below(10)
	case 1:
		one.Min += below(5) - 2
	case 2:
		one.Max += below(5) - 2
	case 3:
		one.Names = slices.Concat(one.Names, []string{[]string{"", "a", "b", "A", "a b", "abcdefghi", "\"", "\\", "\n", "é"}[below(10)]})
	case 4:
		one.Must = append(slices.Clone(one.Must), below(2) == 0)
	case 5:
		one.Kids = append(slices.Clone(one.Kids), nullSchema())
	case 6:
		one.Kids = nil
	case 7:
		one.Names, one.Must = nil, nil
	}
}

// changeSchema changes a schema or one in it a little, so that most values of the one are values of the other.
func changeSchema(s *impl.Schema, below func(int) int) {
	all := schemasOf(s)
	one := all[below(len(all))]
	place := below(max(len(one.Names), 1))
	switch below(9) {
	case 0:
		one.Min = max(one.Min-1, 0)
	case 1:
		one.Max++
	case 2:
		one.Min, one.Max = one.Max+1, one.Max+1
	case 3:
		*one = leafSchemas()[below(20)]
	case 4:
		if len(one.Must) > 0 {
			one.Must[place] = !one.Must[place]
		}
	case 5:
		slices.Reverse(one.Names)
	case 6:
		slices.Reverse(one.Kids)
	case 7:
		if len(one.Names) > 0 {
			one.Names[place] = []string{"a", "b", "ab", "zz"}[below(4)]
		}
	case 8:
		if len(one.Must) > 0 {
			one.Names, one.Must, one.Kids = append(one.Names, "z"), append(one.Must, below(2) == 0), append(one.Kids, nullSchema())
		}
	}
}

// fitting returns a value that satisfies a schema, if it has a row in the document's table.
func fitting(s impl.Schema, below func(int) int) impl.Json {
	size := s.Min
	if s.Max > s.Min {
		size += below(s.Max - s.Min + 1)
	}
	switch s.Kind {
	case 1:
		return nullJson()
	case 2:
		return flagJson(below(2) == 0)
	case 3:
		return numJson([]string{"0", "1", "9", "-1", "10", "-90", "1234567", "-1234567"}[below(8)])
	case 4:
		text := ""
		for range size {
			text += string(" !#,-:[]^az{}~0"[below(15)])
		}
		return textJson(text)
	case 5:
		return fittingList(s.Kids[0], size, below)
	case 6:
		return fittingForm(s, below)
	case 7:
		return fitting(s.Kids[below(len(s.Kids))], below)
	}
	return textJson(s.Names[below(len(s.Names))])
}

func fittingList(kid impl.Schema, size int, below func(int) int) impl.Json {
	j := listJson()
	for range size {
		j.Kids = append(j.Kids, fitting(kid, below))
	}
	return j
}

func fittingForm(s impl.Schema, below func(int) int) impl.Json {
	j := formJson("")
	for i, name := range s.Names {
		if s.Must[i] || below(2) == 0 {
			j.Names, j.Kids = append(j.Names, name), append(j.Kids, fitting(s.Kids[i], below))
		}
	}
	return j
}

// nearJson returns a value that satisfies a schema which is a little different, or such a value with a field changed.
func nearJson(s impl.Schema, below func(int) int) impl.Json {
	other := copySchema(s)
	changeSchema(&other, below)
	j := fitting(other, below)
	if below(4) == 0 {
		j = copyJson(j)
		spoil(&j, below)
	}
	return j
}

// eachFitting calls check with schemas that have a grammar, their productions, and so many values for each that are valid and satisfy it.
func eachFitting(t *testing.T, schemas []impl.Schema, values int, check func(s impl.Schema, c impl.Cfg, j impl.Json)) {
	t.Helper()
	below := numbers()
	count := 0
	for _, s := range schemas {
		c := schemaCfg(t, s)
		for range values {
			if j := fitting(s, below); impl.JsonOk(j) {
				check(s, c, j)
				count++
			}
		}
	}
	if count*2 < len(schemas)*values {
		t.Errorf("only %d values for %d schemas", count, len(schemas))
	}
}

// varied returns values that satisfy a schema, and others that nearly do, each valid.
func varied(s impl.Schema, count int, below func(int) int) []impl.Json {
	var out []impl.Json
	for range count {
		for _, j := range []impl.Json{fitting(s, below), nearJson(s, below), nearJson(s, below)} {
			if impl.JsonOk(j) {
				out = append(out, j)
			}
		}
	}
	return out
}
