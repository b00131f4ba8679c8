package tests

import (
	"encoding/json"
	"fmt"
	"regexp"
	"slices"
	"strings"
	"testing"

	"loop.example/fretwork/impl"
)

func nullJson() impl.Json {
	return impl.Json{Kind: impl.JsonNull}
}

func flagJson(flag bool) impl.Json {
	return impl.Json{Kind: impl.JsonFlag, Flag: flag}
}

func numJson(text string) impl.Json {
	return impl.Json{Kind: impl.JsonNum, Text: text}
}

func textJson(text string) impl.Json {
	return impl.Json{Kind: impl.JsonText, Text: text}
}

func listJson(kids ...impl.Json) impl.Json {
	return impl.Json{Kind: impl.JsonList, Kids: kids}
}

// formJson takes the names separated by blanks.
func formJson(names string, kids ...impl.Json) impl.Json {
	return impl.Json{Kind: impl.JsonForm, Names: strings.Fields(names), Kids: kids}
}

func showJson(j impl.Json) string {
	return fmt.Sprintf("%+v", j)
}

func sameJson(a, b impl.Json) bool {
	return a.Kind == b.Kind && a.Flag == b.Flag && a.Text == b.Text && slices.Equal(a.Names, b.Names) && slices.EqualFunc(a.Kids, b.Kids, sameJson)
}

func copyJson(j impl.Json) impl.Json {
	j.Names = slices.Clone(j.Names)
	var kids []impl.Json
	for _, kid := range j.Kids {
		kids = append(kids, copyJson(kid))
	}
	j.Kids = kids
	return j
}

// partsOf returns a value and all that are in it.
func partsOf(j impl.Json) []impl.Json {
	parts := []impl.Json{j}
	for _, kid := range j.Kids {
		parts = append(parts, partsOf(kid)...)
	}
	return parts
}

func depthOf(j impl.Json) int {
	depth := 0
	for _, kid := range j.Kids {
		depth = max(depth, depthOf(kid))
	}
	return depth + 1
}

// meantText returns the text of a value by the document's table, whether it is valid or not.
func meantText(j impl.Json) string {
	var kids []string
	for i, kid := range j.Kids {
		kids = append(kids, meantText(kid))
		if i < len(j.Names) {
			kids[i] = `"` + j.Names[i] + `":` + kids[i]
		}
	}
	switch j.Kind {
	case 1:
		return "null"
	case 2:
		return fmt.Sprint(j.Flag)
	case 3:
		return j.Text
	case 4:
		return `"` + j.Text + `"`
	case 5:
		return "[" + strings.Join(kids, ",") + "]"
	case 6:
		return "{" + strings.Join(kids, ",") + "}"
	}
	return ""
}

var (
	numbersMeant = regexp.MustCompile(`\A(0|-?[1-9][0-9]{0,6})\z`)
	textsMeant   = regexp.MustCompile(`\A[ !#-\[\]-~]{0,20}\z`)
	namesMeant   = regexp.MustCompile(`\A[a-z]{1,8}\z`)
)

// slowPartOk takes the row of the document's table, without what is in the kids.
func slowPartOk(j impl.Json) bool {
	used := impl.Json{Kind: j.Kind}
	isOk := true
	switch j.Kind {
	case 1:
	case 2:
		used.Flag = j.Flag
	case 3:
		used.Text, isOk = j.Text, numbersMeant.MatchString(j.Text)
	case 4:
		used.Text, isOk = j.Text, textsMeant.MatchString(j.Text)
	case 5:
		used.Kids = j.Kids
	case 6:
		used.Names, used.Kids, isOk = j.Names, j.Kids, len(j.Names) == len(j.Kids)
		seen := map[string]bool{}
		for _, name := range j.Names {
			isOk = isOk && namesMeant.MatchString(name) && !seen[name]
			seen[name] = true
		}
	default:
		return false
	}
	return isOk && sameJson(used, j)
}

// slowJsonOk takes the document's sentence, part by part.
func slowJsonOk(j impl.Json) bool {
	parts := partsOf(j)
	return !slices.ContainsFunc(parts, func(p impl.Json) bool { return !slowPartOk(p) }) &&
		depthOf(j) <= 5 && len(parts) <= 40 && len(meantText(j)) <= 300
}

// slowJsonRead reads a text by Go's own package for JSON and asks whether what was read is valid and has this text.
func slowJsonRead(text string) (impl.Json, bool) {
	decoder := json.NewDecoder(strings.NewReader(text))
	decoder.UseNumber()
	j, ok := decoded(decoder)
	if !ok || !slowJsonOk(j) || meantText(j) != text {
		return impl.Json{}, false
	}
	return j, true
}

func decoded(decoder *json.Decoder) (impl.Json, bool) {
	token, err := decoder.Token()
	if err != nil {
		return impl.Json{}, false
	}
	switch token := token.(type) {
	case bool:
		return flagJson(token), true
	case json.Number:
		return numJson(token.String()), true
	case string:
		return textJson(token), true
	case json.Delim:
		return decodedKids(decoder, token)
	}
	return nullJson(), true
}

func decodedKids(decoder *json.Decoder, opening json.Delim) (impl.Json, bool) {
	j := impl.Json{Kind: map[json.Delim]int{'[': 5, '{': 6}[opening]}
	for decoder.More() {
		if opening == '{' {
			name, err := decoder.Token()
			if err != nil {
				return impl.Json{}, false
			}
			j.Names = append(j.Names, fmt.Sprint(name))
		}
		kid, ok := decoded(decoder)
		if !ok {
			return impl.Json{}, false
		}
		j.Kids = append(j.Kids, kid)
	}
	_, err := decoder.Token()
	return j, err == nil
}

// isJson checks that a value is valid, has that text, and is read from it.
func isJson(t *testing.T, j impl.Json, text string) {
	t.Helper()
	if !impl.JsonOk(j) {
		t.Errorf("%s is not valid", showJson(j))
	}
	if got := impl.JsonWrite(j); got != text {
		t.Errorf("%s has the text %q, not %q", showJson(j), got, text)
	}
	if got, ok := impl.JsonRead(text); !ok || !sameJson(got, j) {
		t.Errorf("%q is read as %s, %v, not %s", text, showJson(got), ok, showJson(j))
	}
}

// isNoJson checks that a value is invalid and has no text.
func isNoJson(t *testing.T, j impl.Json) {
	t.Helper()
	if impl.JsonOk(j) || impl.JsonWrite(j) != "" {
		t.Errorf("%s is valid: %v, with the text %q", showJson(j), impl.JsonOk(j), impl.JsonWrite(j))
	}
}

// readsNoJson checks that JsonRead of text fails, with a zero value.
func readsNoJson(t *testing.T, text string) {
	t.Helper()
	if j, ok := impl.JsonRead(text); ok || !sameJson(j, impl.Json{}) {
		t.Errorf("%q is read as %s, %v", text, showJson(j), ok)
	}
}

// readsAsMeant checks JsonRead of text against the slow version, and says whether it succeeds.
func readsAsMeant(t *testing.T, text string) bool {
	t.Helper()
	want, isMeant := slowJsonRead(text)
	got, ok := impl.JsonRead(text)
	if ok != isMeant || !sameJson(got, want) {
		t.Fatalf("%q is read as %s, %v, not %s, %v", text, showJson(got), ok, showJson(want), isMeant)
	}
	if ok && impl.JsonWrite(got) != text {
		t.Fatalf("%q is read as %s, with the text %q", text, showJson(got), impl.JsonWrite(got))
	}
	return ok
}

// trickyTexts returns texts with the bytes that have a meaning elsewhere in a value.
func trickyTexts() []string {
	return []string{"", " ", "  a  ", "[", "]", "{", "}", ",", ":", "[]", "{}", "[1,2]", "],[", "}:{", "{a:1}", ",,,", "a:b", "null", "true", "0", "-0", "01", "'", "/", "//", "#", "!", "~", "^a-b|*+?()", strings.Repeat("[", 20), strings.Repeat("x", 20)}
}

// leafJsons returns values without elements, all kinds of them.
func leafJsons() []impl.Json {
	leaves := []impl.Json{nullJson(), flagJson(true), flagJson(false), listJson(), formJson("")}
	for _, text := range []string{"0", "1", "9", "-1", "-9", "10", "-10", "1234567", "-1234567", "9999999", "-9999999", "1000000"} {
		leaves = append(leaves, numJson(text))
	}
	for _, text := range trickyTexts() {
		leaves = append(leaves, textJson(text))
	}
	return leaves
}

// wrapped encloses a value in lists and objects, of which wraps has the opening brackets, the outermost first; padded ones have other elements around it.
func wrapped(wraps string, j impl.Json, padded bool) impl.Json {
	for _, bracket := range slices.Backward([]byte(wraps)) {
		switch {
		case bracket == '[' && padded:
			j = listJson(nullJson(), j, listJson())
		case bracket == '[':
			j = listJson(j)
		case padded:
			j = formJson("b a abcdefgh", formJson(""), j, numJson("-1"))
		default:
			j = formJson("a", j)
		}
	}
	return j
}

// manyNames returns so many different names, separated by blanks.
func manyNames(count int) string {
	var names []string
	for i := range count {
		names = append(names, strings.Repeat("z", i/26)+string(rune('a'+i%26)))
	}
	return strings.Join(names, " ")
}

// crowdsOf returns values of so many values, at least ten, in several shapes.
func crowdsOf(count int) []impl.Json {
	one := numJson("1")
	ones := func(count int) []impl.Json { return slices.Repeat([]impl.Json{one}, count) }
	var empty []impl.Json
	for i := range count - 1 {
		empty = append(empty, []impl.Json{listJson(), formJson("")}[i%2])
	}
	half := (count - 3) / 2
	return []impl.Json{
		listJson(ones(count - 1)...),
		listJson(empty...),
		formJson(manyNames(count-1), ones(count-1)...),
		listJson(listJson(ones(half)...), listJson(ones(count-3-half)...)),
		formJson("a b", listJson(ones(count-3-half)...), formJson(manyNames(half), ones(half)...)),
		listJson(listJson(listJson(listJson(ones(count - 4)...)))),
		listJson(append(ones(count-5), listJson(one, listJson(one)))...),
		listJson(append([]impl.Json{listJson(one, formJson("a", one))}, ones(count-5)...)...),
	}
}

// longsOf returns values whose texts have so many bytes, at least 200, and which end in all kinds of values.
func longsOf(size int) []impl.Json {
	var out []impl.Json
	for _, last := range []impl.Json{nullJson(), flagJson(false), numJson("0"), numJson("-1234567"), textJson(strings.Repeat("y", 20)), listJson(), listJson(numJson("1"), listJson(formJson(""))), formJson("abcdefgh a", textJson(""), flagJson(true))} {
		for _, isForm := range []bool{false, true} {
			out = append(out, longOf(size, isForm, last))
		}
	}
	return out
}

// longOf fills a list or an object up with texts ahead of the last value.
func longOf(size int, isForm bool, last impl.Json) impl.Json {
	lead := map[bool]string{true: `"za":`}[isForm]
	left := size - len("[]") - len(lead) - len(meantText(last))
	var kids []impl.Json
	for left > 0 {
		// What is left for the next text must not be less than a text without bytes takes.
		length := min(left-len(lead)-len(`"",`), 20)
		if rest := left - length - len(lead) - len(`"",`); rest > 0 && rest < len(lead)+len(`"",`) {
			length -= 10
		}
		kids = append(kids, textJson(strings.Repeat("x", length)))
		left -= length + len(lead) + len(`"",`)
	}
	kids = append(kids, last)
	if !isForm {
		return listJson(kids...)
	}
	var names string
	for i := range kids {
		names += " z" + string(rune('a'+i))
	}
	return formJson(names, kids...)
}

// validJsons returns valid values: small ones of all kinds in one another, and those at the limits.
func validJsons() []impl.Json {
	leaves := leafJsons()
	out := slices.Clone(leaves)
	for _, j := range leaves {
		for _, wraps := range textsOf("[{", 4) {
			out = append(out, wrapped(wraps, j, false), wrapped(wraps, j, true))
		}
		for _, other := range leaves {
			out = append(out, listJson(j, other), formJson("a b", j, other), formJson("b a", j, listJson(other, j)))
		}
	}
	out = append(out, crowdsOf(40)...)
	return append(out, longsOf(300)...)
}

// mixedJsons returns values of all kinds, many of them beyond a limit, or with a part that is not as it should be.
func mixedJsons(count int) []impl.Json {
	below := numbers()
	var out []impl.Json
	for range count {
		j := mixedJson(below, 2+below(5), 2+below(6))
		if below(3) == 0 {
			spoil(&j, below)
		}
		out = append(out, j)
	}
	return out
}

func mixedJson(below func(int) int, depth, width int) impl.Json {
	leaves := leafJsons()
	if depth == 1 || below(4) == 0 {
		return leaves[below(len(leaves))]
	}
	var kids []impl.Json
	for range below(width) {
		kids = append(kids, mixedJson(below, depth-1, width))
	}
	if below(2) == 0 {
		return listJson(kids...)
	}
	return formJson(manyNames(len(kids)), kids...)
}

// spoil changes a field of the value or of a value in it.
func spoil(j *impl.Json, below func(int) int) {
	if len(j.Kids) > 0 && below(3) > 0 {
		spoil(&j.Kids[below(len(j.Kids))], below)
		return
	}
	switch below(6) {
	case 0:
		j.Kind = below(9) - 1
	case 1:
		j.Flag = !j.Flag
	case 2:
		j.Text = []string{"", "0", "-0", "7", "a\"b", "\\", "\n", "12345678", strings.Repeat("1", 21)}[below(9)]
	case 3:
		j.Names = strings.Fields([]string{"", "a", "A", "a a", "a b", "abcdefghi", "a1"}[below(7)])
	case 4:
		j.Kids = append(slices.Clone(j.Kids), nullJson())
	case 5:
		j.Kids = nil
	}
}
