package tests

import (
	"regexp"
	"slices"
	"strings"
	"testing"

	"loop.example/fretwork/impl"
)

func TestTextsOfValues(t *testing.T) {
	one, two := numJson("1"), numJson("-20")
	for _, c := range []struct {
		value impl.Json
		want  string
	}{
		{nullJson(), `null`},
		{flagJson(true), `true`},
		{flagJson(false), `false`},
		{numJson("0"), `0`},
		{numJson("-7"), `-7`},
		{numJson("1234567"), `1234567`},
		{textJson(""), `""`},
		{textJson("a b"), `"a b"`},
		{textJson("null"), `"null"`},
		{listJson(), `[]`},
		{listJson(one), `[1]`},
		{listJson(one, two), `[1,-20]`},
		{listJson(one, listJson(two), formJson("")), `[1,[-20],{}]`},
		{listJson(listJson(), listJson()), `[[],[]]`},
		{listJson(nullJson(), flagJson(true), flagJson(false), one, textJson("a"), listJson(one), formJson("a", one)), `[null,true,false,1,"a",[1],{"a":1}]`},
		{formJson(""), `{}`},
		{formJson("a", one), `{"a":1}`},
		{formJson("a b", one, two), `{"a":1,"b":-20}`},
		{formJson("b a", one, two), `{"b":1,"a":-20}`},
		{formJson("abcdefgh", nullJson()), `{"abcdefgh":null}`},
		{formJson("a bb", listJson(), formJson("a", nullJson())), `{"a":[],"bb":{"a":null}}`},
		{formJson("f t n s l o", flagJson(false), flagJson(true), two, textJson(":"), listJson(one), formJson("")), `{"f":false,"t":true,"n":-20,"s":":","l":[1],"o":{}}`},
	} {
		isJson(t, c.value, c.want)
	}
}

func TestInvalidValuesHaveNoText(t *testing.T) {
	for _, j := range []impl.Json{
		{},
		{Kind: 7},
		{Kind: impl.JsonNull, Flag: true},
		{Kind: impl.JsonFlag, Text: "true"},
		{Kind: impl.JsonNum},
		numJson("-0"),
		numJson("12345678"),
		textJson("\""),
		textJson("\n"),
		textJson(strings.Repeat("a", 21)),
		{Kind: impl.JsonList, Names: []string{"a"}},
		{Kind: impl.JsonForm, Names: []string{"a"}},
		formJson("a a", nullJson(), nullJson()),
		formJson("A", nullJson()),
		listJson(impl.Json{}),
		formJson("a", impl.Json{}),
		crowdsOf(41)[0],
		longsOf(301)[0],
		wrapped("[[[[[", nullJson(), false),
	} {
		isNoJson(t, j)
	}
}

func TestP80ValuesAreReadBack(t *testing.T) {
	count := 0
	for _, j := range append(validJsons(), mixedJsons(10000)...) {
		if !impl.JsonOk(j) {
			continue
		}
		isJson(t, j, meantText(j))
		count++
	}
	if count < 8000 {
		t.Errorf("only %d values are valid", count)
	}
}

// Two different values never have the same text.
func TestP81NoTwoValuesHaveOneText(t *testing.T) {
	found := map[string]impl.Json{}
	for _, j := range append(validJsons(), mixedJsons(5000)...) {
		if !impl.JsonOk(j) {
			continue
		}
		text := impl.JsonWrite(j)
		if other, ok := found[text]; ok && !sameJson(other, j) {
			t.Fatalf("%s and %s have the text %q", showJson(j), showJson(other), text)
		}
		found[text] = j
	}
}

func TestP83NoBlanksOutsideQuotationMarks(t *testing.T) {
	quoted := regexp.MustCompile(`"[^"]*"`)
	inQuotes := 0
	for _, j := range append(validJsons(), mixedJsons(5000)...) {
		text := impl.JsonWrite(j)
		if strings.ContainsAny(quoted.ReplaceAllString(text, ""), " \t\r\n\v\f\u00a0") {
			t.Fatalf("%s has the text %q", showJson(j), text)
		}
		if strings.Contains(text, " ") {
			inQuotes++
		}
	}
	if inQuotes < 100 {
		t.Errorf("only %d texts have blanks within quotation marks", inQuotes)
	}
}

func TestP86KindsStartWithDifferentBytes(t *testing.T) {
	starts := map[int]string{impl.JsonNull: "n", impl.JsonFlag: "tf", impl.JsonNum: "-0123456789", impl.JsonText: `"`, impl.JsonList: "[", impl.JsonForm: "{"}
	found := map[int]string{}
	for _, j := range append(validJsons(), mixedJsons(5000)...) {
		text := impl.JsonWrite(j)
		if text == "" {
			continue
		}
		if !strings.Contains(starts[j.Kind], text[:1]) {
			t.Fatalf("%s has the text %q", showJson(j), text)
		}
		if !strings.Contains(found[j.Kind], text[:1]) {
			found[j.Kind] += text[:1]
		}
		if read, ok := impl.JsonRead(text); !ok || read.Kind != j.Kind {
			t.Fatalf("%q is read as %s, %v", text, showJson(read), ok)
		}
	}
	for b := range 10 {
		for _, sign := range []string{"", "-"} {
			if text := sign + string(rune('0'+b)); text != "-0" {
				isJson(t, numJson(text), text)
			}
		}
	}
	for kind, want := range starts {
		if kind != impl.JsonNum && !sameBytes(found[kind], want) {
			t.Errorf("texts of kind %d start with %q, not %q", kind, found[kind], want)
		}
	}
}

func sameBytes(a, b string) bool {
	return slices.Equal(slices.Sorted(slices.Values([]byte(a))), slices.Sorted(slices.Values([]byte(b))))
}

// No text that starts with another byte is read.
func TestP86NoValueStartsWithOtherBytes(t *testing.T) {
	for b := range 256 {
		first := string([]byte{byte(b)})
		for _, rest := range []string{"", "ull", "rue", "alse", "1", "0", "]", "}", `"`, `a"`, "1]", `"a":1}`} {
			readsAsMeant(t, first+rest)
			if !strings.Contains(`ntf-0123456789"[{`, first) {
				readsNoJson(t, first+rest)
			}
		}
	}
}
