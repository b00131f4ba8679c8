package tests

import (
	"strings"
	"testing"

	"loop.example/fretwork/impl"
)

func TestReadsNoMalformedTexts(t *testing.T) {
	for _, text := range []string{
		"", "n", "nul", "nulll", "nullnull", "Null", "NULL", "null,", "tru", "truefalse", "True", "TRUE", "fals", "falsee", "False", "undefined", "NaN",
		"-", "-0", "00", "01", "-01", "+1", "--1", "1-", "1-1", "12345678", "-12345678", "1.0", ".1", "1e1", "1,", "1,2", ",1", "0x1", "1]", "1}", "1null", "1[]", "-a",
		`"`, `"a`, `a"`, `a`, `'a'`, `""a`, `a""`, `"a""`, `"""`, `""""`, `"a"b"`, `"\""`, `"\\"`, `"\n"`, `"\u0041"`, "\"\n\"", "\"\t\"", "\"\x00\"", "\"\x7f\"", "\"é\"", `"aaaaaaaaaaaaaaaaaaaaa"`,
		"[", "]", "[1", "1]", "[[]", "[]]", "[,]", "[1,]", "[,1]", "[1,,2]", "[1;2]", "[1 2]", "[1][2]", "[]1", "[1}", "[}", "[1,2", `[1,2,"]`, "[a]", "[-0]", "[01]", "[12345678]", "[null", "[nul]", "[true,fals]", `["]`, `["a]`, "[:]", `["a":1]`, "(1)", "[[[[[1]]]]]", "[[[[[[]]]]]]",
		"{", "}", "{}}", "{{}}", "{]", "{,}", "{1}", "{:}", `{"a"}`, `{"a":}`, `{:1}`, `{"a":1`, `{"a":1,}`, `{,"a":1}`, `{"a":1,,"b":2}`, `{"a":1;"b":2}`, `{"a":1 "b":2}`, `{"a":1"b":2}`, `{"a"1}`, `{"a"::1}`, `{"a":1:2}`, `{"a",1}`, `{a:1}`, `{'a':1}`, `{a":1}`, `{"a:1}`, `{""a":1}`, `{"a"":1}`, `{"":1}`, `{"A":1}`, `{"a1":1}`, `{"a b":1}`, `{"abcdefghi":1}`, `{"a":1,"a":2}`, `{"a":1,"a":1}`, `{"a":1,"b":2,"a":3}`, `{"a":{"b":1,"b":1}}`, `{1:1}`, `{null:1}`, `{"a":-0}`, `{"a":[}`, `{"a":[1}]`, `{"a":1}]`, `{"a":1]`, `{"a":{"a":{"a":{"a":{"a":1}}}}}`,
		"/**/1", "1//", "\ufeff1", "\x001", "1\x00",
	} {
		readsNoJson(t, text)
		if readsAsMeant(t, text) {
			t.Errorf("%q is read by the slow version", text)
		}
	}
}

// All texts of the bytes of numbers and lists, of objects, of texts, and of words, up to a length.
func TestP81AllShortTextsAreReadAsMeant(t *testing.T) {
	for _, c := range []struct {
		start, alphabet string
		most            int
	}{
		{"", "[],01-", 6},
		{"", "[]{}\",:a1 ", 4},
		{"{", "}\":,a1", 6},
		{`{"a":`, "}{\":,a", 6},
		{"", "nultrefas", 5},
		{"[", "tru]e,", 6},
		{`"`, "\"[]{}:,\\ a", 4},
		{`["`, "\"[],a", 6},
		{"1", "01-,. e", 5},
		{"-", "01-,. e", 5},
	} {
		seen := map[bool]int{}
		for _, text := range textsOf(c.alphabet, c.most) {
			seen[readsAsMeant(t, c.start+text)]++
		}
		if seen[true] < 1 {
			t.Errorf("of %q and bytes of %q, %v", c.start, c.alphabet, seen)
		}
	}
}

// All sequences of longer pieces up to a length, so that names, commas and brackets are in all orders.
func TestP81PiecesInAllOrdersAreReadAsMeant(t *testing.T) {
	pieces := []string{`{"a":`, `,"b":`, `,"a":`, `}`, `[`, `]`, `,`, `1`, `"x"`, `{`}
	seen := map[bool]int{}
	texts := []string{""}
	for range 5 {
		var longer []string
		for _, text := range texts {
			for _, piece := range pieces {
				seen[readsAsMeant(t, text+piece)]++
				longer = append(longer, text+piece)
			}
		}
		texts = longer
	}
	hasSeen(t, seen, 30)
}

// changeableTexts returns texts of valid values, some of them at the limits.
func changeableTexts() []string {
	return []string{
		`null`, `true`, `false`, `0`, `-7`, `1234567`, `""`, `"a b"`, `"[1,{}]"`, `[]`, `{}`,
		`[1,[2],{}]`, `[null,true,-10,"x"]`, `{"a":[],"bb":{"a":null}}`, `{"ab":"}","b":","}`, `[[[[1]]]]`, `[{"a":[{"b":""}]}]`,
		`"aaaaaaaaaaaaaaaaaaaa"`, `{"abcdefgh":false}`, `[" ",",",":"]`,
	}
}

// A byte more, a byte less and a byte changed: what is read then is what has that text.
func TestP81ChangedTextsAreReadAsMeant(t *testing.T) {
	seen := map[bool]int{}
	for _, text := range changeableTexts() {
		if !readsAsMeant(t, text) {
			t.Errorf("%q is not read", text)
		}
		for i := range len(text) + 1 {
			for b := range 256 {
				one := string([]byte{byte(b)})
				seen[readsAsMeant(t, text[:i]+one+text[i:])]++
				if i < len(text) {
					seen[readsAsMeant(t, text[:i]+one+text[i+1:])]++
				}
			}
			if i < len(text) {
				seen[readsAsMeant(t, text[:i]+text[i+1:])]++
			}
		}
	}
	hasSeen(t, seen, 3000)
}

func TestP81TextsOfMixedValuesAreReadAsMeant(t *testing.T) {
	seen := map[bool]int{}
	for _, j := range mixedJsons(10000) {
		text := meantText(j)
		seen[readsAsMeant(t, text)]++
		if got, ok := impl.JsonRead(text); impl.JsonOk(j) && (!ok || !sameJson(got, j)) {
			t.Fatalf("%q is read as %s, %v, not %s", text, showJson(got), ok, showJson(j))
		}
	}
	hasSeen(t, seen, 1000)
}

// Only of a number a proper beginning can be a value.
func TestBeginningsOfTextsAreNotRead(t *testing.T) {
	for i, j := range validJsons() {
		if i%7 != 0 && len(j.Kids) > 0 {
			continue
		}
		text := impl.JsonWrite(j)
		for end := range len(text) {
			if j.Kind != impl.JsonNum {
				readsNoJson(t, text[:end])
			} else {
				readsAsMeant(t, text[:end])
			}
		}
	}
}

// Of a text with something behind it, only a number is a value, and only if more digits follow.
func TestNothingIsReadBehindAValue(t *testing.T) {
	for _, j := range leafJsons() {
		text := impl.JsonWrite(j)
		for _, other := range []string{"a", "1", "0", "-", "-1", "null", "true", `"`, `""`, "[", "]", "[]", "{", "}", "{}", ",", ",1", ":", ":1", " ", "\n", "\x00", text} {
			if j.Kind != impl.JsonNum {
				readsNoJson(t, text+other)
			} else {
				readsAsMeant(t, text+other)
			}
		}
	}
}

func TestTextsWithBlanksAreNotRead(t *testing.T) {
	for _, text := range changeableTexts() {
		inQuotes := false
		for i := range len(text) + 1 {
			for _, blank := range []string{" ", "  ", "\t", "\n", "\r", "\r\n", "\v", "\f", "\u00a0", "\ufeff"} {
				padded := text[:i] + blank + text[i:]
				if blank == " " && inQuotes {
					readsAsMeant(t, padded)
				} else if blank != "  " || !inQuotes {
					readsNoJson(t, padded)
				}
			}
			if i < len(text) && text[i] == '"' {
				inQuotes = !inQuotes
			}
		}
	}
	isJson(t, listJson(textJson(" "), textJson("  a ")), `[" ","  a "]`)
	for _, text := range []string{" 1", "1 ", "[1 ,2]", "[1, 2]", "[ 1]", "[1 ]", "[ ]", "{ }", `{"a" :1}`, `{"a": 1}`, `{ "a":1}`, `{"a":1 }`, `{" a":1}`, `{"a ":1}`, `{"a":1, "b":2}`, "- 1", "1 2", "tr ue", "n ull"} {
		readsNoJson(t, text)
	}
}

// Reading ends in time, and without a panic, however many brackets there are.
func TestVeryLongTextsAreNotRead(t *testing.T) {
	for _, piece := range []string{"[", "]", "{", "}", `"`, ",", ":", "1", "0", "-", " ", "a", "[]", "[1,", `{"a":`, `{"a":1,`, `"a"`, "\x00"} {
		for _, times := range []int{10, 40, 100, 299, 300, 301, 302, 1000, 3000000} {
			text := strings.Repeat(piece, times)
			if j, ok := impl.JsonRead(text); ok || !sameJson(j, impl.Json{}) {
				t.Errorf("%d times %q is read, %v", times, piece, ok)
			}
		}
	}
	// A value with blanks up to the limit of bytes, and beyond it.
	for _, size := range []int{299, 300, 301} {
		readsNoJson(t, strings.Repeat(" ", size-1)+"1")
		readsNoJson(t, "1"+strings.Repeat(" ", size-1))
	}
}
