package tests

import (
	"slices"
	"strings"
	"testing"

	"loop.example/fretwork/impl"
)

// splitByLength splits as the document says it, by lengths instead of by tokens.
func splitByLength(v impl.Voc, text string) ([]int, bool) {
	var ids []int
	for text != "" {
		size := min(len(text), impl.VocMaxLen)
		for size > 0 && len(plainEqual(v, text[:size])) == 0 {
			size--
		}
		if size == 0 {
			return nil, false
		}
		ids = append(ids, plainEqual(v, text[:size])[0])
		text = text[size:]
	}
	if len(ids) > impl.VocIds {
		return nil, false
	}
	return ids, true
}

// checkSplit holds VocLong of a text against the reference, and P2 and P3 against its answer.
func checkSplit(t *testing.T, v impl.Voc, text string) {
	t.Helper()
	ids, ok := impl.VocLong(v, text)
	want, wantOk := splitByLength(v, text)
	if ok != wantOk || !slices.Equal(ids, want) {
		t.Fatalf("VocLong(%#v, %q) = %v, %v, not %v, %v", v, text, ids, ok, want, wantOk)
	}
	if !ok {
		return
	}
	if textOf(t, v, ids) != text {
		t.Fatalf("VocLong(%#v, %q) = %v is another text", v, text, ids)
	}
	rest := text
	for _, id := range ids {
		for other, token := range v.Pieces {
			if plain(v, other) && strings.HasPrefix(rest, token) && len(token) > len(v.Pieces[id]) {
				t.Fatalf("VocLong(%#v, %q) = %v: token %d is longer", v, text, ids, other)
			}
		}
		if !plain(v, id) || plainEqual(v, v.Pieces[id])[0] != id {
			t.Fatalf("VocLong(%#v, %q) = %v: token %d is not plain or not the first", v, text, ids, id)
		}
		rest = rest[len(v.Pieces[id]):]
	}
}

// P2, P3: all short texts in all small vocabularies.
func TestP2P3SplitSmall(t *testing.T) {
	texts := textsOf("ab\x00\xff", 4)
	for _, v := range smallVocs() {
		for _, text := range texts {
			checkSplit(t, v, text)
		}
	}
}

// P2, P3: texts that are made of tokens, in the vocabularies of the edge cases.
func TestP2P3SplitTokens(t *testing.T) {
	for _, v := range namedVocs() {
		for first := range v.Pieces {
			for second := range v.Pieces {
				text := v.Pieces[first] + v.Pieces[second]
				checkSplit(t, v, text)
				checkSplit(t, v, text+text)
				checkSplit(t, v, text[:max(len(text)-1, 0)])
			}
		}
	}
}

// P2: the longest one is taken even if the rest cannot be split then.
func TestP2LongestIsTaken(t *testing.T) {
	v := impl.Voc{Pieces: []string{"a", "ab", "bc", "abcdef", "ef"}, End: -1}
	for _, c := range []struct {
		text string
		want []int
		ok   bool
	}{
		{"", nil, true},
		{"a", []int{0}, true},
		{"ab", []int{1}, true},
		{"aab", []int{0, 1}, true},
		{"abc", nil, false},
		{"aabc", nil, false},
		{"bcabef", []int{2, 1, 4}, true},
		{"abcdef", []int{3}, true},
		{"abcde", nil, false},
		{"abcdefa", []int{3, 0}, true},
		{"abx", nil, false},
		{"x", nil, false},
		{"xab", nil, false},
	} {
		ids, ok := impl.VocLong(v, c.text)
		if ok != c.ok || !slices.Equal(ids, c.want) {
			t.Errorf("%q: %v, %v, not %v, %v", c.text, ids, ok, c.want, c.ok)
		}
	}
}

// P3: of equal tokens the first is taken, and never the end token or an empty one.
func TestP3FirstOfEqual(t *testing.T) {
	for _, c := range []struct {
		pieces []string
		end    int
		text   string
		want   []int
		ok     bool
	}{
		{[]string{"a", "a", "a"}, -1, "aa", []int{0, 0}, true},
		{[]string{"a", "a", "a"}, 0, "aa", []int{1, 1}, true},
		{[]string{"a", "a", "a"}, 1, "aa", []int{0, 0}, true},
		{[]string{"", "b", "ab", "ab"}, -1, "abb", []int{2, 1}, true},
		{[]string{"", "b", "ab", "ab"}, 2, "abb", []int{3, 1}, true},
		{[]string{"a"}, 0, "a", nil, false},
		{[]string{"a", ""}, 0, "a", nil, false},
		{[]string{"", ""}, -1, "a", nil, false},
		{[]string{"", ""}, 1, "", nil, true},
		// The end token is longer than the one that is taken.
		{[]string{"ab", "a", "b"}, 0, "abab", []int{1, 2, 1, 2}, true},
		// The end token is a prefix of the one that is taken.
		{[]string{"a", "ab"}, 0, "abab", []int{1, 1}, true},
		{[]string{"a", "ab"}, 0, "aba", nil, false},
	} {
		v := impl.Voc{Pieces: c.pieces, End: c.end}
		ids, ok := impl.VocLong(v, c.text)
		if ok != c.ok || !slices.Equal(ids, c.want) {
			t.Errorf("VocLong(%#v, %q) = %v, %v, not %v, %v", v, c.text, ids, ok, c.want, c.ok)
		}
	}
}

// P4: a text of bytes that are tokens can be split if it has at most VocIds bytes.
func TestP4BytesCanBeSplit(t *testing.T) {
	v := bytesVoc()
	for _, text := range textsOf("abc", 5) {
		if _, ok := impl.VocLong(v, text); !ok {
			t.Errorf("%q", text)
		}
		if text == "" {
			continue
		}
		long := strings.Repeat(text, impl.VocIds)[:impl.VocIds]
		for size := range impl.VocIds + 1 {
			if _, ok := impl.VocLong(v, long[:size]); !ok {
				t.Errorf("%q", long[:size])
			}
		}
	}
}

// P4: every byte can be a token.
func TestP4EveryByte(t *testing.T) {
	for low := 0; low < 256; low += impl.VocMax {
		v := impl.Voc{End: -1}
		var text []byte
		for b := low; b < min(low+impl.VocMax, 256); b++ {
			v.Pieces = append(v.Pieces, string([]byte{byte(b)}))
			text = append(text, byte(b))
		}
		ids, ok := impl.VocLong(v, string(text))
		if !ok || len(ids) != len(text) {
			t.Fatalf("from byte %d: %v, %v", low, ids, ok)
		}
		for i, id := range ids {
			if i != id {
				t.Errorf("byte %d is token %d", low+i, id)
			}
		}
	}
}

// Exactly VocIds tokens are enough, one more is too many, whatever the tokens' length.
func TestSplitIntoVocIds(t *testing.T) {
	for size := 1; size <= impl.VocMaxLen; size++ {
		token := strings.Repeat("q", size)
		v := impl.Voc{Pieces: []string{"", "qqqqqq", token}, End: 1}
		ids, ok := impl.VocLong(v, strings.Repeat(token, impl.VocIds))
		if !ok || !slices.Equal(ids, slices.Repeat([]int{2}, impl.VocIds)) {
			t.Errorf("%d bytes each: %v, %v", size, ids, ok)
		}
		for _, more := range []int{1, 2, 1000} {
			ids, ok = impl.VocLong(v, strings.Repeat(token, impl.VocIds+more))
			if ok || len(ids) != 0 {
				t.Errorf("%d bytes each, %d too many: %v, %v", size, more, ids, ok)
			}
		}
	}
}

func TestSplitOfWidestVoc(t *testing.T) {
	v := widestVoc()
	var want []int
	for i := range impl.VocIds {
		want = append(want, (i*7)%impl.VocMax)
	}
	text := textOf(t, v, want)
	ids, ok := impl.VocLong(v, text)
	if len(text) != impl.VocIds*impl.VocMaxLen || !ok || !slices.Equal(ids, want) {
		t.Errorf("%v, %v", ids, ok)
	}
	if ids, ok = impl.VocLong(v, text+v.Pieces[0]); ok || len(ids) != 0 {
		t.Errorf("one more: %v, %v", ids, ok)
	}
	if ids, ok = impl.VocLong(v, text[:len(text)-1]); ok || len(ids) != 0 {
		t.Errorf("one byte less: %v, %v", ids, ok)
	}
}

func TestSplitOfInvalidVoc(t *testing.T) {
	for _, v := range invalidVocs() {
		for _, text := range []string{"", "a", "aa", "b", "1234567", strings.Repeat("a", 1000)} {
			if ids, ok := impl.VocLong(v, text); ok || len(ids) != 0 {
				t.Errorf("VocLong(%#v, %q) = %v, %v", v, text, ids, ok)
			}
		}
	}
}
