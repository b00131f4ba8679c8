package tests

import (
	"slices"
	"strings"
	"testing"

	"loop.example/fretwork/impl"
)

func TestVocOk(t *testing.T) {
	for _, v := range validVocs() {
		if !impl.VocOk(v) {
			t.Errorf("VocOk(%#v) is false", v)
		}
	}
	for _, v := range invalidVocs() {
		if impl.VocOk(v) {
			t.Errorf("VocOk(%#v) is true", v)
		}
	}
}

func TestVocOkLimits(t *testing.T) {
	if impl.VocMax != 40 || impl.VocMaxLen != 6 || impl.VocIds != 60 {
		t.Fatal("the constants are not those of the document")
	}
	for n := range 50 {
		for end := -3; end < 50; end++ {
			v := impl.Voc{Pieces: slices.Repeat([]string{"x"}, n), End: end}
			want := n >= 1 && n <= 40 && end >= -1 && end < n
			if impl.VocOk(v) != want {
				t.Errorf("%d tokens, end %d: not %v", n, end, want)
			}
		}
	}
	for length := range 10 {
		for at := range 3 {
			v := impl.Voc{Pieces: []string{"a", "b", "c"}, End: -1}
			v.Pieces[at] = strings.Repeat("\xc3", length)
			if impl.VocOk(v) != (length <= 6) {
				t.Errorf("token %d of %d bytes", at, length)
			}
		}
	}
}

// P1: the text of tokens is that of the first ones followed by that of the rest.
func TestP1TextOfParts(t *testing.T) {
	for _, v := range namedVocs() {
		var ids []int
		for i := range impl.VocIds {
			ids = append(ids, (i*i+i/3)%len(v.Pieces))
		}
		whole := textOf(t, v, ids)
		for cut := range len(ids) + 1 {
			if first, rest := textOf(t, v, ids[:cut]), textOf(t, v, ids[cut:]); first+rest != whole {
				t.Fatalf("%#v, cut at %d: %q and %q are not %q", v, cut, first, rest, whole)
			}
		}
	}
}

// P1: single tokens have their bytes, so by parts every text is determined.
func TestP1TextOfOneToken(t *testing.T) {
	for _, v := range validVocs() {
		for id, token := range v.Pieces {
			if id == v.End {
				token = ""
			}
			if got := textOf(t, v, []int{id}); got != token {
				t.Errorf("%#v: token %d is %q", v, id, got)
			}
		}
		if textOf(t, v, nil) != "" || textOf(t, v, []int{}) != "" {
			t.Errorf("%#v: no tokens have a text", v)
		}
	}
}

func TestTextOrdinary(t *testing.T) {
	v := impl.Voc{Pieces: []string{"he", "llo", " ", "end", "", "\xff\x00"}, End: 3}
	for _, c := range []struct {
		ids  []int
		want string
	}{
		{[]int{0, 1}, "hello"},
		{[]int{1, 0}, "llohe"},
		{[]int{0, 1, 2, 0, 1, 3}, "hello hello"},
		{[]int{3, 0, 3, 3, 1}, "hello"},
		{[]int{4, 0, 4}, "he"},
		{[]int{5, 5}, "\xff\x00\xff\x00"},
		{[]int{3}, ""},
	} {
		if got := textOf(t, v, c.ids); got != c.want {
			t.Errorf("%v is %q, not %q", c.ids, got, c.want)
		}
	}
}

// P5: the end token has no bytes, wherever it stands, though equal tokens have.
func TestP5EndHasNoBytes(t *testing.T) {
	for _, v := range validVocs() {
		if v.End < 0 {
			continue
		}
		if textOf(t, v, []int{v.End, v.End, v.End}) != "" {
			t.Errorf("%#v: the end token has bytes", v)
		}
		for id := range v.Pieces {
			if textOf(t, v, []int{v.End, id, v.End, id}) != textOf(t, v, []int{id, id}) {
				t.Errorf("%#v: the end token adds to token %d", v, id)
			}
		}
	}
	v := impl.Voc{Pieces: []string{"ab", "ab", "ab"}, End: 1}
	if got := textOf(t, v, []int{0, 1, 2}); got != "abab" {
		t.Errorf("of three equal tokens, the middle one the end: %q", got)
	}
	v.End = -1
	if got := textOf(t, v, []int{0, 1, 2}); got != "ababab" {
		t.Errorf("of three equal tokens, none the end: %q", got)
	}
}

// P10: tokens that do not exist have no text, wherever they stand.
func TestP10NoSuchToken(t *testing.T) {
	for _, v := range namedVocs() {
		for _, bad := range []int{-1, -2, len(v.Pieces), len(v.Pieces) + 1, impl.VocMax, impl.VocMax + 1, 1 << 62, -1 << 63} {
			if bad >= 0 && bad < len(v.Pieces) {
				continue
			}
			for _, ids := range [][]int{{bad}, {0, bad}, {bad, 0}, {0, bad, 0}, {bad, bad}} {
				if text, ok := impl.VocText(v, ids); ok || text != "" {
					t.Errorf("VocText(%#v, %v) = %q, %v", v, ids, text, ok)
				}
			}
		}
	}
}

// Without an end token, -1 is a token that does not exist, not the end.
func TestP10NoEndToken(t *testing.T) {
	v := impl.Voc{Pieces: []string{"a"}, End: -1}
	if text, ok := impl.VocText(v, []int{0, -1}); ok || text != "" {
		t.Errorf("%q, %v", text, ok)
	}
}

func TestTextOfTooManyTokens(t *testing.T) {
	for _, v := range namedVocs() {
		for id := range v.Pieces {
			if text, ok := impl.VocText(v, slices.Repeat([]int{id}, impl.VocIds+1)); ok || text != "" {
				t.Errorf("%#v: %d times token %d is %q, %v", v, impl.VocIds+1, id, text, ok)
			}
			one := textOf(t, v, []int{id})
			if textOf(t, v, slices.Repeat([]int{id}, impl.VocIds)) != strings.Repeat(one, impl.VocIds) {
				t.Errorf("%#v: %d times token %d", v, impl.VocIds, id)
			}
		}
	}
}

func TestTextOfInvalidVoc(t *testing.T) {
	for _, v := range invalidVocs() {
		for _, ids := range [][]int{nil, {}, {0}, {-1}, {1}, {0, 0}, {v.End}, slices.Repeat([]int{0}, 100)} {
			if text, ok := impl.VocText(v, ids); ok || text != "" {
				t.Errorf("VocText(%#v, %v) = %q, %v", v, ids, text, ok)
			}
		}
	}
}
