package tests

import (
	"slices"
	"strings"
	"testing"
	"unsafe"

	"loop.example/fretwork/impl"
)

// roomy returns a list with the given elements and capacity beyond them, which no call may write to.
func roomy(list []int) []int {
	out := append(make([]int, 0, len(list)+8), list...)
	for i := range out[:cap(out)] {
		if i >= len(list) {
			out[:cap(out)][i] = 777
		}
	}
	return out
}

func TestNoCallChangesItsVoc(t *testing.T) {
	for _, v := range append(validVocs(), invalidVocs()...) {
		pieces := append(slices.Clone(v.Pieces), "spare", "zz")
		given := impl.Voc{Pieces: pieces[:len(v.Pieces)], End: v.End}
		before := copyVoc(impl.Voc{Pieces: pieces, End: v.End})
		impl.VocOk(given)
		impl.VocText(given, []int{0, 0, v.End})
		impl.VocLong(given, "aab"+strings.Join(v.Pieces, ""))
		impl.TrieMake(given)
		if !sameVoc(impl.Voc{Pieces: pieces, End: given.End}, before) {
			t.Fatalf("%#v was changed to %q", before, pieces)
		}
	}
}

func TestTextKeepsItsTokens(t *testing.T) {
	for _, v := range namedVocs() {
		for _, ids := range [][]int{{}, {0}, {len(v.Pieces) - 1, 0, 0}, {0, -1}, {0, impl.VocMax}, slices.Repeat([]int{0}, 61)} {
			given := roomy(ids)
			before := slices.Clone(given[:cap(given)])
			impl.VocText(v, given)
			if !slices.Equal(given[:cap(given)], before) {
				t.Fatalf("%v was changed to %v", before, given[:cap(given)])
			}
		}
	}
}

func TestFindKeepsItsList(t *testing.T) {
	lists := [][]impl.Trie{impl.TrieMake(bytesVoc()), impl.TrieMake(widestVoc()), chain(300), {{Kids: []int{2, 1, 1}}, {}, {}}}
	for _, list := range lists {
		before := copyTrie(list)
		for _, text := range []string{"", "a", "ab", "bca", "zz"} {
			impl.TrieFind(list, text)
		}
		if !sameTrie(list, before) {
			t.Fatalf("%v was changed to %v", before, list)
		}
	}
}

// A text is new memory even where it has the bytes of a single token. (Texts of one byte are all the same memory in Go.)
func TestTextIsNewMemory(t *testing.T) {
	token := strings.Repeat("q", impl.VocMaxLen)
	v := impl.Voc{Pieces: []string{token, ""}, End: 1}
	for _, ids := range [][]int{{0}, {1, 0}, {0, 1}} {
		text := textOf(t, v, ids)
		if unsafe.StringData(text) == unsafe.StringData(token) {
			t.Errorf("the text of %v is the token's memory", ids)
		}
	}
}

func TestSplitIsNewMemory(t *testing.T) {
	v := bytesVoc()
	first, _ := impl.VocLong(v, "abcab")
	second, _ := impl.VocLong(v, "abcab")
	want := slices.Clone(second)
	overwrite(first)
	third, _ := impl.VocLong(v, "abcab")
	if !slices.Equal(second, want) || !slices.Equal(third, want) {
		t.Errorf("%v and %v, not %v", second, third, want)
	}
}

// overwrite writes to all memory of a list, to its capacity.
func overwrite(list []int) {
	for i := range list[:cap(list)] {
		list[:cap(list)][i] = -99
	}
}

// No list of a trie shares memory with another one, so writing to one changes no other.
func TestTrieListsShareNoMemory(t *testing.T) {
	for _, v := range namedVocs() {
		before := copyVoc(v)
		list, other := impl.TrieMake(v), impl.TrieMake(v)
		want := copyTrie(list)
		for node := range list {
			for kind := range 2 {
				changed := impl.TrieMake(v)
				if kind == 0 {
					overwrite(changed[node].Kids)
					changed[node].Kids = want[node].Kids
				} else {
					overwrite(changed[node].Ids)
					changed[node].Ids = want[node].Ids
				}
				if !sameTrie(changed, want) {
					t.Fatalf("%#v: lists of node %d share memory", v, node)
				}
			}
		}
		clear(list[:cap(list)])
		if !sameTrie(other, want) || !sameTrie(impl.TrieMake(v), want) || !sameVoc(v, before) {
			t.Fatalf("%#v: two answers share memory", v)
		}
	}
}

// What a call answers does not depend on the calls before it.
func TestNothingIsKept(t *testing.T) {
	v := bytesVoc()
	want := copyTrie(impl.TrieMake(v))
	wantIds, _ := impl.VocLong(v, "bcaab")
	for _, other := range append(invalidVocs(), namedVocs()...) {
		impl.TrieMake(other)
		impl.VocLong(other, "bcaab")
		impl.VocText(other, []int{0})
		ids, ok := impl.VocLong(v, "bcaab")
		if !ok || !slices.Equal(ids, wantIds) || !sameTrie(impl.TrieMake(v), want) {
			t.Fatalf("after %#v: %v, %v", other, ids, ok)
		}
	}
}
