package tests

import (
	"slices"
	"strings"
	"testing"

	"loop.example/fretwork/impl"
)

// walk returns the strings of the nodes, by index, as they are reached from the first one, and the order in which they are reached.
func walk(t *testing.T, list []impl.Trie) (map[int]string, []int) {
	t.Helper()
	texts := map[int]string{}
	var order []int
	var visit func(node int, text string)
	visit = func(node int, text string) {
		if _, again := texts[node]; again || node < 0 || node >= len(list) {
			t.Fatalf("node %d is reached twice or does not exist: %v", node, list)
		}
		texts[node] = text
		order = append(order, node)
		for _, kid := range list[node].Kids {
			if kid < 0 || kid >= len(list) || list[kid].Byte < 0 || list[kid].Byte > 255 {
				t.Fatalf("kid %d of node %d: %v", kid, node, list)
			}
			visit(kid, text+string([]byte{byte(list[kid].Byte)}))
		}
	}
	if len(list) > 0 {
		visit(0, "")
	}
	return texts, order
}

// P6: every plain token is found where it ends, and no other one is.
func TestP6TokensAreFound(t *testing.T) {
	texts := append(textsOf("ab\x00\xff", 4), "aaaaaa", "aaaaaaa", "abc", "abcd", "abcde")
	for _, v := range validVocs() {
		list := impl.TrieMake(v)
		for id, token := range v.Pieces {
			node := impl.TrieFind(list, token)
			if plain(v, id) && (node < 1 || !slices.Contains(list[node].Ids, id)) {
				t.Fatalf("%#v: token %d is not at node %d of %v", v, id, node, list)
			}
		}
		for _, text := range append(texts, v.Pieces...) {
			node := impl.TrieFind(list, text)
			if node < 0 && isPrefix(v, text) {
				t.Fatalf("%#v: %q is not in %v", v, text, list)
			}
			if node >= 0 && !slices.Equal(list[node].Ids, plainEqual(v, text)) {
				t.Fatalf("%#v: %q has %v in %v", v, text, list[node].Ids, list)
			}
		}
	}
}

// P7: exactly the prefixes of plain tokens, and the empty string, are in the trie.
func TestP7Prefixes(t *testing.T) {
	for _, v := range validVocs() {
		want := map[string]bool{"": true}
		for id, token := range v.Pieces {
			for size := range len(token) + 1 {
				if plain(v, id) {
					want[token[:size]] = true
				}
			}
		}
		list := impl.TrieMake(v)
		texts, _ := walk(t, list)
		if len(texts) != len(want) || len(list) != len(want) {
			t.Fatalf("%#v: %d nodes, %d reached, not %d", v, len(list), len(texts), len(want))
		}
		for node, text := range texts {
			if !want[text] {
				t.Fatalf("%#v: %q is no prefix", v, text)
			}
			if impl.TrieFind(list, text) != node {
				t.Fatalf("%#v: %q is not found at %d in %v", v, text, node, list)
			}
		}
	}
}

// P7: what is no prefix is not found.
func TestP7OthersAreNotFound(t *testing.T) {
	texts := textsOf("abc\xff\x00", 4)
	for _, v := range validVocs() {
		list := impl.TrieMake(v)
		for _, text := range texts {
			if (impl.TrieFind(list, text) >= 0) != isPrefix(v, text) {
				t.Fatalf("%#v: %q is at %d in %v", v, text, impl.TrieFind(list, text), list)
			}
		}
		for _, token := range v.Pieces {
			if impl.TrieFind(list, token+strings.Repeat("a", impl.VocMaxLen+1)) >= 0 {
				t.Fatalf("%#v: too long a text is found in %v", v, list)
			}
		}
	}
}

// P8: each node but the first has exactly one parent, which precedes it; children are ordered by byte; and the list is in preorder.
func TestP8Order(t *testing.T) {
	for _, v := range validVocs() {
		list := impl.TrieMake(v)
		parents := make([]int, len(list))
		for node, n := range list {
			for i, kid := range n.Kids {
				if kid <= node || kid >= len(list) {
					t.Fatalf("%#v: kid %d of node %d of %v", v, kid, node, list)
				}
				if i > 0 && list[n.Kids[i-1]].Byte >= list[kid].Byte {
					t.Fatalf("%#v: kids of node %d of %v", v, node, list)
				}
				parents[kid]++
			}
		}
		for node, count := range parents {
			if count != min(node, 1) {
				t.Fatalf("%#v: node %d of %v has %d parents", v, node, list, count)
			}
		}
		_, order := walk(t, list)
		for i, node := range order {
			if i != node {
				t.Fatalf("%#v: %v is not in preorder", v, list)
			}
		}
	}
}

// P9: each plain token ends at exactly one node; equal ones at the same, ascending.
func TestP9EndsOnce(t *testing.T) {
	for _, v := range validVocs() {
		ends := make([]int, len(v.Pieces))
		for _, n := range impl.TrieMake(v) {
			for i, id := range n.Ids {
				if id < 0 || id >= len(ends) || i > 0 && n.Ids[i-1] >= id {
					t.Fatalf("%#v: tokens %v", v, n.Ids)
				}
				ends[id]++
			}
		}
		for id, count := range ends {
			if want := map[bool]int{true: 1}[plain(v, id)]; count != want {
				t.Fatalf("%#v: token %d ends %d times", v, id, count)
			}
		}
	}
}

// P11: no token ends at the first node, and it has no byte.
func TestP11FirstNode(t *testing.T) {
	for _, v := range validVocs() {
		list := impl.TrieMake(v)
		if len(list) < 1 || list[0].Byte != 0 || len(list[0].Ids) != 0 || impl.TrieFind(list, "") != 0 {
			t.Fatalf("%#v: %v", v, list)
		}
	}
}

// The whole list, written out, with the end token in the middle of the trie.
func TestTrieWrittenOut(t *testing.T) {
	got := impl.TrieMake(impl.Voc{Pieces: []string{"b", "abc", "", "ab", "a", "b", "\xff", "ad"}, End: 3})
	want := []impl.Trie{
		{Byte: 0, Kids: []int{1, 5, 6}},
		{Byte: 'a', Kids: []int{2, 4}, Ids: []int{4}},
		{Byte: 'b', Kids: []int{3}},
		{Byte: 'c', Ids: []int{1}},
		{Byte: 'd', Ids: []int{7}},
		{Byte: 'b', Ids: []int{0, 5}},
		{Byte: 255, Ids: []int{6}},
	}
	if !sameTrie(got, want) {
		t.Errorf("%v, not %v", got, want)
	}
}

// A token's first byte may be 0, as the first node's byte is.
func TestTrieOfZeroBytes(t *testing.T) {
	got := impl.TrieMake(impl.Voc{Pieces: []string{"\x00\x00", "\x00"}, End: -1})
	want := []impl.Trie{{Kids: []int{1}}, {Kids: []int{2}, Ids: []int{1}}, {Ids: []int{0}}}
	if !sameTrie(got, want) {
		t.Errorf("%v, not %v", got, want)
	}
	for size, node := range []int{0, 1, 2, -1} {
		if impl.TrieFind(got, strings.Repeat("\x00", size)) != node {
			t.Errorf("%d bytes", size)
		}
	}
}

// The end token's bytes make no nodes, neither alone nor where they go on from a token.
func TestTrieWithoutEnd(t *testing.T) {
	list := impl.TrieMake(impl.Voc{Pieces: []string{"a", "abc"}, End: 1})
	if !sameTrie(list, []impl.Trie{{Kids: []int{1}}, {Byte: 'a', Ids: []int{0}}}) {
		t.Errorf("the end goes on from a token: %v", list)
	}
	list = impl.TrieMake(impl.Voc{Pieces: []string{"a", "ab"}, End: 0})
	if !sameTrie(list, []impl.Trie{{Kids: []int{1}}, {Byte: 'a', Kids: []int{2}}, {Byte: 'b', Ids: []int{1}}}) {
		t.Errorf("the end is a prefix of a token: %v", list)
	}
	list = impl.TrieMake(impl.Voc{Pieces: []string{"", "a", ""}, End: 1})
	if !sameTrie(list, []impl.Trie{{}}) {
		t.Errorf("no plain token: %v", list)
	}
}

func TestTrieOfWidestVoc(t *testing.T) {
	v := widestVoc()
	list := impl.TrieMake(v)
	if len(list) != 1+impl.VocMax*impl.VocMaxLen || len(list[0].Kids) != impl.VocMax {
		t.Fatalf("%d nodes", len(list))
	}
	for id, token := range v.Pieces {
		node := impl.TrieFind(list, token)
		if node < 0 || !slices.Equal(list[node].Ids, []int{id}) || len(list[node].Kids) != 0 {
			t.Errorf("token %d is at node %d", id, node)
		}
	}
}

func TestTrieOfInvalidVoc(t *testing.T) {
	for _, v := range invalidVocs() {
		if list := impl.TrieMake(v); len(list) != 0 {
			t.Errorf("TrieMake(%#v) = %v", v, list)
		}
	}
}

// chain returns n nodes, each the only kid of the one before.
func chain(n int) []impl.Trie {
	list := make([]impl.Trie, n)
	for i := range n {
		list[i].Byte = 'a'
		if i+1 < n {
			list[i].Kids = []int{i + 1}
		}
	}
	return list
}

// A tree has at most as many nodes as the greatest trie, in whatever shape.
func TestFindInLongLists(t *testing.T) {
	most := 1 + impl.VocMax*impl.VocMaxLen
	for _, n := range []int{1, 2, most - 1, most} {
		if got := impl.TrieFind(chain(n), strings.Repeat("a", n-1)); got != n-1 {
			t.Errorf("%d nodes: %d", n, got)
		}
		if got := impl.TrieFind(chain(n), strings.Repeat("a", n)); got != -1 {
			t.Errorf("%d nodes, one byte more: %d", n, got)
		}
	}
	for _, n := range []int{0, most + 1, most + 2, 10000} {
		for _, text := range []string{"", "a"} {
			if got := impl.TrieFind(chain(n), text); got != -1 {
				t.Errorf("%d nodes, %q: %d", n, text, got)
			}
		}
	}
}

// A list that is not a tree has no node of any text, wherever in it the fault is.
func TestFindInNoTree(t *testing.T) {
	for name, list := range map[string][]impl.Trie{
		"nil":                      nil,
		"empty":                    {},
		"its own kid":              {{Kids: []int{0}}},
		"own kid, not reached":     {{}, {Kids: []int{1}}},
		"kid before its parent":    {{Kids: []int{1}}, {Byte: 'a', Kids: []int{0}}},
		"a kid twice":              {{Kids: []int{1, 1}}, {Byte: 'a'}},
		"a kid of two":             {{Kids: []int{1, 2}}, {Byte: 'a', Kids: []int{2}}, {Byte: 'b'}},
		"a kid of two, far":        {{Kids: []int{1}}, {Byte: 'a'}, {Kids: []int{4}}, {Kids: []int{4}}, {}},
		"a kid that is none":       {{Kids: []int{1, 2}}, {Byte: 'a'}},
		"a kid that is none, far":  {{Kids: []int{1}}, {Byte: 'a'}, {Kids: []int{3}}},
		"a negative kid":           {{Kids: []int{1, -1}}, {Byte: 'a'}},
		"a very large kid":         {{Kids: []int{1, 1 << 62}}, {Byte: 'a'}},
		"a very negative kid":      {{Kids: []int{-1 << 63, 1}}, {Byte: 'a'}},
		"a fault in the last node": {{Kids: []int{1}}, {Byte: 'a', Kids: []int{2}}, {Byte: 'b', Kids: []int{3}}},
	} {
		for _, text := range []string{"", "a", "ab", "b", "\x00"} {
			if got := impl.TrieFind(list, text); got != -1 {
				t.Errorf("%s: %q is at %d", name, text, got)
			}
		}
	}
}

// A tree need not be a trie: its kids may be in any order and have any bytes, and a node may have no parent.
func TestFindInOtherTrees(t *testing.T) {
	list := []impl.Trie{
		{Byte: 'x', Kids: []int{5, 3, 1, 2}, Ids: []int{-1, 99}},
		{Byte: 'b', Kids: []int{4}},
		{Byte: 'a'},
		{Byte: 'a', Kids: []int{6, 7}},
		{Byte: 'c'},
		{Byte: 300},
		{Byte: -1},
		{Byte: 255},
		{Byte: 'd'},
	}
	for text, want := range map[string]int{
		"":       0,
		"a":      3,
		"b":      1,
		"bc":     4,
		"a\xff":  7,
		"x":      -1,
		"c":      -1,
		"d":      -1,
		",":      -1, // 300 modulo 256
		"ac":     -1,
		"bcc":    -1,
		"a\xffa": -1,
		"a\x00":  -1,
	} {
		if got := impl.TrieFind(list, text); got != want {
			t.Errorf("%q is at %d, not %d", text, got, want)
		}
	}
}
