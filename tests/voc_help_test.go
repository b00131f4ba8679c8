package tests

import (
	"slices"
	"strings"
	"testing"

	"loop.example/fretwork/impl"
)

// tokenPool has strings that begin, end and contain one another, and the empty one.
func tokenPool() []string {
	return []string{"", "a", "b", "ab", "ba", "aab", "\x00\xff"}
}

// smallVocs returns every list of one to three tokens of the pool, each with every possible end token and with none.
func smallVocs() []impl.Voc {
	var vocs []impl.Voc
	lists := [][]string{{}}
	for range 3 {
		var longer [][]string
		for _, list := range lists {
			for _, token := range tokenPool() {
				longer = append(longer, append(slices.Clone(list), token))
			}
		}
		for _, list := range longer {
			for end := -1; end < len(list); end++ {
				vocs = append(vocs, impl.Voc{Pieces: list, End: end})
			}
		}
		lists = longer
	}
	return vocs
}

// namedVocs returns the vocabularies that the document's edge cases are about.
func namedVocs() []impl.Voc {
	return []impl.Voc{
		// The end token's bytes are a prefix of another token, and equal to one.
		{Pieces: []string{"a", "ab", "", "abc", "ab", "b"}, End: 1},
		// The end token's bytes go on from another token.
		{Pieces: []string{"a", "abc", "", "ab", "a", "c"}, End: 1},
		// The end token is between two tokens of one branch, and nothing else is there.
		{Pieces: []string{"abcd", "ab", "a"}, End: 1},
		// No plain token.
		{Pieces: []string{"", "end", ""}, End: 1},
		{Pieces: []string{""}, End: 0},
		// Bytes that order differently as signed numbers or as runes.
		{Pieces: []string{"\xff", "\x80a", "\x7f", "\x00", "\x00\x00", "\xc3\xa9", "\xc3"}, End: -1},
		bytesVoc(),
		widestVoc(),
		equalVoc(),
		deepVoc(),
	}
}

// bytesVoc has single bytes, longer tokens of them, and the end token in the middle.
func bytesVoc() impl.Voc {
	return impl.Voc{Pieces: []string{"ab", "a", "", "b", "bc", "bca", "c", "aaaaaa"}, End: 4}
}

// widestVoc has VocMax tokens of VocMaxLen bytes with different first bytes, so that its trie has as many nodes as a trie can.
func widestVoc() impl.Voc {
	v := impl.Voc{End: -1}
	for i := range impl.VocMax {
		v.Pieces = append(v.Pieces, string([]byte{byte(250 - 6*i), 0, byte(i), 255, byte(255 - i), 'z'}))
	}
	return v
}

// equalVoc has VocMax equal tokens of VocMaxLen bytes, one of them the end token.
func equalVoc() impl.Voc {
	return impl.Voc{Pieces: slices.Repeat([]string{"aaaaaa"}, impl.VocMax), End: 20}
}

// deepVoc has tokens that are all prefixes of one another, the longer ones first.
func deepVoc() impl.Voc {
	return impl.Voc{Pieces: []string{"aaaaaa", "aaaaa", "aaaa", "aaa", "aa", "a", "a"}, End: 5}
}

func validVocs() []impl.Voc {
	return append(smallVocs(), namedVocs()...)
}

func invalidVocs() []impl.Voc {
	return []impl.Voc{
		{},
		{End: -1},
		{Pieces: []string{}, End: -1},
		{Pieces: []string{"a"}, End: 1},
		{Pieces: []string{"a"}, End: -2},
		{Pieces: []string{"a", "b"}, End: 2},
		{Pieces: []string{"a"}, End: 1 << 62},
		{Pieces: []string{"a"}, End: -1 << 63},
		{Pieces: []string{"a", "1234567"}, End: -1},
		{Pieces: []string{"a", "1234567"}, End: 1},
		{Pieces: []string{"1234567", "a"}, End: -1},
		{Pieces: slices.Repeat([]string{"a"}, impl.VocMax+1), End: -1},
		{Pieces: slices.Repeat([]string{"a"}, impl.VocMax+1), End: impl.VocMax},
	}
}

// textsOf returns all texts of at most most bytes of the alphabet.
func textsOf(alphabet string, most int) []string {
	texts := []string{""}
	last := texts
	for range most {
		var longer []string
		for _, text := range last {
			for i := range len(alphabet) {
				longer = append(longer, text+alphabet[i:i+1])
			}
		}
		texts = append(texts, longer...)
		last = longer
	}
	return texts
}

func plain(v impl.Voc, id int) bool {
	return id != v.End && v.Pieces[id] != ""
}

// plainEqual returns the plain tokens that equal text, ascending.
func plainEqual(v impl.Voc, text string) []int {
	var ids []int
	for id, token := range v.Pieces {
		if plain(v, id) && token == text {
			ids = append(ids, id)
		}
	}
	return ids
}

// isPrefix reports whether text is empty or a prefix of a plain token.
func isPrefix(v impl.Voc, text string) bool {
	for id, token := range v.Pieces {
		if plain(v, id) && strings.HasPrefix(token, text) {
			return true
		}
	}
	return text == ""
}

func copyVoc(v impl.Voc) impl.Voc {
	return impl.Voc{Pieces: slices.Clone(v.Pieces), End: v.End}
}

func sameVoc(a, b impl.Voc) bool {
	return a.End == b.End && slices.Equal(a.Pieces, b.Pieces)
}

func copyTrie(list []impl.Trie) []impl.Trie {
	var out []impl.Trie
	for _, n := range list {
		out = append(out, impl.Trie{Byte: n.Byte, Kids: slices.Clone(n.Kids), Ids: slices.Clone(n.Ids)})
	}
	return out
}

func sameNode(a, b impl.Trie) bool {
	return a.Byte == b.Byte && slices.Equal(a.Kids, b.Kids) && slices.Equal(a.Ids, b.Ids)
}

func sameTrie(a, b []impl.Trie) bool {
	return slices.EqualFunc(a, b, sameNode)
}

func textOf(t *testing.T, v impl.Voc, ids []int) string {
	t.Helper()
	text, ok := impl.VocText(v, ids)
	if !ok {
		t.Fatalf("VocText(%#v, %v) fails", v, ids)
	}
	return text
}
