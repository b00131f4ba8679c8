// Package impl: which pieces may come next, so that a text can still become a sentence.
package impl

import (
	"slices"
	"strings"
)

// Limits of pieces.
const (
	VocMax    = 40
	VocMaxLen = 6
	VocIds    = 60
)

// trieMaxNodes is reached when no two pieces of the greatest vocabulary begin with the same byte.
const trieMaxNodes = 1 + VocMax*VocMaxLen

// Voc is the pieces of which texts are made; one of them may be the end.
type Voc struct {
	Pieces []string
	End    int
}

// Trie is a node of a tree of pieces: its byte, its kids, and which pieces end here.
type Trie struct {
	Byte int
	Kids []int
	Ids  []int
}

// plainPiece keeps a piece's index with its bytes, since sorting by bytes loses the place in the list.
type plainPiece struct {
	text string
	id   int
}

// VocOk says whether pieces are ok.
func VocOk(v Voc) bool {
	if len(v.Pieces) < 1 || len(v.Pieces) > VocMax {
		return false
	}
	if v.End < -1 || v.End >= len(v.Pieces) {
		return false
	}
	return indexOf(v.Pieces, isTooLong) < 0
}

// VocText is the text of pieces, one behind the other.
func VocText(v Voc, ids []int) (string, bool) {
	if !VocOk(v) || len(ids) > VocIds {
		return "", false
	}
	var text strings.Builder
	for _, id := range ids {
		if id < 0 || id >= len(v.Pieces) {
			return "", false
		}
		if id != v.End {
			text.WriteString(v.Pieces[id])
		}
	}
	return text.String(), true
}

// VocLong cuts a text into pieces, each the longest that fits.
func VocLong(v Voc, text string) ([]int, bool) {
	if !VocOk(v) {
		return nil, false
	}
	var ids []int
	for len(text) > 0 {
		id := longestPiece(v, text)
		if id < 0 || len(ids) == VocIds {
			return nil, false
		}
		ids = append(ids, id)
		text = text[len(v.Pieces[id]):]
	}
	return ids, true
}

// TrieMake is the tree of pieces.
func TrieMake(v Voc) []Trie {
	if !VocOk(v) {
		return nil
	}
	return growTrie(nil, 0, sortedPieces(v), 0)
}

// TrieFind is the node of a text, -1 if there is none.
func TrieFind(list []Trie, text string) int {
	if !isTree(list) {
		return -1
	}
	node := 0
	for i := range len(text) {
		kids := list[node].Kids
		place := indexOf(kids, func(kid int) bool { return list[kid].Byte == int(text[i]) })
		if place < 0 {
			return -1
		}
		node = kids[place]
	}
	return node
}

// indexOf is the index of the first element that fits, -1 if none does.
func indexOf[T any](list []T, fits func(T) bool) int {
	for i, element := range list {
		if fits(element) {
			return i
		}
	}
	return -1
}

func isTooLong(piece string) bool {
	return len(piece) > VocMaxLen
}

// isPlain asks for bytes too: a piece without bytes would fit everywhere and bring a text no further.
func isPlain(v Voc, id int) bool {
	return id != v.End && len(v.Pieces[id]) > 0
}

// longestPiece is the longest plain piece that a text begins with, -1 if there is none.
func longestPiece(v Voc, text string) int {
	best, length := -1, 0
	for id, piece := range v.Pieces {
		// Only a longer one takes over, so that the first of equal ones stays.
		if isPlain(v, id) && len(piece) > length && strings.HasPrefix(text, piece) {
			best, length = id, len(piece)
		}
	}
	return best
}

// sortedPieces is the plain pieces by their bytes, equal ones by their indexes.
func sortedPieces(v Voc) []plainPiece {
	var pieces []plainPiece
	for id, text := range v.Pieces {
		if isPlain(v, id) {
			pieces = append(pieces, plainPiece{text, id})
		}
	}
	slices.SortStableFunc(pieces, func(a, b plainPiece) int { return strings.Compare(a.text, b.text) })
	return pieces
}

// growTrie appends the subtree of pieces that are sorted and agree in their first depth bytes, of which last is the last one.
func growTrie(list []Trie, last int, pieces []plainPiece, depth int) []Trie {
	node := len(list)
	list = append(list, Trie{Byte: last})
	// A string sorts ahead of all that go on from it, so the pieces that end here come first.
	for len(pieces) > 0 && len(pieces[0].text) == depth {
		list[node].Ids = append(list[node].Ids, pieces[0].id)
		pieces = pieces[1:]
	}
	for len(pieces) > 0 {
		next := pieces[0].text[depth]
		size := indexOf(pieces, func(p plainPiece) bool { return p.text[depth] != next })
		if size < 0 {
			size = len(pieces)
		}
		list[node].Kids = append(list[node].Kids, len(list))
		list = growTrie(list, int(next), pieces[:size], depth+1)
		pieces = pieces[size:]
	}
	return list
}

// isTree also turns down a kid that is no index of the list: it is no node.
func isTree(list []Trie) bool {
	if len(list) < 1 || len(list) > trieMaxNodes {
		return false
	}
	isKid := make([]bool, len(list))
	for node, at := range list {
		for _, kid := range at.Kids {
			if kid <= node || kid >= len(list) || isKid[kid] {
				return false
			}
			isKid[kid] = true
		}
	}
	return true
}
