package tests

import (
	"slices"
	"testing"

	"loop.example/fretwork/impl"
)

func hasSaveSum(t *testing.T, b []byte, want int) {
	t.Helper()
	if got := impl.SaveSum(b); got != want {
		t.Errorf("SaveSum of %d bytes, %v, is %d, not %d", len(b), shortBytes(b), got, want)
	}
}

func TestSumsWrittenOut(t *testing.T) {
	hasSaveSum(t, nil, 0)
	hasSaveSum(t, []byte{}, 0)
	hasSaveSum(t, []byte{0}, 0)
	hasSaveSum(t, []byte{1}, 1)
	hasSaveSum(t, []byte{255}, 255)
	hasSaveSum(t, []byte{0, 1}, 2)
	hasSaveSum(t, []byte{1, 0}, 1)
	hasSaveSum(t, []byte{1, 2, 3}, 14)
	hasSaveSum(t, []byte{255, 255, 255}, 1530)
	hasSaveSum(t, make([]byte, 1000), 0)
	// 251*252/2 = 31626 is what bytes 1 have together before their weights start again.
	hasSaveSum(t, slices.Repeat([]byte{1}, 250), 31375)
	hasSaveSum(t, slices.Repeat([]byte{1}, 251), 31626)
	hasSaveSum(t, slices.Repeat([]byte{1}, 252), 31627)
	hasSaveSum(t, slices.Repeat([]byte{1}, 253), 31629)
	hasSaveSum(t, slices.Repeat([]byte{1}, 502), 63252)
	hasSaveSum(t, slices.Repeat([]byte{1}, 503), 63253)
	hasSaveSum(t, slices.Repeat([]byte{255}, 251), 31626*255%65521)
}

func TestWeightsOfBytes(t *testing.T) {
	for _, row := range []struct{ at, weight int }{
		{0, 1}, {1, 2}, {249, 250}, {250, 251}, {251, 1}, {252, 2}, {255, 5}, {256, 6}, {501, 251}, {502, 1}, {752, 251}, {753, 1}, {2508, 250}, {2509, 251}, {2510, 1},
	} {
		for _, n := range []byte{1, 2, 127, 128, 255} {
			for _, more := range []int{1, 2, 300} {
				b := make([]byte, row.at+more)
				b[row.at] = n
				hasSaveSum(t, b, int(n)*row.weight)
			}
		}
	}
}

// bytesOfSum returns 251 bytes with this sum before it is reduced.
func bytesOfSum(sum int) []byte {
	b := make([]byte, 251)
	for i := len(b) - 1; i >= 0; i-- {
		b[i] = byte(min(255, sum/(i+1)))
		sum -= int(b[i]) * (i + 1)
	}
	return b
}

func TestSumsAreReduced(t *testing.T) {
	for _, row := range []struct{ full, sum int }{
		{0, 0}, {1, 1}, {255, 255}, {256, 256}, {65519, 65519}, {65520, 65520},
		{65521, 0}, {65522, 1}, {65535, 14}, {65536, 15}, {65537, 16}, {131041, 65520}, {131042, 0}, {131043, 1},
		{1 << 20, 240}, {65521*100 - 1, 65520}, {65521 * 100, 0}, {31626 * 255, 31626 * 255 % 65521},
	} {
		b := bytesOfSum(row.full)
		if fullSum(b) != row.full {
			t.Fatalf("%v has the sum %d", b, fullSum(b))
		}
		hasSaveSum(t, b, row.sum)
	}
}

// someBytes returns bytes without a pattern.
func someBytes(count int, below func(int) int) []byte {
	b := make([]byte, count)
	for i := range b {
		b[i] = byte(below(256))
	}
	return b
}

func TestSumsAreThoseOfTheDocument(t *testing.T) {
	below := numbers()
	for _, count := range []int{0, 1, 2, 3, 100, 250, 251, 252, 253, 500, 501, 502, 503, 504, 753, 754, 1000, 5000, 65521, 200000, 3000000} {
		hasSaveSum(t, slices.Repeat([]byte{255}, count), slowSaveSum(slices.Repeat([]byte{255}, count)))
		for range 3 {
			b := someBytes(count, below)
			hasSaveSum(t, b, slowSaveSum(b))
		}
	}
}

func TestP106SumsChangeWithEachByte(t *testing.T) {
	below := numbers()
	for _, count := range []int{0, 1, 2, 17, 128, 250, 251} {
		for _, b := range [][]byte{make([]byte, count), slices.Repeat([]byte{255}, count), someBytes(count, below), someBytes(count, below)} {
			checkChangedSums(t, b, 1)
		}
	}
	// It holds beyond that, too, as long as only one byte changes.
	for _, count := range []int{252, 253, 502, 503, 1000} {
		checkChangedSums(t, someBytes(count, below), 7)
	}
}

// checkChangedSums changes each byte in turn to others, from this step to the next one.
func checkChangedSums(t *testing.T, b []byte, step int) {
	t.Helper()
	sum := impl.SaveSum(b)
	if sum != slowSaveSum(b) {
		t.Fatalf("SaveSum of %v is %d", b, sum)
	}
	for i, n := range b {
		for other := 1; other < 256; other += step {
			b[i] = n + byte(other)
			if impl.SaveSum(b) == sum {
				t.Fatalf("%v and, at %d, %d, have the same sum", b, i, n)
			}
		}
		b[i] = n
	}
}

// Two bytes that change places change the sum if and only if they have different weights.
func TestSumsOfBytesInAnotherOrder(t *testing.T) {
	b := someBytes(600, numbers())
	sum := impl.SaveSum(b)
	seen := map[bool]int{}
	for i := range b {
		for _, j := range []int{i + 1, i + 7, i + 125, i + 250, i + 251, i + 252, i + 502} {
			if j >= len(b) || b[i] == b[j] {
				continue
			}
			b[i], b[j] = b[j], b[i]
			isSame := impl.SaveSum(b) == sum
			b[i], b[j] = b[j], b[i]
			seen[isSame]++
			if isSame != ((j-i)%251 == 0) {
				t.Fatalf("the bytes at %d and %d: the sum is the same: %v", i, j, isSame)
			}
		}
	}
	hasSeen(t, seen, 100)
}
