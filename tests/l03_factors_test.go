package tests

import (
	"cmp"
	"fmt"
	"math"
	"slices"
	"testing"

	"loop.example/g01153/impl"
)

// productsOf returns all lists of numbers in ascending order, none less than least, whose product is by, which is greater than 1.
func productsOf(by, least int64) [][]int64 {
	lists := [][]int64{{by}}
	for first := least; first*first <= by; first++ {
		if by%first == 0 {
			for _, rest := range productsOf(by/first, first) {
				lists = append(lists, append([]int64{first}, rest...))
			}
		}
	}
	return lists
}

// fewestFirst orders lists by their lengths, and then lexicographically.
func fewestFirst(a, b []int64) int {
	return cmp.Or(cmp.Compare(len(a), len(b)), slices.Compare(a, b))
}

func TestChainFor(t *testing.T) {
	for by := int64(2); by <= impl.MaxModulus; by++ {
		lists := productsOf(by, 2)
		slices.SortFunc(lists, fewestFirst)
		for most := int64(2); most <= impl.MaxBy; most++ {
			want := "[] false"
			// The greatest number of a list is its last one.
			if i := slices.IndexFunc(lists, func(list []int64) bool { return list[len(list)-1] <= most }); i >= 0 {
				want = fmt.Sprint(lists[i], true)
			}
			expect(t, fmt.Sprint("ChainFor ", by, most), want, call(impl.ChainFor(by, most)))
		}
	}
}

func TestChainForEdges(t *testing.T) {
	for most := int64(2); most <= impl.MaxBy; most++ {
		expect(t, fmt.Sprint("ChainFor 1 ", most), "[] true", call(impl.ChainFor(1, most)))
	}
	expect(t, "as many as there can be", "[2 2 2 2 2 2 2 2 2] true", call(impl.ChainFor(512, 2)))
	expect(t, "just most", "[64] true", call(impl.ChainFor(64, 64)))
	expect(t, "most is one too few", "[2 32] true", call(impl.ChainFor(64, 63)))
	expect(t, "the least list of several", "[2 18] true", call(impl.ChainFor(36, 18)))
	expect(t, "fewest, though another one begins with less", "[6 6] true", call(impl.ChainFor(36, 8)))
	expect(t, "the greatest number", "[16 62] true", call(impl.ChainFor(992, 62)))
	expect(t, "the limit", "[20 50] true", call(impl.ChainFor(1000, 63)))
	expect(t, "a prime above most", "[] false", call(impl.ChainFor(67, 64)))
	expect(t, "twice a prime above most", "[] false", call(impl.ChainFor(134, 64)))
}

func TestChainForRequires(t *testing.T) {
	for _, by := range []int64{math.MinInt64, -8, -1, 0, impl.MaxModulus + 1, 1024, math.MaxInt64} {
		expect(t, fmt.Sprint("ChainFor ", by), "[] false", call(impl.ChainFor(by, 64)))
	}
	for _, most := range []int64{math.MinInt64, -1, 0, 1, impl.MaxBy + 1, math.MaxInt64} {
		for _, by := range []int64{1, 2, 6} {
			expect(t, fmt.Sprint("ChainFor ", by, most), "[] false", call(impl.ChainFor(by, most)))
		}
	}
}

func TestChainForExample(t *testing.T) {
	expect(t, "ChainFor", "[4 9 10] true", call(impl.ChainFor(360, 10)))
	expect(t, "ChainFor without", "[] false", call(impl.ChainFor(34, 16)))
}
