package tests

import (
	"fmt"
	"math"
	"math/big"
	"slices"
	"testing"

	"loop.example/g01153/impl"
)

// slowestBy returns for each vertex and number of registers the greatest delay of paths from a vertex with so many wires and registers, by the paths with one wire less.
func slowestBy(f impl.Flow, before map[[2]int64]int64) map[[2]int64]int64 {
	slowest := map[[2]int64]int64{}
	for end, delay := range before {
		for _, w := range f.Wires {
			if w.From != end[0] {
				continue
			}
			next := [2]int64{w.To, end[1] + w.Count}
			if other, known := slowest[next]; !known || delay+f.Delays[w.To] > other {
				slowest[next] = delay + f.Delays[w.To]
			}
		}
	}
	return slowest
}

// fewestFrom writes what FewestBetween should return from a vertex to each one.
func fewestFrom(f impl.Flow, from int64) []string {
	registers, delays := listOf(int64(-1), len(f.Delays)), listOf(int64(0), len(f.Delays))
	paths := map[[2]int64]int64{{from, 0}: f.Delays[from]}
	for range f.Delays {
		paths = slowestBy(f, paths)
		for end, delay := range paths {
			to, count := end[0], end[1]
			if registers[to] < 0 || count < registers[to] || count == registers[to] && delay > delays[to] {
				registers[to], delays[to] = count, delay
			}
		}
	}
	texts := make([]string, len(f.Delays))
	for to := range texts {
		texts[to] = fmt.Sprint(max(registers[to], 0), delays[to], registers[to] >= 0)
	}
	return texts
}

// gotFewest writes what FewestBetween returns.
func gotFewest(f impl.Flow, from, to int64) string {
	registers, delay, ok := impl.FewestBetween(f, from, to)
	return fmt.Sprint(registers, delay, ok)
}

// noFewest is written where there is no path.
const noFewest = "0 0 false"

func TestFewestBetween(t *testing.T) {
	found := map[bool]int{}
	for _, f := range allFlows() {
		for from := range int64(len(f.Delays)) {
			for to, want := range fewestFrom(f, from) {
				found[want == noFewest]++
				expect(t, fmt.Sprint("FewestBetween ", f, from, to), want, gotFewest(f, from, int64(to)))
			}
		}
	}
	if found[true] < 500 || found[false] < 500 {
		t.Errorf("too few vertices with paths, or without: %v", found)
	}
}

func TestFewestBetweenInItsCases(t *testing.T) {
	expect(t, "no wire to the same vertex", noFewest, gotFewest(flowOf([]int64{7}), 0, 0))
	expect(t, "a wire to the same vertex", "3 14 true", gotFewest(flowOf([]int64{7}, wire(0, 0, 3)), 0, 0))
	expect(t, "the wire with fewer registers to the same vertex", "3 14 true", gotFewest(flowOf([]int64{7}, wire(0, 0, 4), wire(0, 0, 3), wire(0, 0, 5)), 0, 0))
	expect(t, "a wire to the same vertex on the way", "0 9 true", gotFewest(flowOf([]int64{4, 0, 5}, wire(0, 1, 0), wire(1, 1, 1), wire(1, 2, 0)), 0, 2))
	expect(t, "a ring that is better than a wire to the same vertex", "1 11 true", gotFewest(flowOf([]int64{4, 3}, wire(0, 0, 2), wire(0, 1, 0), wire(1, 0, 1)), 0, 0))
	expect(t, "a ring that is as good and slower", "2 11 true", gotFewest(flowOf([]int64{4, 3}, wire(0, 0, 2), wire(0, 1, 1), wire(1, 0, 1)), 0, 0))
	expect(t, "a wire against its direction", noFewest, gotFewest(flowOf([]int64{4, 3}, wire(0, 1, 0)), 1, 0))
	expect(t, "fewer registers, though faster", "1 7 true", gotFewest(flowOf([]int64{4, 9, 3}, wire(0, 1, 1), wire(1, 2, 1), wire(0, 2, 1)), 0, 2))
	expect(t, "as few registers, and slower", "1 16 true", gotFewest(flowOf([]int64{4, 9, 3}, wire(0, 2, 1), wire(0, 1, 0), wire(1, 2, 1)), 0, 2))
	expect(t, "fewer registers over more vertices", "1 16 true", gotFewest(flowOf([]int64{4, 9, 3}, wire(0, 2, 2), wire(0, 1, 0), wire(1, 2, 1)), 0, 2))
	expect(t, "no delays", "2 0 true", gotFewest(flowOf([]int64{0, 0, 0}, wire(0, 1, 1), wire(1, 2, 1)), 0, 2))
	expect(t, "a vertex without delay makes no path slower", "0 9 true", gotFewest(flowOf([]int64{4, 0, 5}, wire(0, 1, 0), wire(1, 2, 0), wire(0, 2, 0)), 0, 2))
	expect(t, "all around", "20 900 true", gotFewest(turnFlow(8, 100, 20), 3, 3))
	expect(t, "nearly all around", "20 800 true", gotFewest(turnFlow(8, 100, 20), 3, 2))
	expect(t, "many registers", "140 800 true", gotFewest(rowFlow(8, 100, 20), 0, 7))
}

func TestFewestBetweenRequires(t *testing.T) {
	for _, f := range noFlows() {
		expect(t, fmt.Sprint("FewestBetween ", f), noFewest, gotFewest(f, 0, 0))
		expect(t, fmt.Sprint("FewestBetween ", f), noFewest, gotFewest(f, 0, 1))
		expect(t, fmt.Sprint("FewestBetween ", f), noFewest, gotFewest(f, 1, 0))
	}
	for _, f := range []impl.Flow{exampleFlow(), turnFlow(8, 1, 1), turnFlow(1, 1, 1)} {
		for _, other := range []int64{math.MinInt64, -1, int64(len(f.Delays)), int64(len(f.Delays)) + 1, impl.MaxVertices, math.MaxInt64} {
			expect(t, fmt.Sprint("FewestBetween from ", other), noFewest, gotFewest(f, other, 0))
			expect(t, fmt.Sprint("FewestBetween to ", other), noFewest, gotFewest(f, 0, other))
			expect(t, fmt.Sprint("FewestBetween of ", other), noFewest, gotFewest(f, other, other))
		}
	}
}

// wireRings returns the indices of the wires of each ring, one list for each vertex with which it can begin.
func wireRings(f impl.Flow) [][]int {
	var list [][]int
	var ring []int
	passed := map[int64]bool{}
	var extend func(first, at int64)
	extend = func(first, at int64) {
		for i, w := range f.Wires {
			if w.From != at || passed[w.To] {
				continue
			}
			ring = append(ring, i)
			if w.To == first {
				list = append(list, slices.Clone(ring))
			} else {
				passed[w.To] = true
				extend(first, w.To)
				passed[w.To] = false
			}
			ring = ring[:len(ring)-1]
		}
	}
	for vertex := range int64(len(f.Delays)) {
		extend(vertex, vertex)
	}
	return list
}

// registersIn returns how many registers a ring of wires has.
func registersIn(f impl.Flow, ring []int) int64 {
	sum := int64(0)
	for _, i := range ring {
		sum += f.Wires[i].Count
	}
	return sum
}

// ringRatioOf writes what RingRatio should return, and tells how many vertices the first ring with this ratio has.
func ringRatioOf(f impl.Flow) (string, int) {
	var greatest *big.Rat
	size := 0
	for _, ring := range wireRings(f) {
		delay := int64(0)
		for _, i := range ring {
			delay += f.Delays[f.Wires[i].To]
		}
		if ratio := big.NewRat(delay, registersIn(f, ring)); greatest == nil || ratio.Cmp(greatest) > 0 {
			greatest, size = ratio, len(ring)
		}
	}
	if greatest == nil {
		return "{0 0} false", 0
	}
	return resultOf(greatest), size
}

func TestRingRatio(t *testing.T) {
	sizes := map[int]int{}
	for _, f := range allFlows() {
		want, size := ringRatioOf(f)
		sizes[size]++
		expect(t, fmt.Sprint("RingRatio ", f), want, call(impl.RingRatio(f)))
	}
	for size := range 7 {
		if sizes[size] < 10 {
			t.Errorf("too few flows have a slowest ring of %d vertices: %v", size, sizes)
		}
	}
	for _, f := range noFlows() {
		expect(t, fmt.Sprint("RingRatio ", f), "{0 0} false", call(impl.RingRatio(f)))
	}
}

func TestRingRatioInItsCases(t *testing.T) {
	expect(t, "no wires", "{0 0} false", call(impl.RingRatio(flowOf([]int64{7}))))
	expect(t, "no ring", "{0 0} false", call(impl.RingRatio(rowFlow(8, 100, 0))))
	expect(t, "a wire to the same vertex", "{7 3} true", call(impl.RingRatio(flowOf([]int64{7}, wire(0, 0, 3)))))
	expect(t, "a wire to the same vertex beside a ring", "{7 1} true", call(impl.RingRatio(flowOf([]int64{3, 7}, wire(0, 1, 1), wire(1, 0, 1), wire(1, 1, 1)))))
	expect(t, "the wire with the fewest registers, the first one", "{7 2} true", call(impl.RingRatio(flowOf([]int64{7}, wire(0, 0, 2), wire(0, 0, 3)))))
	expect(t, "the wire with the fewest registers, the last one", "{7 2} true", call(impl.RingRatio(flowOf([]int64{7}, wire(0, 0, 4), wire(0, 0, 3), wire(0, 0, 2)))))
	expect(t, "no delays", "{0 1} true", call(impl.RingRatio(turnFlow(3, 0, 2))))
	expect(t, "lowest terms", "{3 2} true", call(impl.RingRatio(turnFlow(3, 2, 4))))
	expect(t, "less than 1", "{1 20} true", call(impl.RingRatio(turnFlow(1, 1, 20))))
	expect(t, "all around", "{800 1} true", call(impl.RingRatio(turnFlow(8, 100, 1))))
	expect(t, "two rings over one vertex are no ring", "{6 1} true", call(impl.RingRatio(flowOf([]int64{2, 1, 4}, wire(0, 1, 1), wire(1, 0, 1), wire(0, 2, 0), wire(2, 0, 1)))))
	expect(t, "a ring with less delay and fewer registers", "{5 1} true", call(impl.RingRatio(flowOf([]int64{5, 9, 1}, wire(0, 0, 1), wire(0, 1, 2), wire(1, 2, 1), wire(2, 0, 1)))))
}

func TestFewestExamples(t *testing.T) {
	f := exampleFlow()
	expect(t, "RingRatio", "{6 1} true", call(impl.RingRatio(f)))
	expect(t, "FewestBetween", "2 15 true 0 12 true", gotFewest(f, 0, 0), gotFewest(f, 0, 2))
}
