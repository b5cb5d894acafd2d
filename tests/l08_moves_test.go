package tests

import (
	"fmt"
	"math"
	"math/rand"
	"slices"
	"testing"

	"loop.example/g01153/impl"
)

// shifted returns the flow with moved registers, valid or not.
func shifted(f impl.Flow, moves []int64) impl.Flow {
	moved := flowOf(slices.Clone(f.Delays), slices.Clone(f.Wires)...)
	for vertex, n := range moves {
		for i, w := range f.Wires {
			if w.From == int64(vertex) {
				moved.Wires[i].Count -= n
			}
			if w.To == int64(vertex) {
				moved.Wires[i].Count += n
			}
		}
	}
	return moved
}

// leastAndMost returns the least and the greatest Count of a flow, both 0 if it has no wires.
func leastAndMost(f impl.Flow) (int64, int64) {
	if len(f.Wires) == 0 {
		return 0, 0
	}
	counts := []int64{}
	for _, w := range f.Wires {
		counts = append(counts, w.Count)
	}
	return slices.Min(counts), slices.Max(counts)
}

// movedOf writes what IsMove and MoveFlow should return.
func movedOf(f impl.Flow, moves []int64) string {
	isRight := impl.ValidFlow(f) && len(moves) == len(f.Delays)
	for _, n := range moves {
		isRight = isRight && n >= -20 && n <= 20
	}
	if isRight {
		moved := shifted(f, moves)
		if least, most := leastAndMost(moved); least >= 0 && most <= 20 {
			return fmt.Sprint(true, moved, true)
		}
	}
	return fmt.Sprint(false, impl.Flow{}, false)
}

// gotMoved writes what IsMove and MoveFlow return.
func gotMoved(f impl.Flow, moves []int64) string {
	moved, ok := impl.MoveFlow(f, moves)
	return fmt.Sprint(impl.IsMove(f, moves), moved, ok)
}

// someMoves returns lists that can be moves of some flows, or of none, and some for so many vertices.
func someMoves(source *rand.Rand, vertices int) [][]int64 {
	list := [][]int64{nil, {1}, {0, 1}, {0, 0, 1}, {-1, 0}, {21}, {-21}, {0, 21}, {math.MinInt64}, {math.MaxInt64, math.MinInt64}, {math.MinInt64, math.MaxInt64, 0}, listOf[int64](0, 9)}
	for _, n := range []int64{-21, -20, -1, 0, 1, 20, 21, math.MinInt64, math.MaxInt64} {
		list = append(list, listOf(n, vertices))
	}
	for i := range 12 {
		moves := make([]int64, vertices)
		for vertex := range moves {
			moves[vertex] = source.Int63n(2+int64(i)) - int64(i)/2
		}
		list = append(list, moves)
	}
	return append(list, listOf[int64](0, vertices+1), listOf[int64](0, vertices-1))
}

func TestMoveFlow(t *testing.T) {
	source := rand.New(rand.NewSource(84))
	found := map[bool]int{}
	for _, f := range allFlows() {
		for _, moves := range someMoves(source, len(f.Delays)) {
			want := movedOf(f, moves)
			found[want[:4] == "true"]++
			expect(t, fmt.Sprint("MoveFlow ", f, moves), want, gotMoved(f, moves))
		}
	}
	if found[true] < 1000 || found[false] < 1000 {
		t.Errorf("too few moves, or others: %v", found)
	}
	for _, f := range noFlows() {
		for _, moves := range [][]int64{nil, {0}, {0, 0}, {0, 0, 0}, listOf[int64](0, len(f.Delays)), {0, 1}} {
			expect(t, fmt.Sprint("MoveFlow ", f, moves), "false {[] []} false", gotMoved(f, moves))
		}
	}
}

func TestMoveFlowInItsCases(t *testing.T) {
	none := "false {[] []} false"
	expect(t, "from a wire that begins there", "true {[1 2] [{0 1 2}]} true", gotMoved(flowOf([]int64{1, 2}, wire(0, 1, 3)), []int64{1, 0}))
	expect(t, "to a wire that ends there", "true {[1 2] [{0 1 4}]} true", gotMoved(flowOf([]int64{1, 2}, wire(0, 1, 3)), []int64{0, 1}))
	expect(t, "back", "true {[1 2] [{0 1 4}]} true", gotMoved(flowOf([]int64{1, 2}, wire(0, 1, 3)), []int64{-1, 0}))
	expect(t, "a wire to the same vertex", "true {[1] [{0 0 3}]} true", gotMoved(flowOf([]int64{1}, wire(0, 0, 3)), []int64{5}))
	expect(t, "a full wire to the same vertex", "true {[1] [{0 0 20}]} true", gotMoved(flowOf([]int64{1}, wire(0, 0, 20)), []int64{20}))
	expect(t, "no wires", "true {[1 2] []} true", gotMoved(flowOf([]int64{1, 2}), []int64{20, -20}))
	expect(t, "all registers of a wire", "true {[1 2] [{0 1 0}]} true", gotMoved(flowOf([]int64{1, 2}, wire(0, 1, 3)), []int64{3, 0}))
	expect(t, "one more", none, gotMoved(flowOf([]int64{1, 2}, wire(0, 1, 3)), []int64{4, 0}))
	expect(t, "a full wire", "true {[1 2] [{0 1 20}]} true", gotMoved(flowOf([]int64{1, 2}, wire(0, 1, 3)), []int64{0, 17}))
	expect(t, "one too many", none, gotMoved(flowOf([]int64{1, 2}, wire(0, 1, 3)), []int64{0, 18}))
	expect(t, "the greatest moves", "true {[1 2] [{0 1 3}]} true", gotMoved(flowOf([]int64{1, 2}, wire(0, 1, 3)), []int64{20, 20}))
	expect(t, "greater ones that do the same", none, gotMoved(flowOf([]int64{1, 2}, wire(0, 1, 3)), []int64{21, 21}))
	expect(t, "the least moves", "true {[1 2] [{0 1 3}]} true", gotMoved(flowOf([]int64{1, 2}, wire(0, 1, 3)), []int64{-20, -20}))
	expect(t, "lesser ones that do the same", none, gotMoved(flowOf([]int64{1, 2}, wire(0, 1, 3)), []int64{-21, -21}))
	expect(t, "all numbers at once", "true {[1 2] [{0 1 0} {1 0 20}]} true", gotMoved(flowOf([]int64{1, 2}, wire(0, 1, 20), wire(1, 0, 0)), []int64{20, 0}))
	expect(t, "from one end of the numbers to the other", none, gotMoved(flowOf([]int64{1, 2}, wire(0, 1, 20), wire(1, 0, 0)), []int64{20, -20}))
}

func TestMoveFlowKeepsRings(t *testing.T) {
	source := rand.New(rand.NewSource(85))
	moved, kept := 0, 0
	for _, f := range allFlows() {
		rings := wireRings(f)
		ratio, cyclic := impl.RingRatio(f)
		for _, moves := range someMoves(source, len(f.Delays)) {
			g, ok := impl.MoveFlow(f, moves)
			if !ok {
				continue
			}
			moved++
			if !impl.ValidFlow(g) {
				t.Errorf("%v moved by %v is not valid", f, moves)
			}
			for _, ring := range rings {
				kept++
				if before, after := registersIn(f, ring), registersIn(g, ring); before != after {
					t.Errorf("%v moved by %v: the ring %v had %d registers, and has %d", f, moves, ring, before, after)
				}
			}
			if period, _ := impl.FlowPeriod(g); cyclic && period*ratio.Den < ratio.Num {
				t.Errorf("%v moved by %v has the period %d, less than %v", f, moves, period, ratio)
			}
		}
	}
	if moved < 1000 || kept < 1000 {
		t.Errorf("too few moves and rings: %d %d", moved, kept)
	}
}

// shiftedOf writes what ShiftMoves should return for a number that does not overflow.
func shiftedOf(moves []int64, by int64) string {
	isRight := len(moves) >= 1 && len(moves) <= 8
	var list []int64
	for _, n := range moves {
		isRight = isRight && n >= -20 && n <= 20 && n+by >= -20 && n+by <= 20
		list = append(list, n+by)
	}
	if !isRight {
		return "[] false"
	}
	return fmt.Sprint(list, true)
}

func TestShiftMoves(t *testing.T) {
	source := rand.New(rand.NewSource(86))
	for vertices := 1; vertices <= impl.MaxVertices+1; vertices++ {
		for _, moves := range append(someMoves(source, vertices), listOf[int64](3, vertices)) {
			if len(moves) > 0 && (moves[0] == math.MinInt64 || moves[0] == math.MaxInt64) {
				continue
			}
			for by := int64(-45); by <= 45; by++ {
				expect(t, fmt.Sprint("ShiftMoves ", moves, by), shiftedOf(moves, by), call(impl.ShiftMoves(moves, by)))
			}
		}
	}
}

func TestShiftMovesInItsCases(t *testing.T) {
	expect(t, "no moves", "[] false", call(impl.ShiftMoves(nil, 0)))
	expect(t, "as many as there can be", "[1 1 1 1 1 1 1 1] true", call(impl.ShiftMoves(listOf[int64](0, 8), 1)))
	expect(t, "one more", "[] false", call(impl.ShiftMoves(listOf[int64](0, 9), 1)))
	expect(t, "from the least to the greatest one", "[20] true", call(impl.ShiftMoves([]int64{-20}, 40)))
	expect(t, "from the greatest to the least one", "[-20 -20] true", call(impl.ShiftMoves([]int64{20, 20}, -40)))
	expect(t, "by one too many", "[] false", call(impl.ShiftMoves([]int64{-20}, 41)))
	expect(t, "too great before", "[] false", call(impl.ShiftMoves([]int64{0, 21}, -1)))
	expect(t, "too great behind", "[] false", call(impl.ShiftMoves([]int64{0, 20}, 1)))
	expect(t, "too small before", "[] false", call(impl.ShiftMoves([]int64{-21, 0}, 1)))
	expect(t, "too small behind", "[] false", call(impl.ShiftMoves([]int64{-20, 0}, -1)))
	for _, by := range []int64{math.MinInt64, math.MinInt64 + 20, -1000, 1000, math.MaxInt64 - 20, math.MaxInt64} {
		for _, n := range []int64{math.MinInt64, -20, 0, 20, math.MaxInt64} {
			expect(t, fmt.Sprint("ShiftMoves ", n, by), "[] false", call(impl.ShiftMoves([]int64{n}, by)))
		}
	}
}

func TestShiftMovesDoTheSame(t *testing.T) {
	source := rand.New(rand.NewSource(87))
	for _, f := range smallFlows() {
		for _, moves := range someMoves(source, len(f.Delays)) {
			for _, by := range []int64{-3, 1, 7} {
				other, ok := impl.ShiftMoves(moves, by)
				if ok && len(moves) == len(f.Delays) {
					expect(t, fmt.Sprint("MoveFlow ", f, moves, other), gotMoved(f, moves), gotMoved(f, other))
				}
			}
		}
	}
}
