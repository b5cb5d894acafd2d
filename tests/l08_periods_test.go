package tests

import (
	"fmt"
	"math"
	"math/rand"
	"slices"
	"testing"

	"loop.example/g01153/impl"
)

// lastDelays returns for each vertex the greatest delay of a path without registers that ends there.
func lastDelays(f impl.Flow) []int64 {
	delays := slices.Clone(f.Delays)
	for range f.Delays {
		for _, w := range f.Wires {
			if w.Count == 0 {
				delays[w.To] = max(delays[w.To], delays[w.From]+f.Delays[w.To])
			}
		}
	}
	return delays
}

// raisedMoves returns moves that are raised from 0 on, no more than they must be, until no path is too slow; it fails if they get greater than there are vertices.
func raisedMoves(f impl.Flow, period int64) ([]int64, bool) {
	moves := make([]int64, len(f.Delays))
	for slices.Max(moves) <= int64(len(moves)) {
		late := false
		for vertex, delay := range lastDelays(shifted(f, moves)) {
			if delay > period {
				moves[vertex]++
				late = true
			}
		}
		if !late {
			return moves, true
		}
	}
	return nil, false
}

// movesOf writes what MovesFor should return for moves of any size, if there are some.
func movesOf(f impl.Flow, moves []int64, found bool) string {
	if !found {
		return "[] false"
	}
	if _, most := leastAndMost(shifted(f, moves)); most > 20 {
		return "[] false"
	}
	return fmt.Sprint(moves, true)
}

// triedMoves returns the least number that each vertex has in any moves from 0 to size after which a period is kept, with wires that can have any number of registers.
func triedMoves(f impl.Flow, period, size int64) ([]int64, bool) {
	var least []int64
	for moves := range allSkews(len(f.Delays), size) {
		moved := shifted(f, moves)
		if few, _ := leastAndMost(moved); few < 0 || slices.Max(lastDelays(moved)) > period {
			continue
		}
		if least == nil {
			least = slices.Clone(moves)
		}
		for vertex, n := range moves {
			least[vertex] = min(least[vertex], n)
		}
	}
	return least, least != nil
}

// fullFlows are rows of vertices, with other wires that have as many registers as there can be, or nearly as many.
func fullFlows() []impl.Flow {
	var list []impl.Flow
	source := rand.New(rand.NewSource(88))
	for i := range 400 {
		f := rowFlow(2+i%4, 0, 0)
		for vertex := range f.Delays {
			f.Delays[vertex] = source.Int63n(6)
		}
		for range 1 + i%3 {
			last := int64(len(f.Delays))
			f.Wires = append(f.Wires, wire(source.Int63n(last), source.Int63n(last), 20-source.Int63n(4)/2))
		}
		list = append(list, f)
	}
	return list
}

// periodsFor returns periods for a flow, among them all around those for which other moves are needed.
func periodsFor(f impl.Flow) []int64 {
	list := []int64{0, 1, 2, 50, 99, 100, 800, 900, impl.MaxPeriod}
	for from := range int64(len(f.Delays)) {
		list = append(list, f.Delays[from], f.Delays[from]-1)
		for to := range from + 1 {
			if _, delay, ok := impl.FewestBetween(f, from, to); ok {
				list = append(list, delay, delay-1)
			}
		}
	}
	slices.Sort(list)
	return slices.DeleteFunc(slices.Compact(list), func(period int64) bool { return period < 0 })
}

func TestMovesForOfAllMoves(t *testing.T) {
	found := map[string]int{}
	for i, f := range append(smallFlows(), fullFlows()...) {
		if len(f.Delays) > 4 {
			continue
		}
		for period := int64(i) % 2; period <= 16; period += 2 {
			moves, ok := triedMoves(f, period, 4)
			want := movesOf(f, moves, ok)
			expect(t, fmt.Sprint("MovesFor ", f, period), want, call(impl.MovesFor(f, period)))
			found[fmt.Sprint(ok, want != "[] false")]++
		}
	}
	if found["true true"] < 1000 || found["false false"] < 1000 || found["true false"] < 50 {
		t.Errorf("too few flows with moves, without, or with wires that are full: %v", found)
	}
}

func TestMovesFor(t *testing.T) {
	greatest := int64(0)
	for _, f := range append(allFlows(), fullFlows()...) {
		for _, period := range periodsFor(f) {
			moves, ok := raisedMoves(f, period)
			want := movesOf(f, moves, ok)
			expect(t, fmt.Sprint("MovesFor ", f, period), want, call(impl.MovesFor(f, period)))
			if want == "[] false" {
				continue
			}
			greatest = max(greatest, slices.Max(moves))
			moved, isMoved := impl.MoveFlow(f, moves)
			if after, _ := impl.FlowPeriod(moved); !isMoved || after > period {
				t.Errorf("%v moved by %v has the period %d, greater than %d", f, moves, after, period)
			}
		}
	}
	if greatest < 6 {
		t.Errorf("no moves are greater than %d", greatest)
	}
}

func TestMovesForInTheirCases(t *testing.T) {
	expect(t, "one vertex in time", "[0] true", call(impl.MovesFor(flowOf([]int64{7}), 7)))
	expect(t, "one vertex too late", "[] false", call(impl.MovesFor(flowOf([]int64{7}), 6)))
	expect(t, "no delays", "[0 0 0] true", call(impl.MovesFor(turnFlow(3, 0, 1), 0)))
	expect(t, "a vertex too late in a flow without delays", "[] false", call(impl.MovesFor(flowOf([]int64{0, 1}, wire(0, 1, 3)), 0)))
	expect(t, "a wire to the same vertex takes no time", "[0] true", call(impl.MovesFor(flowOf([]int64{7}, wire(0, 0, 1)), 7)))
	expect(t, "a wire to the same vertex keeps its registers", "[0 1] true", call(impl.MovesFor(flowOf([]int64{7, 7}, wire(0, 1, 0), wire(1, 1, 1), wire(1, 0, 20)), 7)))
	expect(t, "a row gets registers from its end", "[0 1 2 3 4 5 6 7] true", call(impl.MovesFor(rowFlow(8, 100, 0), 100)))
	expect(t, "a register for two vertices", "[0 0 1 1 2 2 3 3] true", call(impl.MovesFor(rowFlow(8, 100, 0), 299)))
	expect(t, "a ring with too few registers", "[] false", call(impl.MovesFor(turnFlow(8, 100, 7), 100)))
	expect(t, "a ring with registers enough", "[0 1 2 3 4 5 6 7] true", call(impl.MovesFor(turnFlow(8, 100, 8), 100)))
	expect(t, "a full wire in front of a vertex that gets a register", "[] false", call(impl.MovesFor(flowOf([]int64{5, 5, 1}, wire(0, 1, 0), wire(2, 1, 20)), 5)))
	expect(t, "with place for one", "[0 1 0] true", call(impl.MovesFor(flowOf([]int64{5, 5, 1}, wire(0, 1, 0), wire(2, 1, 19)), 5)))
	expect(t, "without place for two", "[] false", call(impl.MovesFor(flowOf([]int64{5, 5, 5, 1}, wire(0, 1, 0), wire(1, 2, 0), wire(3, 2, 19)), 5)))
	expect(t, "with place for two", "[0 1 2 0] true", call(impl.MovesFor(flowOf([]int64{5, 5, 5, 1}, wire(0, 1, 0), wire(1, 2, 0), wire(3, 2, 18)), 5)))
	expect(t, "vertices without delay get a register as late as they can", "[0 0 1] true", call(impl.MovesFor(flowOf([]int64{5, 0, 5}, wire(0, 1, 0), wire(1, 2, 0)), 5)))
}

func TestMovesForRequires(t *testing.T) {
	for _, f := range noFlows() {
		for _, period := range []int64{0, 1, 100, 1000, impl.MaxPeriod} {
			expect(t, fmt.Sprint("MovesFor ", f, period), "[] false", call(impl.MovesFor(f, period)))
		}
		expect(t, fmt.Sprint("LeastMovedPeriod ", f), "0 [] false", gotLeast(f))
	}
	for _, period := range somePeriods() {
		want := "[] false"
		if period >= 0 && period <= impl.MaxPeriod {
			want = "[0] true"
		}
		expect(t, fmt.Sprint("MovesFor with ", period), want, call(impl.MovesFor(flowOf([]int64{0}), period)))
	}
}

// gotLeast writes what LeastMovedPeriod returns.
func gotLeast(f impl.Flow) string {
	period, moves, ok := impl.LeastMovedPeriod(f)
	return fmt.Sprint(period, moves, ok)
}

// leastOf writes what LeastMovedPeriod should return, by each period from 0 on, and tells how many lesser ones fail for full wires only.
func leastOf(f impl.Flow) (string, int) {
	full := 0
	for period := int64(0); ; period++ {
		moves, ok := raisedMoves(f, period)
		if want := movesOf(f, moves, ok); want != "[] false" {
			return fmt.Sprint(period, moves, true), full
		}
		if ok {
			full++
		}
	}
}

func TestLeastMovedPeriod(t *testing.T) {
	full := 0
	for _, f := range append(allFlows(), fullFlows()...) {
		want, lesser := leastOf(f)
		expect(t, fmt.Sprint("LeastMovedPeriod ", f), want, gotLeast(f))
		full += min(lesser, 1)
	}
	if full < 20 {
		t.Errorf("too few flows in which wires are full: %d", full)
	}
}

func TestLeastMovedPeriodInItsCases(t *testing.T) {
	expect(t, "one vertex", "7 [0] true", gotLeast(flowOf([]int64{7})))
	expect(t, "one vertex without delay", "0 [0] true", gotLeast(flowOf([]int64{0}, wire(0, 0, 1))))
	expect(t, "no delays", "0 [0 0 0] true", gotLeast(turnFlow(3, 0, 1)))
	expect(t, "a row", "100 [0 1 2 3 4 5 6 7] true", gotLeast(rowFlow(8, 100, 0)))
	expect(t, "a ring with one register", "800 [0 0 0 0 0 0 0 0] true", gotLeast(turnFlow(8, 100, 1)))
	expect(t, "a ring with two registers", "400 [0 0 0 0 1 1 1 1] true", gotLeast(turnFlow(8, 100, 2)))
	expect(t, "a ring with three registers", "300 [0 0 0 1 1 1 2 2] true", gotLeast(turnFlow(8, 100, 3)))
	expect(t, "the delay of a ring with the same vertex at both ends is no period", "5 [0] true", gotLeast(flowOf([]int64{5}, wire(0, 0, 1))))
	expect(t, "a full wire in the way", "10 [0 0 0] true", gotLeast(flowOf([]int64{5, 5, 1}, wire(0, 1, 0), wire(2, 1, 20))))
	expect(t, "no full wire in the way", "5 [0 1 0] true", gotLeast(flowOf([]int64{5, 5, 1}, wire(0, 1, 0), wire(2, 1, 19))))
}

func TestLessTimeWithFullWires(t *testing.T) {
	for text, fails := range map[string][2]int64{"4,3,1/0.1.0,1.2.0,1.2.20": {4, 7}, "5,3,4/0.1.0,1.2.0,1.2.20,0.0.20": {7, 8}} {
		f, _ := impl.ReadFlow(text)
		least, greater := fails[0], fails[1]
		expect(t, "a period too short for "+text, "[] false", call(impl.MovesFor(f, least-1)))
		expect(t, "the least period for "+text, "[0 1 1] true", call(impl.MovesFor(f, least)))
		expect(t, "a greater period for "+text, "[] false", call(impl.MovesFor(f, greater)))
		expect(t, "LeastMovedPeriod "+text, fmt.Sprint(least, []int64{0, 1, 1}, true), gotLeast(f))
	}
}

func TestNoMovesMakeThePeriodLess(t *testing.T) {
	equal := 0
	for _, f := range smallFlows() {
		period, _, ok := impl.LeastMovedPeriod(f)
		if !ok {
			t.Errorf("LeastMovedPeriod %v fails", f)
		}
		for moves := range allSkews(len(f.Delays), 4) {
			for i := range moves {
				moves[i] -= 2
			}
			moved, isMoved := impl.MoveFlow(f, moves)
			after, _ := impl.FlowPeriod(moved)
			if isMoved && after < period {
				t.Errorf("%v moved by %v has the period %d, less than %d", f, moves, after, period)
			}
			if isMoved && after == period {
				equal++
			}
			for i := range moves {
				moves[i] += 2
			}
		}
	}
	if equal < 500 {
		t.Errorf("too few moves make the period as small as told: %d", equal)
	}
}

func TestNoMovedPeriodIsLessThanRings(t *testing.T) {
	equal := 0
	for _, f := range append(allFlows(), fullFlows()...) {
		period, moves, _ := impl.LeastMovedPeriod(f)
		ratio, ok := impl.RingRatio(f)
		if ok && period*ratio.Den < ratio.Num {
			t.Errorf("%v has the period %d with %v, less than %v", f, period, moves, ratio)
		}
		if ok && period*ratio.Den == ratio.Num {
			equal++
		}
	}
	if equal < 50 {
		t.Errorf("too few flows have a period as small as rings allow: %d", equal)
	}
}

func TestMoveExamples(t *testing.T) {
	f := exampleFlow()
	expect(t, "LeastMovedPeriod", "7 [0 0 1] true", gotLeast(f))
	expect(t, "MovesFor 12", "[0 0 0] true", call(impl.MovesFor(f, 12)))
	expect(t, "MovesFor 7", "[0 0 1] true", call(impl.MovesFor(f, 7)))
	expect(t, "MovesFor 6", "[] false", call(impl.MovesFor(f, 6)))
	moved, ok := impl.MoveFlow(f, []int64{0, 0, 1})
	expect(t, "MoveFlow", "{[3 4 5] [{0 1 0} {1 2 1} {2 0 1}]} true", moved, ok)
	expect(t, "its period", "7 true", call(impl.FlowPeriod(moved)))
	for _, period := range []int64{math.MinInt64, -1, impl.MaxPeriod + 1, math.MaxInt64} {
		expect(t, fmt.Sprint("MovesFor ", period), "[] false", call(impl.MovesFor(f, period)))
	}
}
