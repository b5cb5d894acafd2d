package tests

import (
	"fmt"
	"math"
	"slices"
	"testing"

	"loop.example/g01153/impl"
)

// way is a path of a circuit, told by itself.
type way struct {
	nodes       []int64
	least, most int64
}

// from returns the register with which a way begins.
func (w way) from() int64 {
	return w.nodes[0]
}

// waysTo returns all paths to the data of a register, which are found against their direction.
func waysTo(c impl.Circuit, to int64) []way {
	var list []way
	var back func(node int64, w way)
	back = func(node int64, w way) {
		w.nodes = slices.Concat([]int64{node}, w.nodes)
		if node < c.Registers {
			list = append(list, w)
			return
		}
		g := c.Gates[node-c.Registers]
		w.least, w.most = w.least+g.Least, w.most+g.Most
		for _, input := range g.Inputs {
			back(input, w)
		}
	}
	back(c.Data[to], way{nil, c.Least, c.Most})
	return list
}

// delaysOf writes what PathDelays and LongestPath should return for all paths from a register to a register.
func delaysOf(ways []way, from int64) string {
	var least, most int64
	var longest []int64
	for _, w := range ways {
		if w.from() != from {
			continue
		}
		if longest == nil {
			least, most, longest = w.least, w.most, w.nodes
		}
		if w.most > most || w.most == most && slices.Compare(w.nodes, longest) < 0 {
			most, longest = w.most, w.nodes
		}
		least = min(least, w.least)
	}
	found := longest != nil
	return fmt.Sprint(least, most, found, longest, found)
}

// gotDelays writes what PathDelays and LongestPath return.
func gotDelays(c impl.Circuit, from, to int64) string {
	least, most, ok := impl.PathDelays(c, from, to)
	longest, found := impl.LongestPath(c, from, to)
	return fmt.Sprint(least, most, ok, longest, found)
}

// noDelays is written where there is no path.
const noDelays = "0 0 false [] false"

func TestPathDelays(t *testing.T) {
	found := map[bool]int{}
	for _, c := range allCircuits() {
		for to := range c.Registers {
			ways := waysTo(c, to)
			for from := range c.Registers {
				want := delaysOf(ways, from)
				found[want == noDelays]++
				expect(t, fmt.Sprint("PathDelays ", c, from, to), want, gotDelays(c, from, to))
			}
		}
	}
	if found[true] < 100 || found[false] < 100 {
		t.Errorf("too few registers with paths, or without: %v", found)
	}
}

func TestPathDelaysInTheirCases(t *testing.T) {
	own := timed(ownCircuit(2), 0, 0, 3, 8)
	expect(t, "a register with its own data", "3 8 true [1] true", gotDelays(own, 1, 1))
	expect(t, "registers without a path", noDelays, gotDelays(own, 0, 1))
	expect(t, "its own data over a gate", "4 15 true [0 1] true", gotDelays(timed(circuitOf([]int64{1}, gate(2, 9, 0)), 0, 0, 2, 6), 0, 0))
	expect(t, "a gate that leads nowhere", "0 0 true [0] true", gotDelays(circuitOf([]int64{0}, gate(5, 6, 0)), 0, 0))
	expect(t, "no delays at all", "0 0 true [0 1 2] true", gotDelays(circuitOf([]int64{2}, gate(0, 0, 0), gate(0, 0, 0, 1)), 0, 0))
	expect(t, "the least delay of another path than the greatest one", "2 9 true [0 2 3] true", gotDelays(circuitOf([]int64{3}, gate(1, 3, 0), gate(4, 8, 0), gate(1, 1, 1, 2)), 0, 0))
	expect(t, "the least and the greatest delay of one path", "0 9 true [0 2 3] true", gotDelays(circuitOf([]int64{3}, gate(2, 3, 0), gate(0, 9, 0), gate(0, 0, 1, 2)), 0, 0))
	expect(t, "all gates", "1100 1100 true [0 1 2 3 4 5 6 7 8 9 10] true", gotDelays(slowCircuit(), 0, 0))
}

func TestLongestPathOfSeveral(t *testing.T) {
	expect(t, "the least node", "5 5 true [0 1 3] true", gotDelays(circuitOf([]int64{3}, gate(5, 5, 0), gate(5, 5, 0), gate(0, 0, 1, 2)), 0, 0))
	expect(t, "more nodes that are less", "5 5 true [0 1 2 3] true", gotDelays(circuitOf([]int64{3}, gate(0, 0, 0), gate(5, 5, 0, 1), gate(0, 0, 2)), 0, 0))
	expect(t, "over gates without delays, not directly", "0 0 true [0 1 2] true", gotDelays(circuitOf([]int64{2}, gate(0, 0, 0), gate(0, 0, 0, 1)), 0, 0))
	expect(t, "the least node in the middle", "6 6 true [0 1 4 5] true", gotDelays(circuitOf([]int64{5}, gate(1, 1, 0), gate(1, 1, 0), gate(5, 5, 2), gate(5, 5, 1), gate(0, 0, 3, 4)), 0, 0))
	expect(t, "a greater delay over greater nodes", "5 6 true [0 2 3] true", gotDelays(circuitOf([]int64{3}, gate(5, 5, 0), gate(5, 6, 0), gate(0, 0, 1, 2)), 0, 0))
	expect(t, "all gates, one after another", "1 10 true [0 6 7 8 9 10 11 12 13 14 15] true", gotDelays(fullCircuit(1, 1), 0, 3))
	expect(t, "all paths without delays", "0 0 true [5 6 7 8 9 10 11 12 13 14 15] true", gotDelays(fullCircuit(0, 0), 5, 0))
}

func TestPathDelaysRequire(t *testing.T) {
	for _, c := range noCircuits() {
		expect(t, fmt.Sprint("PathDelays ", c), noDelays, gotDelays(c, 0, 0))
		expect(t, fmt.Sprint("PathDelays ", c), noDelays, gotDelays(c, 1, 0))
	}
	for _, c := range []impl.Circuit{exampleCircuit(), fullCircuit(1, 2), turnCircuit(impl.MaxRegisters)} {
		for _, other := range []int64{math.MinInt64, -1, c.Registers, c.Registers + 1, impl.MaxRegisters, math.MaxInt64} {
			for register := range c.Registers {
				expect(t, fmt.Sprint("PathDelays from ", other), noDelays, gotDelays(c, other, register))
				expect(t, fmt.Sprint("PathDelays to ", other), noDelays, gotDelays(c, register, other))
			}
			expect(t, fmt.Sprint("PathDelays of ", other), noDelays, gotDelays(c, other, other))
		}
	}
}

func TestPathExamples(t *testing.T) {
	c := exampleCircuit()
	expect(t, "over the gate", "2 9 true [0 2] true", gotDelays(c, 0, 1))
	expect(t, "directly", "1 2 true [1] true", gotDelays(c, 1, 0))
	expect(t, "no path", noDelays, gotDelays(c, 0, 0))
}
