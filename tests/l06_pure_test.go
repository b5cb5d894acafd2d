package tests

import (
	"math"
	"reflect"
	"slices"
	"testing"

	"loop.example/g01153/impl"
)

// isLong reports whether a circuit has far more gates or inputs than there can be, which takes long to be written.
func isLong(c impl.Circuit) bool {
	return len(c.Gates) > 100 || slices.ContainsFunc(c.Gates, func(g impl.Gate) bool {
		return len(g.Inputs) > 100
	})
}

// roomy returns a circuit with unused capacity in all of its lists, which would change it.
func roomy(c impl.Circuit) impl.Circuit {
	c.Data = withSpare(c.Data, 0)
	c.Gates = withSpare(c.Gates, gate(7, 77, 0))
	for i, g := range c.Gates {
		c.Gates[i].Inputs = withSpare(g.Inputs, 0)
	}
	return c
}

// pathPool has arguments for the functions of chapter 6, valid ones, limits, and others.
func pathPool() map[reflect.Type][]any {
	numbers := anyOf[int64](math.MinInt64, -1, 0, 1, 2, 9, 10, impl.MaxRegisters-1, impl.MaxRegisters, 1200, impl.MaxPeriod, impl.MaxPeriod+1, math.MaxInt64)
	circuits := append(slices.DeleteFunc(noCircuits(), isLong), largeCircuits()[:30]...)
	circuits = append(circuits, exampleCircuit(), ownCircuit(1), chainCircuit(), heldCircuit(), timed(ownCircuit(1), 0, 2, 1, 1))
	for i, c := range circuits {
		circuits[i] = roomy(c)
	}
	lists := [][]int64{nil, {}, {0}, {0, 0}, {0, 1}, {0, 3}, {0, -1}, {1, 2, 3, 4, 5, 6}, {impl.MaxPeriod, 0}, {0, impl.MaxPeriod + 1}, {math.MinInt64, math.MaxInt64}, {math.MaxInt64}}
	for registers := range impl.MaxRegisters + 2 {
		lists = append(lists, listOf[int64](0, registers), listOf[int64](impl.MaxDelay, registers), listOf[int64](impl.MaxPeriod, registers))
	}
	for i := range lists {
		lists[i] = withSpare(lists[i], 77)
	}
	return map[reflect.Type][]any{
		reflect.TypeFor[int64]():        numbers,
		reflect.TypeFor[[]int64]():      anyOf(lists...),
		reflect.TypeFor[impl.Circuit](): anyOf(circuits...),
	}
}

func TestPathsArePure(t *testing.T) {
	functions := map[string]any{
		"ValidCircuit": impl.ValidCircuit, "PathDelays": impl.PathDelays, "LongestPath": impl.LongestPath, "SetupRoom": impl.SetupRoom, "HoldRoom": impl.HoldRoom, "Works": impl.Works, "LeastPeriod": impl.LeastPeriod,
		"LeastSkews": impl.LeastSkews, "LeastSkewedPeriod": impl.LeastSkewedPeriod, "RingPeriod": impl.RingPeriod, "PadsOf": impl.PadsOf, "PadCircuit": impl.PadCircuit,
	}
	pool := pathPool()
	for name, f := range functions {
		checkPure(t, name, f, pool)
	}
}
