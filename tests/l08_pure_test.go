package tests

import (
	"math"
	"reflect"
	"slices"
	"strings"
	"testing"

	"loop.example/g01153/impl"
)

// flowPool has arguments for the functions of chapter 8, valid ones, limits, and others.
func flowPool() map[reflect.Type][]any {
	numbers := anyOf[int64](math.MinInt64, -1, 0, 1, 2, 5, 7, impl.MaxVertices, impl.MaxCount, 100, impl.MaxPeriod, impl.MaxPeriod+1, math.MaxInt64)
	flows := slices.DeleteFunc(noFlows(), func(f impl.Flow) bool {
		return len(f.Delays)+len(f.Wires) > 100
	})
	flows = slices.Concat(flows, largeFlows()[:40], fullFlows()[:10], []impl.Flow{exampleFlow(), flowOf([]int64{0}), flowOf([]int64{7}, wire(0, 0, 1))})
	for i, f := range flows {
		flows[i] = flowOf(withSpare(f.Delays, 77), withSpare(f.Wires, wire(0, 0, 0))...)
	}
	lists := [][]int64{nil, {}, {1}, {0, 1}, {0, 0, 1}, {1, 0, 0}, {0, -1}, {20, -20}, {21}, {0, 21, 0}, {math.MinInt64, math.MaxInt64}, {math.MaxInt64}}
	for vertices := range impl.MaxVertices + 2 {
		lists = append(lists, listOf[int64](0, vertices), listOf[int64](-20, vertices))
	}
	for i := range lists {
		lists[i] = withSpare(lists[i], 77)
	}
	return map[reflect.Type][]any{
		reflect.TypeFor[int64]():     numbers,
		reflect.TypeFor[[]int64]():   anyOf(lists...),
		reflect.TypeFor[impl.Flow](): anyOf(flows...),
		reflect.TypeFor[string]():    anyOf("", "/", "1", "1/", "1/0.0.1", "1/0.0.0", "3,4,5/0.1.0,1.2.0,2.0.2", "1,2/0.1.0,1.0.1", "none/", "1//", "\xff/\xfe", "1/０.0.1", strings.Repeat("1,", 900)+"1/"),
	}
}

func TestMovesArePure(t *testing.T) {
	functions := map[string]any{
		"ValidFlow": impl.ValidFlow, "FlowPeriod": impl.FlowPeriod, "SlowestPath": impl.SlowestPath, "IsMove": impl.IsMove, "MoveFlow": impl.MoveFlow, "RegistersOf": impl.RegistersOf, "FewestBetween": impl.FewestBetween,
		"MovesFor": impl.MovesFor, "LeastMovedPeriod": impl.LeastMovedPeriod, "RingRatio": impl.RingRatio, "ShiftMoves": impl.ShiftMoves, "FlowText": impl.FlowText, "ReadFlow": impl.ReadFlow,
	}
	pool := flowPool()
	for name, f := range functions {
		checkPure(t, name, f, pool)
	}
}
