package tests

import (
	"math"
	"reflect"
	"testing"

	"loop.example/g01153/impl"
)

// diagramPool has arguments for the functions of chapter 4, valid ones, limits, and others.
func diagramPool() map[reflect.Type][]any {
	numbers := anyOf[int64](math.MinInt64, -impl.MaxLimit-1, -impl.MaxLimit, -1, 0, 1, 2, impl.MaxEvents-1, impl.MaxEvents, impl.MaxBounds-1, impl.MaxBounds, impl.MaxLimit, impl.MaxLimit+1, impl.NoLimit, math.MaxInt64)
	diagrams := append(noDiagrams(), exampleDiagram(), diagramOf(1), diagramOf(impl.MaxEvents), rowOf(10, 1000), ringOf(10, -1000, 1000), ringOf(10, 5, 5), ringOf(7, -1, 5), ringOf(7, 1, 5), fanOf(1, -7), fanOf(1, -6),
		diagramOf(2, bound(0, 1, 5), bound(0, 1, 5), bound(1, 0, -2)), diagramOf(2, listOf(bound(0, 1, 5), impl.MaxBounds)...))
	// A bound in the unused capacity would contradict all others.
	for i, d := range diagrams {
		diagrams[i].Bounds = withSpare(d.Bounds, bound(1, 0, -impl.MaxLimit))
	}
	times := [][]int64{nil, {}, {0}, {0, 3, 7}, {0, 1, 1}, {0, 5}, listOf[int64](0, 10), listOf[int64](impl.NoLimit, 10), listOf[int64](impl.NoLimit+1, 10), {math.MinInt64, math.MaxInt64}, {math.MaxInt64, math.MinInt64, 0}, listOf[int64](0, 11)}
	for i := range times {
		times[i] = withSpare(times[i], 77)
	}
	return map[reflect.Type][]any{
		reflect.TypeFor[int64]():        numbers,
		reflect.TypeFor[string]():       anyOf("", "1", "10", "11", "2,0.1.5", "2,0.1", "2,0.0.5", "2,", "02", "2,0.1.-1000", "2,0.1.-1001", "3,0.1.5,1.0.-2,1.2.4", textOf(fanOf(1, -7)), "\xff", "none"),
		reflect.TypeFor[[]int64]():      anyOf(times...),
		reflect.TypeFor[impl.Bound]():   anyOf(append(noBounds(), bound(0, 1, 5), bound(1, 0, -2), bound(0, 2, 9), bound(0, 1, impl.MaxLimit), bound(0, 9, -impl.MaxLimit))...),
		reflect.TypeFor[impl.Diagram](): anyOf(diagrams...),
	}
}

func TestDiagramsArePure(t *testing.T) {
	functions := map[string]any{
		"ValidDiagram": impl.ValidDiagram, "Between": impl.Between, "IsTiming": impl.IsTiming, "TightestBounds": impl.TightestBounds, "FallingRing": impl.FallingRing, "GapOf": impl.GapOf,
		"EarliestTimes": impl.EarliestTimes, "LatestTimes": impl.LatestTimes, "FollowsFrom": impl.FollowsFrom, "NeededBounds": impl.NeededBounds, "RoomOf": impl.RoomOf,
		"DiagramText": impl.DiagramText, "ReadDiagram": impl.ReadDiagram,
	}
	pool := diagramPool()
	for name, f := range functions {
		checkPure(t, name, f, pool)
	}
}
