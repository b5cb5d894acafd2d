package tests

import (
	"fmt"
	"math"
	"slices"
	"testing"

	"loop.example/g01153/impl"
)

// followsOf reports by the least sums of bounds whether a bound follows.
func followsOf(d impl.Diagram, b impl.Bound) bool {
	sums := closureOf(d)
	return sums != nil && sums[b.From][b.To] <= b.Most
}

// neededOf returns what NeededBounds should return: each bound is tried without itself and those that have been left out.
func neededOf(d impl.Diagram) string {
	if closureOf(d) == nil {
		return "[] false"
	}
	isLeftOut := listOf(false, len(d.Bounds))
	var needed []int
	for i, b := range d.Bounds {
		others := diagramOf(d.Events)
		for j, other := range d.Bounds {
			if j != i && !isLeftOut[j] {
				others.Bounds = append(others.Bounds, other)
			}
		}
		isLeftOut[i] = followsOf(others, b)
		if !isLeftOut[i] {
			needed = append(needed, i)
		}
	}
	return fmt.Sprint(needed, true)
}

// lowered returns a diagram in which a bound has so much less Most, perhaps less than a valid one has.
func lowered(d impl.Diagram, bound int, by int64) impl.Diagram {
	low := diagramOf(d.Events, slices.Clone(d.Bounds)...)
	low.Bounds[bound].Most -= by
	return low
}

func TestFollowsFromAllTimings(t *testing.T) {
	for i, d := range smallDiagrams() {
		// All bounds are too many for all diagrams.
		if i%5 != 0 {
			continue
		}
		widest := widestOf(d)
		for _, b := range allBounds(d.Events, 5) {
			want := widest != nil && widest[b.From][b.To] <= b.Most
			expect(t, fmt.Sprint("FollowsFrom ", d, b), fmt.Sprint(want), impl.FollowsFrom(d, b))
		}
	}
}

func TestFollowsFromLargeDiagrams(t *testing.T) {
	for _, d := range largeDiagrams() {
		sums := closureOf(d)
		for from := range d.Events {
			for to := range d.Events {
				for less := int64(-1); less <= 1 && sums != nil; less++ {
					b := bound(from, to, sums[from][to]-less)
					want := from != to && less <= 0 && b.Most >= -impl.MaxLimit && b.Most <= impl.MaxLimit
					expect(t, fmt.Sprint("FollowsFrom ", d, b), fmt.Sprint(want), impl.FollowsFrom(d, b))
				}
			}
		}
		for _, b := range d.Bounds {
			expect(t, fmt.Sprint("FollowsFrom ", d, b), fmt.Sprint(sums != nil), impl.FollowsFrom(d, b))
		}
	}
}

func TestFollowsFromRequires(t *testing.T) {
	for _, d := range noDiagrams() {
		for _, b := range []impl.Bound{{}, bound(0, 1, 5), bound(0, 1, 1000), bound(1, 0, 1000)} {
			expect(t, fmt.Sprint("FollowsFrom ", d, b), "false", impl.FollowsFrom(d, b))
		}
	}
	for _, b := range noBounds() {
		expect(t, fmt.Sprint("FollowsFrom ", b), "false", impl.FollowsFrom(diagramOf(2, bound(0, 1, 0), bound(1, 0, 0)), b))
	}
	d := diagramOf(2, bound(0, 1, -1000), bound(1, 0, 1000))
	expect(t, "the greatest Most", "true", impl.FollowsFrom(d, bound(0, 1, 1000)))
	expect(t, "more than the greatest Most", "false", impl.FollowsFrom(d, bound(0, 1, 1001)))
	expect(t, "the least Most", "true", impl.FollowsFrom(d, bound(0, 1, -1000)))
	expect(t, "less than the least Most", "false", impl.FollowsFrom(d, bound(0, 1, -1001)))
	expect(t, "no limit", "false", impl.FollowsFrom(diagramOf(2), bound(0, 1, 1000)))
	expect(t, "no timing", "false", impl.FollowsFrom(diagramOf(3, bound(0, 1, -1), bound(1, 0, 0)), bound(0, 2, 1000)))
	expect(t, "no timing", "false", impl.FollowsFrom(diagramOf(2, bound(0, 1, -1), bound(1, 0, 0)), bound(0, 1, 0)))
}

func TestNeededBounds(t *testing.T) {
	for _, d := range append(smallDiagrams(), largeDiagrams()...) {
		expect(t, fmt.Sprint("NeededBounds ", d), neededOf(d), call(impl.NeededBounds(d)))
	}
	for _, d := range noDiagrams() {
		expect(t, fmt.Sprint("NeededBounds ", d), "[] false", call(impl.NeededBounds(d)))
	}
	expect(t, "the last one of equal ones", "[2] true", call(impl.NeededBounds(diagramOf(2, listOf(bound(0, 1, 5), 3)...))))
	expect(t, "the last one of most equal ones", "[23] true", call(impl.NeededBounds(diagramOf(2, listOf(bound(0, 1, 5), impl.MaxBounds)...))))
	expect(t, "the tighter one", "[0] true", call(impl.NeededBounds(diagramOf(2, bound(0, 1, 4), bound(0, 1, 5)))))
	expect(t, "just as tight as two others", "[0 1] true", call(impl.NeededBounds(diagramOf(3, bound(0, 1, 5), bound(1, 2, 4), bound(0, 2, 9)))))
	expect(t, "tighter than two others", "[0 1 2] true", call(impl.NeededBounds(diagramOf(3, bound(0, 1, 5), bound(1, 2, 4), bound(0, 2, 8)))))
	expect(t, "not from one that has been left out", "[2 3] true", call(impl.NeededBounds(diagramOf(2, bound(0, 1, 0), bound(1, 0, 0), bound(0, 1, 0), bound(1, 0, 0)))))
	expect(t, "no bounds", "[] true", call(impl.NeededBounds(diagramOf(2))))
	expect(t, "no timing", "[] false", call(impl.NeededBounds(diagramOf(3, bound(0, 1, -1), bound(1, 0, 0), bound(1, 2, 0)))))
}

func TestNeededBoundsAreEnough(t *testing.T) {
	for _, d := range largeDiagrams() {
		needed, ok := impl.NeededBounds(d)
		if !ok {
			continue
		}
		only := diagramOf(d.Events)
		for _, i := range needed {
			only.Bounds = append(only.Bounds, d.Bounds[i])
		}
		expect(t, fmt.Sprint("NeededBounds ", d), fmt.Sprint(closureOf(d)), fmt.Sprint(closureOf(only)))
		for i := range only.Bounds {
			without := diagramOf(d.Events, slices.Delete(slices.Clone(only.Bounds), i, i+1)...)
			if followsOf(without, only.Bounds[i]) {
				t.Errorf("NeededBounds %v: %v follows from others", d, only.Bounds[i])
			}
		}
	}
}

func TestRoomOf(t *testing.T) {
	for _, d := range append(smallDiagrams(), largeDiagrams()...) {
		for i := range d.Bounds {
			what := fmt.Sprint("RoomOf ", d, i)
			room, ok := impl.RoomOf(d, int64(i))
			if closureOf(d) == nil {
				expect(t, what, "0 false", room, ok)
				continue
			}
			if !ok || closureOf(lowered(d, i, room)) == nil {
				t.Errorf("%s: %d %v, but there is no timing", what, room, ok)
			}
			// All other bounds together are less than this.
			if room == impl.NoLimit {
				room *= 10
			}
			isMore := closureOf(lowered(d, i, room+1)) != nil
			expect(t, what+" can be more", fmt.Sprint(room > impl.NoLimit), isMore)
		}
	}
}

func TestRoomOfLimits(t *testing.T) {
	expect(t, "none", "0 true", call(impl.RoomOf(ringOf(10, -100, 900), 9)))
	expect(t, "the most", "10000 true", call(impl.RoomOf(ringOf(10, 1000, 1000), 0)))
	expect(t, "down to less than the least Most", "1000 true", call(impl.RoomOf(diagramOf(2, bound(0, 1, -1000), bound(1, 0, 1000), bound(0, 1, 0)), 2)))
	expect(t, "down to less than the least Most", "1400 true", call(impl.RoomOf(diagramOf(3, bound(0, 1, -600), bound(1, 2, 1000), bound(2, 0, 1000)), 0)))
	expect(t, "no way back", "1000000 true", call(impl.RoomOf(diagramOf(2, bound(0, 1, -1000)), 0)))
	expect(t, "two equal ones", "7 true", call(impl.RoomOf(diagramOf(2, bound(0, 1, 5), bound(0, 1, 5), bound(1, 0, 2)), 1)))
	d := exampleDiagram()
	expect(t, "example", "3 true", call(impl.RoomOf(d, 0)))
	expect(t, "example", "3 true", call(impl.RoomOf(d, 1)))
	expect(t, "example", "1000000 true", call(impl.RoomOf(d, 2)))
	for _, index := range []int64{math.MinInt64, -1, 3, 4, 24, math.MaxInt64} {
		expect(t, fmt.Sprint("RoomOf ", index), "0 false", call(impl.RoomOf(d, index)))
	}
	expect(t, "no bounds", "0 false", call(impl.RoomOf(diagramOf(2), 0)))
	full := diagramOf(2, listOf(bound(0, 1, 5), impl.MaxBounds)...)
	expect(t, "the last one", "1000000 true", call(impl.RoomOf(full, 23)))
	expect(t, "behind the last one", "0 false", call(impl.RoomOf(full, 24)))
	expect(t, "a contradiction elsewhere", "0 false", call(impl.RoomOf(diagramOf(3, bound(0, 1, -1), bound(1, 0, 0), bound(1, 2, 0)), 2)))
	for _, no := range noDiagrams() {
		expect(t, fmt.Sprint("RoomOf ", no), "0 false", call(impl.RoomOf(no, 0)))
	}
}

func TestNeededExamples(t *testing.T) {
	d := exampleDiagram()
	expect(t, "2 comes at most 9 behind 0", "true", impl.FollowsFrom(d, bound(0, 2, 9)))
	expect(t, "but not at most 8", "false", impl.FollowsFrom(d, bound(0, 2, 8)))
	expect(t, "NeededBounds", "[1 2] true", call(impl.NeededBounds(diagramOf(3, bound(0, 2, 9), bound(0, 1, 5), bound(1, 2, 4)))))
}
