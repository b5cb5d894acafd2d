package tests

import (
	"fmt"
	"math"
	"testing"

	"loop.example/g01153/impl"
)

// boundless is greater than all sums of bounds.
const boundless = int64(1) << 40

// allTimes yields all times of some events from -size to size, with the time 0 of the first one.
func allTimes(events int, size int64) func(yield func([]int64) bool) {
	return func(yield func([]int64) bool) {
		times := make([]int64, events)
		var choose func(event int) bool
		choose = func(event int) bool {
			if event == events {
				return yield(times)
			}
			for times[event] = -size; times[event] <= size; times[event]++ {
				if !choose(event + 1) {
					return false
				}
			}
			return true
		}
		choose(1)
	}
}

// widestOf returns the greatest differences that the timings of a small diagram have, each timing for itself; none if there is no timing.
// The sums of two bounds are at most 4, and all differences that have a limit are.
func widestOf(d impl.Diagram) [][]int64 {
	var widest [][]int64
	for times := range allTimes(int(d.Events), 9) {
		if !areKept(d.Bounds, times) {
			continue
		}
		if widest == nil {
			widest = listOf[[]int64](nil, int(d.Events))
			for from := range widest {
				widest[from] = listOf(-boundless, int(d.Events))
			}
		}
		for from := range times {
			for to := range times {
				widest[from][to] = max(widest[from][to], times[to]-times[from])
			}
		}
	}
	for from := range widest {
		for to, most := range widest[from] {
			if most > 4 {
				widest[from][to] = impl.NoLimit
			}
		}
	}
	return widest
}

// closureOf returns the least sums of bounds over any others in between; none if a ring falls.
func closureOf(d impl.Diagram) [][]int64 {
	sums := listOf[[]int64](nil, int(d.Events))
	for from := range sums {
		sums[from] = listOf(boundless, int(d.Events))
		sums[from][from] = 0
	}
	for _, b := range d.Bounds {
		sums[b.From][b.To] = min(sums[b.From][b.To], b.Most)
	}
	for over := range sums {
		for from := range sums {
			for to := range sums {
				if sums[from][over] < boundless && sums[over][to] < boundless {
					sums[from][to] = min(sums[from][to], sums[from][over]+sums[over][to])
				}
			}
		}
	}
	for from := range sums {
		if sums[from][from] < 0 {
			return nil
		}
		for to, most := range sums[from] {
			if most == boundless {
				sums[from][to] = impl.NoLimit
			}
		}
	}
	return sums
}

// checkDiagram compares all functions of a diagram with the greatest differences of its events.
func checkDiagram(t *testing.T, d impl.Diagram, widest [][]int64) {
	t.Helper()
	want := fmt.Sprint(widest, widest != nil)
	expect(t, fmt.Sprint("TightestBounds ", d), want, call(impl.TightestBounds(d)))
	for first := range d.Events {
		early, late := listOf[int64](0, int(d.Events)), listOf[int64](0, int(d.Events))
		isEarly, isLate := widest != nil, widest != nil
		for event := range early {
			if widest != nil {
				early[event], late[event] = -widest[event][first], widest[first][event]
				isEarly = isEarly && widest[event][first] != impl.NoLimit
				isLate = isLate && widest[first][event] != impl.NoLimit
			}
			checkGap(t, d, widest, first, int64(event))
		}
		checkTimes(t, fmt.Sprint("EarliestTimes ", d, first), d, early, isEarly, call(impl.EarliestTimes(d, first)))
		checkTimes(t, fmt.Sprint("LatestTimes ", d, first), d, late, isLate, call(impl.LatestTimes(d, first)))
	}
}

// checkGap checks the least and the greatest difference of two events.
func checkGap(t *testing.T, d impl.Diagram, widest [][]int64, from, to int64) {
	t.Helper()
	want := "0 0 false"
	if widest != nil && widest[from][to] != impl.NoLimit && widest[to][from] != impl.NoLimit {
		want = fmt.Sprint(-widest[to][from], widest[from][to], true)
	}
	least, most, ok := impl.GapOf(d, from, to)
	expect(t, fmt.Sprint("GapOf ", d, from, to), want, fmt.Sprint(least, most, ok))
}

// checkTimes checks times that are a timing, if there are some.
func checkTimes(t *testing.T, what string, d impl.Diagram, times []int64, are bool, got string) {
	t.Helper()
	if !are {
		expect(t, what, "[] false", got)
		return
	}
	expect(t, what, fmt.Sprint(times, true), got)
	if !areKept(d.Bounds, times) || !impl.IsTiming(d, times) {
		t.Errorf("%s: %v are no timing", what, times)
	}
}

func TestDifferencesOfAllTimings(t *testing.T) {
	for _, d := range smallDiagrams() {
		checkDiagram(t, d, widestOf(d))
	}
}

func TestDifferencesOfLargeDiagrams(t *testing.T) {
	with := 0
	list := largeDiagrams()
	for _, d := range list {
		sums := closureOf(d)
		checkDiagram(t, d, sums)
		if sums != nil {
			with++
		}
	}
	if with < len(list)/4 || with > len(list)*3/4 {
		t.Errorf("%d of %d diagrams have a timing", with, len(list))
	}
}

// laterOf returns a timing in which each event that has a limit behind from is as late as it can be, and all others are later by more than any sum of bounds.
func laterOf(tight [][]int64, from int, later int64) []int64 {
	times := make([]int64, len(tight))
	for event := range tight {
		times[event] = tight[from][event]
		if times[event] == impl.NoLimit {
			times[event] = later
			for other := range tight {
				times[event] = min(times[event], later+tight[other][event])
			}
		}
	}
	return times
}

func TestBoundsAreReached(t *testing.T) {
	for _, d := range append(smallDiagrams(), largeDiagrams()...) {
		tight, ok := impl.TightestBounds(d)
		if !ok {
			continue
		}
		for from := range tight {
			for _, later := range []int64{50000, 50001, 900000} {
				times := laterOf(tight, from, later)
				if !areKept(d.Bounds, times) || !impl.IsTiming(d, times) {
					t.Errorf("TightestBounds %v: %v is not reached by %v", d, tight[from], times)
				}
			}
		}
	}
}

func TestFarthestDifferences(t *testing.T) {
	row := rowOf(10, 1000)
	tight, _ := impl.TightestBounds(row)
	expect(t, "the greatest one", "[0 1000 2000 3000 4000 5000 6000 7000 8000 9000]", tight[0])
	expect(t, "no way back", "[1000000 1000000 1000000 1000000 1000000 1000000 1000000 1000000 1000000 0]", tight[9])
	expect(t, "latest", "[0 1000 2000 3000 4000 5000 6000 7000 8000 9000] true", call(impl.LatestTimes(row, 0)))
	expect(t, "earliest", "[-9000 -8000 -7000 -6000 -5000 -4000 -3000 -2000 -1000 0] true", call(impl.EarliestTimes(row, 9)))
	expect(t, "as early as one likes", "[] false", call(impl.EarliestTimes(row, 0)))
	expect(t, "as late as one likes", "[] false", call(impl.LatestTimes(row, 1)))
	back := rowOf(10, -1000)
	expect(t, "latest", "[0 -1000 -2000 -3000 -4000 -5000 -6000 -7000 -8000 -9000] true", call(impl.LatestTimes(back, 0)))
	expect(t, "one event", "[[0]] true", call(impl.TightestBounds(diagramOf(1))))
	expect(t, "one event", "[0] true", call(impl.EarliestTimes(diagramOf(1), 0)))
	expect(t, "no bounds", "[[0 1000000] [1000000 0]] true", call(impl.TightestBounds(diagramOf(2))))
	expect(t, "just no contradiction", "[[0 -900] [900 0]] true", call(impl.TightestBounds(diagramOf(2, bound(0, 1, -900), bound(1, 0, 900)))))
	expect(t, "a contradiction", "[] false", call(impl.TightestBounds(diagramOf(2, bound(0, 1, -900), bound(1, 0, 899)))))
	expect(t, "a contradiction of others", "[] false", call(impl.LatestTimes(diagramOf(3, bound(0, 1, -1), bound(1, 0, 0)), 2)))
	expect(t, "a contradiction behind it", "[] false", call(impl.TightestBounds(diagramOf(4, bound(0, 1, 5), bound(1, 2, 3), bound(2, 3, -9), bound(3, 1, 5)))))
}

func TestRowsShareNoMemory(t *testing.T) {
	for _, d := range largeDiagrams() {
		tight, _ := impl.TightestBounds(d)
		checkSeparate(t, fmt.Sprint("TightestBounds ", d), tight, closureOf(d))
	}
}

func TestGapOfTheSameEvent(t *testing.T) {
	for event := range int64(3) {
		least, most, ok := impl.GapOf(exampleDiagram(), event, event)
		expect(t, "GapOf", "0 0 true", least, most, ok)
		least, most, ok = impl.GapOf(diagramOf(3, bound(0, 1, 1), bound(1, 0, -2)), event, event)
		expect(t, "GapOf without a timing", "0 0 false", least, most, ok)
	}
}

// noEvents are numbers that are no events of three.
func noEvents() []int64 {
	return []int64{math.MinInt64, -1, 3, 4, 10, math.MaxInt64}
}

func TestDifferencesRequire(t *testing.T) {
	for _, d := range noDiagrams() {
		what := fmt.Sprint(d)
		least, most, ok := impl.GapOf(d, 0, 1)
		expect(t, "GapOf "+what, "0 0 false", least, most, ok)
		least, most, ok = impl.GapOf(d, 0, 0)
		expect(t, "GapOf "+what, "0 0 false", least, most, ok)
		expect(t, "TightestBounds "+what, "[] false", call(impl.TightestBounds(d)))
		expect(t, "EarliestTimes "+what, "[] false", call(impl.EarliestTimes(d, 0)))
		expect(t, "LatestTimes "+what, "[] false", call(impl.LatestTimes(d, 0)))
	}
	d := diagramOf(3, bound(0, 1, 5), bound(1, 2, 5), bound(2, 0, 5))
	for _, event := range noEvents() {
		for other := range int64(3) {
			least, most, ok := impl.GapOf(d, event, other)
			expect(t, fmt.Sprint("GapOf ", event, other), "0 0 false", least, most, ok)
			least, most, ok = impl.GapOf(d, other, event)
			expect(t, fmt.Sprint("GapOf ", other, event), "0 0 false", least, most, ok)
		}
		least, most, ok := impl.GapOf(d, event, event)
		expect(t, fmt.Sprint("GapOf ", event, event), "0 0 false", least, most, ok)
		expect(t, fmt.Sprint("EarliestTimes ", event), "[] false", call(impl.EarliestTimes(d, event)))
		expect(t, fmt.Sprint("LatestTimes ", event), "[] false", call(impl.LatestTimes(d, event)))
	}
}

func TestTightestExamples(t *testing.T) {
	d := exampleDiagram()
	expect(t, "TightestBounds", "[[0 5 9] [-2 0 4] [1000000 1000000 0]] true", call(impl.TightestBounds(d)))
	least, most, ok := impl.GapOf(d, 0, 1)
	expect(t, "GapOf", "2 5 true", least, most, ok)
	least, most, ok = impl.GapOf(d, 1, 0)
	expect(t, "GapOf back", "-5 -2 true", least, most, ok)
	least, most, ok = impl.GapOf(d, 0, 2)
	expect(t, "no least gap", "0 0 false", least, most, ok)
	least, most, ok = impl.GapOf(d, 2, 0)
	expect(t, "no greatest gap", "0 0 false", least, most, ok)
	expect(t, "LatestTimes", "[0 5 9] true", call(impl.LatestTimes(d, 0)))
	expect(t, "EarliestTimes", "[] false", call(impl.EarliestTimes(d, 0)))
	expect(t, "EarliestTimes", "[0 2] true", call(impl.EarliestTimes(diagramOf(2, bound(0, 1, 5), bound(1, 0, -2)), 0)))
}
