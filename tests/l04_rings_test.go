package tests

import (
	"fmt"
	"math/rand"
	"slices"
	"testing"

	"loop.example/g01153/impl"
)

// isFalling reports whether a list of indices is a falling ring, as the document says it.
func isFalling(d impl.Diagram, ring []int64) bool {
	if len(ring) < 2 {
		return false
	}
	sum := int64(0)
	bounds, events := map[int64]bool{}, map[int64]bool{}
	for i, index := range ring {
		next := ring[(i+1)%len(ring)]
		if d.Bounds[index].To != d.Bounds[next].From {
			return false
		}
		bounds[index], events[d.Bounds[index].From] = true, true
		sum += d.Bounds[index].Most
	}
	return len(bounds) == len(ring) && len(events) == len(ring) && sum < 0
}

// isBetterRing reports whether a ring has fewer bounds than another one, or as many and is lexicographically less; any ring is better than none.
func isBetterRing(a, b []int64) bool {
	if len(b) == 0 || len(a) != len(b) {
		return len(b) == 0 || len(a) < len(b)
	}
	return slices.Compare(a, b) < 0
}

// bestOfLists returns the best falling ring of all lists of different bounds.
func bestOfLists(d impl.Diagram) []int64 {
	var best, list []int64
	var extend func()
	extend = func() {
		if isFalling(d, list) && isBetterRing(list, best) {
			best = slices.Clone(list)
		}
		for i := range d.Bounds {
			if !slices.Contains(list, int64(i)) {
				list = append(list, int64(i))
				extend()
				list = list[:len(list)-1]
			}
		}
	}
	extend()
	return best
}

// leastOver returns the index of the first bound of two events with which sum is less than limit, and the least Most of these bounds.
func leastOver(d impl.Diagram, from, to, limit int64) (index, least int64) {
	index, least = -1, boundless
	for i, b := range d.Bounds {
		if b.From != from || b.To != to {
			continue
		}
		least = min(least, b.Most)
		if index < 0 && b.Most < limit {
			index = int64(i)
		}
	}
	return index, least
}

// ringOver returns the lexicographically least falling ring over events in this order; none if there is none.
func ringOver(d impl.Diagram, events []int64) []int64 {
	rest := int64(0)
	for i, from := range events {
		_, least := leastOver(d, from, events[(i+1)%len(events)], 0)
		rest += least
	}
	var ring []int64
	sum := int64(0)
	for i, from := range events {
		to := events[(i+1)%len(events)]
		_, least := leastOver(d, from, to, 0)
		rest -= least
		index, _ := leastOver(d, from, to, -sum-rest)
		if index < 0 {
			return nil
		}
		ring = append(ring, index)
		sum += d.Bounds[index].Most
	}
	return ring
}

// bestOfOrders returns the best falling ring over all orders of events.
func bestOfOrders(d impl.Diagram) []int64 {
	var best, events []int64
	var extend func()
	extend = func() {
		if len(events) > 1 {
			if ring := ringOver(d, events); ring != nil && isBetterRing(ring, best) {
				best = ring
			}
		}
		for event := range d.Events {
			if slices.Contains(events, event) {
				continue
			}
			if len(events) > 0 {
				if _, least := leastOver(d, events[len(events)-1], event, 0); least == boundless {
					continue
				}
			}
			events = append(events, event)
			extend()
			events = events[:len(events)-1]
		}
	}
	extend()
	return best
}

func TestFallingRing(t *testing.T) {
	source := rand.New(rand.NewSource(6))
	list := smallDiagrams()
	for i := range 1500 {
		list = append(list, anyDiagram(source, 3+int64(i)%2, 3, 4+i%3))
	}
	for _, d := range list {
		best := bestOfLists(d)
		expect(t, fmt.Sprint("FallingRing ", d), fmt.Sprint(best, best != nil), call(impl.FallingRing(d)))
	}
}

// ringDiagrams are large diagrams of at most 7 events, with long falling rings among others.
func ringDiagrams() []impl.Diagram {
	var list []impl.Diagram
	for _, d := range largeDiagrams() {
		if d.Events <= 7 {
			list = append(list, d)
		}
	}
	source := rand.New(rand.NewSource(7))
	for i := range 300 {
		d := ringOf(7, -1, 5)
		d.Bounds = append(d.Bounds, anyDiagram(source, 7, 20, 3+i%5).Bounds...)
		source.Shuffle(len(d.Bounds), func(i, j int) { d.Bounds[i], d.Bounds[j] = d.Bounds[j], d.Bounds[i] })
		list = append(list, d, nearDiagram(source, 5+int64(i)%3, 12, 12), nearDiagram(source, 5+int64(i)%3, impl.MaxBounds, 2))
	}
	return list
}

func TestFallingRingOfLargeDiagrams(t *testing.T) {
	sizes := map[int]int{}
	for _, d := range ringDiagrams() {
		best := bestOfOrders(d)
		sizes[len(best)]++
		expect(t, fmt.Sprint("FallingRing ", d), fmt.Sprint(best, best != nil), call(impl.FallingRing(d)))
		if best != nil && !isFalling(d, best) {
			t.Errorf("FallingRing %v: %v does not fall", d, best)
		}
	}
	for _, size := range []int{0, 2, 3, 4, 5, 6, 7} {
		if sizes[size] == 0 {
			t.Errorf("no diagram has a first ring of %d bounds", size)
		}
	}
}

func TestTimingOrFallingRing(t *testing.T) {
	for _, d := range append(smallDiagrams(), ringDiagrams()...) {
		_, isTimed := impl.TightestBounds(d)
		_, isFallen := impl.FallingRing(d)
		if isTimed == isFallen {
			t.Errorf("%v: timing %v, falling ring %v", d, isTimed, isFallen)
		}
	}
}

func TestFallingRingOfSeveral(t *testing.T) {
	expect(t, "fewest bounds", "[0 3] true", call(impl.FallingRing(diagramOf(3, bound(0, 1, -5), bound(1, 2, -5), bound(2, 0, -5), bound(1, 0, 4)))))
	expect(t, "from its least index", "[0 1] true", call(impl.FallingRing(diagramOf(2, bound(1, 0, -2), bound(0, 1, 1)))))
	expect(t, "over events, not indices", "[0 2 1] true", call(impl.FallingRing(diagramOf(3, bound(0, 1, -1), bound(2, 0, 0), bound(1, 2, 0)))))
	expect(t, "the first one that falls, not the deepest one", "[1 2] true", call(impl.FallingRing(diagramOf(2, bound(0, 1, 5), bound(1, 0, -2), bound(0, 1, 1), bound(0, 1, 0)))))
	expect(t, "the first one elsewhere", "[1 3] true", call(impl.FallingRing(diagramOf(4, bound(0, 1, 1), bound(2, 3, -1), bound(1, 0, -1), bound(3, 2, 0)))))
	expect(t, "a sum of 0", "[] false", call(impl.FallingRing(diagramOf(2, bound(0, 1, -1000), bound(1, 0, 1000)))))
	expect(t, "twice over one event", "[] false", call(impl.FallingRing(diagramOf(3, bound(0, 1, -1), bound(1, 0, 1), bound(1, 2, -1), bound(2, 1, 1)))))
}

func TestFallingRingLimits(t *testing.T) {
	for events := int64(2); events <= impl.MaxEvents; events++ {
		falls, stays := ringOf(events, -1, events-2), ringOf(events, -1, events-1)
		want := "[] false"
		if events <= 7 {
			want = fmt.Sprint([]int{0, 1, 2, 3, 4, 5, 6}[:events], true)
		}
		expect(t, fmt.Sprint("a ring of ", events), want, call(impl.FallingRing(falls)))
		expect(t, fmt.Sprint("a ring without a fall of ", events), "[] false", call(impl.FallingRing(stays)))
		_, ok := impl.TightestBounds(falls)
		expect(t, fmt.Sprint("a timing of ", events), "false", ok)
		_, ok = impl.TightestBounds(stays)
		expect(t, fmt.Sprint("a timing of ", events), "true", ok)
	}
	expect(t, "a ring of two of 8 events", "[] false", call(impl.FallingRing(diagramOf(8, bound(0, 1, -1), bound(1, 0, 0)))))
	expect(t, "a ring of two of 7 events", "[0 1] true", call(impl.FallingRing(diagramOf(7, bound(6, 5, -1), bound(5, 6, 0)))))
	expect(t, "the deepest fall", "[0 1] true", call(impl.FallingRing(diagramOf(2, bound(0, 1, -1000), bound(1, 0, -1000)))))
	expect(t, "one event", "[] false", call(impl.FallingRing(diagramOf(1))))
	for _, d := range noDiagrams() {
		expect(t, fmt.Sprint("FallingRing ", d), "[] false", call(impl.FallingRing(d)))
	}
}

// fanOf returns a ring of 7 events with all of the bounds, of which several lead from each event to the next one.
func fanOf(most, last int64) impl.Diagram {
	d := diagramOf(7)
	for i := range int64(impl.MaxBounds) {
		d.Bounds = append(d.Bounds, bound(i%7, (i+1)%7, most))
	}
	d.Bounds[impl.MaxBounds-1].Most = last
	return d
}

func TestFallingRingOfMany(t *testing.T) {
	expect(t, "no ring falls", "[] false", call(impl.FallingRing(fanOf(1, -6))))
	expect(t, "the last bound falls", "[0 1 23 3 4 5 6] true", call(impl.FallingRing(fanOf(1, -7))))
}

func TestRingExamples(t *testing.T) {
	d := exampleDiagram()
	expect(t, "FallingRing", "[] false", call(impl.FallingRing(d)))
	d.Bounds = append(d.Bounds, bound(0, 1, 1))
	expect(t, "FallingRing", "[1 3] true", call(impl.FallingRing(d)))
	expect(t, "TightestBounds", "[] false", call(impl.TightestBounds(d)))
}
