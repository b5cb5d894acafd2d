package tests

import (
	"fmt"
	"math"
	"math/rand"
	"slices"
	"testing"

	"loop.example/g01153/impl"
)

// bound returns a bound with these fields, valid or not.
func bound(from, to, most int64) impl.Bound {
	return impl.Bound{From: from, To: to, Most: most}
}

// diagramOf returns a diagram with these fields, valid or not.
func diagramOf(events int64, bounds ...impl.Bound) impl.Diagram {
	return impl.Diagram{Events: events, Bounds: bounds}
}

// exampleDiagram is the diagram of the document's example.
func exampleDiagram() impl.Diagram {
	return diagramOf(3, bound(0, 1, 5), bound(1, 0, -2), bound(1, 2, 4))
}

// rowOf returns a diagram in which each event but the last one has a bound to the next one.
func rowOf(events, most int64) impl.Diagram {
	d := diagramOf(events)
	for event := range events - 1 {
		d.Bounds = append(d.Bounds, bound(event, event+1, most))
	}
	return d
}

// ringOf returns a diagram of one ring over all events.
func ringOf(events, most, last int64) impl.Diagram {
	d := rowOf(events, most)
	d.Bounds = append(d.Bounds, bound(events-1, 0, last))
	return d
}

// allBounds are all bounds of some events with Most from -size to size.
func allBounds(events, size int64) []impl.Bound {
	var list []impl.Bound
	for from := range events {
		for to := range events {
			for most := -size; most <= size && from != to; most++ {
				list = append(list, bound(from, to, most))
			}
		}
	}
	return list
}

// allDiagrams yields each diagram of some events with at most so many bounds, with Most from -size to size.
func allDiagrams(events, size int64, most int) func(yield func(impl.Diagram) bool) {
	return func(yield func(impl.Diagram) bool) {
		all := allBounds(events, size)
		var extend func(bounds []impl.Bound) bool
		extend = func(bounds []impl.Bound) bool {
			if !yield(diagramOf(events, slices.Clone(bounds)...)) {
				return false
			}
			for _, b := range all {
				if len(bounds) < most && !extend(append(bounds, b)) {
					return false
				}
			}
			return true
		}
		extend(nil)
	}
}

// anyDiagram returns a diagram that a source chooses, with Most from -size to size.
func anyDiagram(source *rand.Rand, events, size int64, bounds int) impl.Diagram {
	all := allBounds(events, size)
	d := diagramOf(events)
	for range bounds {
		if len(all) > 0 {
			d.Bounds = append(d.Bounds, all[source.Intn(len(all))])
		}
	}
	return d
}

// nearDiagram returns a diagram with bounds that some times keep, but for a few that may miss them by a little.
func nearDiagram(source *rand.Rand, events int64, bounds int, missed int64) impl.Diagram {
	times := make([]int64, events)
	for event := range times {
		times[event] = source.Int63n(900)
	}
	d := diagramOf(events)
	for len(d.Bounds) < bounds {
		from, to := source.Int63n(events), source.Int63n(events)
		most := times[to] - times[from] + source.Int63n(60) - missed
		if from != to && most >= -impl.MaxLimit && most <= impl.MaxLimit {
			d.Bounds = append(d.Bounds, bound(from, to, most))
		}
	}
	return d
}

// smallDiagrams are diagrams of 1 to 3 events with Most from -2 to 2.
func smallDiagrams() []impl.Diagram {
	list := []impl.Diagram{diagramOf(1)}
	for d := range allDiagrams(2, 2, 3) {
		list = append(list, d)
	}
	for d := range allDiagrams(3, 1, 2) {
		list = append(list, d)
	}
	source := rand.New(rand.NewSource(4))
	for i := range 900 {
		list = append(list, anyDiagram(source, 3, 2, 2+i%5))
	}
	return list
}

// largeDiagrams are diagrams up to as many events and bounds as there can be, some of them with falling rings.
func largeDiagrams() []impl.Diagram {
	list := []impl.Diagram{exampleDiagram(), rowOf(10, 1000), rowOf(10, -1000), rowOf(10, 0), ringOf(10, 1000, -1000), ringOf(10, -100, 900), ringOf(10, -100, 899), ringOf(10, 0, 0), ringOf(10, 0, -1),
		diagramOf(impl.MaxEvents), diagramOf(10, listOf(bound(0, 9, 7), impl.MaxBounds)...), diagramOf(2, listOf(bound(1, 0, -1000), impl.MaxBounds)...)}
	source := rand.New(rand.NewSource(5))
	for i := range 400 {
		events := 2 + int64(i)%(impl.MaxEvents-1)
		list = append(list, nearDiagram(source, events, 1+i%impl.MaxBounds, 0), nearDiagram(source, events, impl.MaxBounds, 0), nearDiagram(source, events, 6+i%19, 20), anyDiagram(source, events, 40, 1+i%impl.MaxBounds))
	}
	return list
}

// noBounds are bounds that no diagram of two events has.
func noBounds() []impl.Bound {
	return []impl.Bound{bound(0, 0, 5), bound(1, 1, 0), bound(0, 2, 5), bound(2, 0, 5), bound(-1, 0, 5), bound(0, -1, 5), bound(0, 1, impl.MaxLimit+1), bound(1, 0, -impl.MaxLimit-1), bound(0, 1, impl.NoLimit),
		bound(math.MinInt64, 0, 0), bound(0, math.MinInt64, 0), bound(0, math.MaxInt64, 0), bound(math.MaxInt64, 1, 0), bound(0, 1, math.MinInt64), bound(0, 1, math.MaxInt64)}
}

// noDiagrams are diagrams that are not valid.
func noDiagrams() []impl.Diagram {
	list := []impl.Diagram{{}, diagramOf(-1), diagramOf(0), diagramOf(impl.MaxEvents + 1), diagramOf(math.MinInt64), diagramOf(math.MaxInt64), diagramOf(0, bound(0, 1, 5)), diagramOf(1, bound(0, 1, 5)),
		diagramOf(math.MaxInt64, bound(0, 1, 5)), diagramOf(impl.MaxEvents+1, bound(0, 10, 5)), diagramOf(impl.MaxEvents, bound(0, 10, 5)),
		diagramOf(2, listOf(bound(0, 1, 5), impl.MaxBounds+1)...), diagramOf(2, listOf(bound(0, 1, 5), 5000)...)}
	for _, b := range noBounds() {
		list = append(list, diagramOf(2, b), diagramOf(2, bound(0, 1, 5), b), diagramOf(2, b, bound(0, 1, 5)))
	}
	return list
}

// areKept reports whether times keep all bounds.
func areKept(bounds []impl.Bound, times []int64) bool {
	return !slices.ContainsFunc(bounds, func(b impl.Bound) bool { return times[b.To] > times[b.From]+b.Most })
}

func TestDiagramLimits(t *testing.T) {
	expect(t, "limits of chapter 4", "10 24 1000 1000000", impl.MaxEvents, impl.MaxBounds, impl.MaxLimit, impl.NoLimit)
}

func TestValidDiagram(t *testing.T) {
	for _, d := range append(smallDiagrams(), largeDiagrams()...) {
		expect(t, fmt.Sprint("ValidDiagram ", d), "true", impl.ValidDiagram(d))
	}
	for _, d := range noDiagrams() {
		expect(t, fmt.Sprint("ValidDiagram ", d), "false", impl.ValidDiagram(d))
	}
	for events := int64(-2); events <= impl.MaxEvents+2; events++ {
		expect(t, fmt.Sprint("events ", events), fmt.Sprint(events >= 1 && events <= 10), impl.ValidDiagram(diagramOf(events)))
	}
	for _, bounds := range []int{0, 1, 23, 24, 25, 26} {
		expect(t, fmt.Sprint("bounds ", bounds), fmt.Sprint(bounds <= 24), impl.ValidDiagram(diagramOf(2, listOf(bound(0, 1, 5), bounds)...)))
	}
}

func TestValidBounds(t *testing.T) {
	for events := int64(1); events <= impl.MaxEvents; events++ {
		for from := int64(-2); from <= impl.MaxEvents+1; from++ {
			for to := int64(-2); to <= impl.MaxEvents+1; to++ {
				want := from != to && from >= 0 && from < events && to >= 0 && to < events
				expect(t, fmt.Sprint("ValidDiagram ", events, from, to), fmt.Sprint(want), impl.ValidDiagram(diagramOf(events, bound(from, to, 0))))
			}
		}
	}
	for _, most := range []int64{-1002, -1001, -1000, -999, 0, 999, 1000, 1001, 1002} {
		want := most >= -1000 && most <= 1000
		expect(t, fmt.Sprint("ValidDiagram ", most), fmt.Sprint(want), impl.ValidDiagram(diagramOf(2, bound(0, 1, most))))
	}
}

func TestBetween(t *testing.T) {
	for from := int64(-2); from <= impl.MaxEvents+1; from++ {
		for to := int64(-2); to <= impl.MaxEvents+1; to++ {
			want := "[] false"
			if from != to && from >= 0 && from < 10 && to >= 0 && to < 10 {
				want = fmt.Sprint("[", bound(from, to, 7), " ", bound(to, from, -3), "] true")
			}
			expect(t, fmt.Sprint("Between ", from, to), want, call(impl.Between(from, to, 3, 7)))
		}
	}
	sizes := []int64{math.MinInt64, math.MinInt64 + 1, -1001, -1000, -5, 0, 5, 1000, 1001, math.MaxInt64}
	for _, least := range sizes {
		for _, most := range sizes {
			want := "[] false"
			if least >= -1000 && least <= 1000 && most >= -1000 && most <= 1000 {
				want = fmt.Sprint("[{0 9 ", most, "} {9 0 ", -least, "}] true")
			}
			expect(t, fmt.Sprint("Between ", least, most), want, call(impl.Between(0, 9, least, most)))
		}
	}
}

func TestBetweenKeepsDifferences(t *testing.T) {
	for least := int64(-3); least <= 3; least++ {
		for most := int64(-3); most <= 3; most++ {
			bounds, _ := impl.Between(1, 0, least, most)
			for late := int64(-5); late <= 5; late++ {
				want := late >= least && late <= most
				expect(t, fmt.Sprint("Between ", least, most, late), fmt.Sprint(want), impl.IsTiming(diagramOf(2, bounds...), []int64{7 + late, 7}))
			}
		}
	}
}

func TestIsTiming(t *testing.T) {
	for _, d := range smallDiagrams() {
		for times := range allTimes(int(d.Events), 3) {
			if want := areKept(d.Bounds, times); impl.IsTiming(d, times) != want {
				t.Errorf("IsTiming %v %v: want %v", d, times, want)
			}
		}
	}
	expect(t, "a bound that is just kept", "true", impl.IsTiming(diagramOf(2, bound(0, 1, 1000)), []int64{-500, 500}))
	expect(t, "a bound that is missed by one", "false", impl.IsTiming(diagramOf(2, bound(0, 1, 1000)), []int64{-500, 501}))
	expect(t, "no bounds", "true", impl.IsTiming(diagramOf(2), []int64{-impl.NoLimit, impl.NoLimit}))
	expect(t, "the last of all bounds", "false", impl.IsTiming(diagramOf(2, append(listOf(bound(0, 1, 5), 23), bound(0, 1, 4))...), []int64{0, 5}))
}

func TestIsTimingRequires(t *testing.T) {
	for _, d := range noDiagrams() {
		for _, times := range [][]int64{nil, {0}, {0, 0}, listOf[int64](0, 10), listOf[int64](0, 11)} {
			expect(t, fmt.Sprint("IsTiming ", d, times), "false", impl.IsTiming(d, times))
		}
	}
	for length := range 13 {
		expect(t, fmt.Sprint("IsTiming of ", length), fmt.Sprint(length == 10), impl.IsTiming(diagramOf(10), listOf[int64](0, length)))
		expect(t, fmt.Sprint("IsTiming of ", length), fmt.Sprint(length == 1), impl.IsTiming(diagramOf(1), listOf[int64](0, length)))
	}
	for _, time := range []int64{math.MinInt64, -1000001, -1000000, 0, 1000000, 1000001, math.MaxInt64} {
		want := time >= -1000000 && time <= 1000000
		expect(t, fmt.Sprint("IsTiming at ", time), fmt.Sprint(want), impl.IsTiming(diagramOf(1), []int64{time}))
		expect(t, fmt.Sprint("IsTiming from ", time), fmt.Sprint(want), impl.IsTiming(diagramOf(3, bound(0, 1, 0)), []int64{time, time, 0}))
		expect(t, fmt.Sprint("IsTiming to ", time), fmt.Sprint(want), impl.IsTiming(diagramOf(3, bound(0, 1, 0)), []int64{0, 0, time}))
	}
	expect(t, "a difference that is no int64", "false", impl.IsTiming(diagramOf(2, bound(0, 1, 5)), []int64{math.MinInt64, math.MaxInt64}))
	expect(t, "a difference that is no int64", "false", impl.IsTiming(diagramOf(2, bound(0, 1, 5)), []int64{math.MaxInt64, math.MinInt64}))
}
