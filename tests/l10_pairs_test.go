package tests

import (
	"fmt"
	"math"
	"testing"

	"loop.example/g01153/impl"
)

// nearEdges returns what NearEdges returns.
func nearEdges(a, b impl.Clock, before, behind int64) string {
	near, all, ok := impl.NearEdges(a, b, before, behind)
	return fmt.Sprint(near, all, ok)
}

// edgesFrom returns the moments of the edges of a clock from a moment on and before another one.
func edgesFrom(c impl.Clock, from, to int64) []int64 {
	moments := []int64{}
	for _, moment := range edgesUntil(c, to) {
		if moment >= from {
			moments = append(moments, moment)
		}
	}
	return moments
}

// eachPair calls visit with each pair of small clocks, and a moment from which on and a common period.
func eachPair(visit func(a, b impl.Clock, start, common int64)) {
	for _, a := range clocksTo(9, 6) {
		for _, b := range clocksTo(9, 6) {
			visit(a, b, max(a.Offset, b.Offset), periodOfAll([]impl.Clock{a, b}))
		}
	}
}

func TestLeastGap(t *testing.T) {
	eachPair(func(a, b impl.Clock, start, common int64) {
		least := int64(math.MaxInt64)
		for _, one := range edgesFrom(b, start, start+common+20) {
			for _, other := range edgesFrom(a, start, start+common+20) {
				least = min(least, max(one-other, other-one))
			}
		}
		expect(t, fmt.Sprint("LeastGap ", a, b), fmt.Sprint(least, true), call(impl.LeastGap(a, b)))
		_, meets := impl.FirstMeeting([]impl.Clock{a, b})
		expect(t, fmt.Sprint("FirstMeeting ", a, b), fmt.Sprint(least == 0), meets)
	})
}

func TestLongestWait(t *testing.T) {
	eachPair(func(a, b impl.Clock, start, common int64) {
		longest := int64(-1)
		for _, from := range edgesFrom(a, b.Offset, start+2*common) {
			next := from
			for !isEdge(b, next) {
				next++
			}
			longest = max(longest, next-from)
		}
		expect(t, fmt.Sprint("LongestWait ", a, b), fmt.Sprint(longest, true), call(impl.LongestWait(a, b)))
	})
}

// isNear reports whether an edge of a is at most before before a moment, or less than behind behind it.
func isNear(a impl.Clock, moment, before, behind int64) bool {
	for other := moment - before; other < moment+behind || other <= moment; other++ {
		if isEdge(a, other) {
			return true
		}
	}
	return false
}

func TestNearEdges(t *testing.T) {
	eachPair(func(a, b impl.Clock, start, common int64) {
		for before := range int64(11) {
			for behind := range int64(11) {
				near, all := 0, 0
				for _, moment := range edgesFrom(b, start, start+common) {
					all++
					if isNear(a, moment, before, behind) {
						near++
					}
				}
				expect(t, fmt.Sprint("NearEdges ", a, b, before, behind), fmt.Sprint(near, all, true), nearEdges(a, b, before, behind))
			}
		}
	})
}

// nearOfAll returns what NearEdges should, with a look at each edge of b in a common period behind all offsets.
func nearOfAll(a, b impl.Clock, before, behind int64) string {
	near, all := 0, 0
	done := map[int64]bool{}
	moment := b.Offset + 100000*b.Period
	for ; !done[(moment-a.Offset)%a.Period]; moment += b.Period {
		rest := (moment - a.Offset) % a.Period
		done[rest] = true
		all++
		if rest <= before || a.Period-rest < behind {
			near++
		}
	}
	return fmt.Sprint(near, all, true)
}

func TestPairsOfLargeClocks(t *testing.T) {
	const most = impl.MaxCycle
	clocks := []impl.Clock{clock(most, 0), clock(most, most), clock(most, 1), clock(most-1, 12345), clock(most-2, most), clock(65536, 4095), clock(51200, 31), clock(1, 77), clock(12, 5)}
	widths := []int64{0, 1, 2, 50, 4096, 49999, 50000, 50001, most - 2, most - 1, most}
	for i, a := range clocks {
		for j, b := range clocks {
			before, behind := widths[(3*i+j)%len(widths)], widths[(i+2*j)%len(widths)]
			expect(t, fmt.Sprint("NearEdges ", a, b, before, behind), nearOfAll(a, b, before, behind), nearEdges(a, b, before, behind))
			expect(t, fmt.Sprint("NearEdges ", a, b, behind, before), nearOfAll(a, b, behind, before), nearEdges(a, b, behind, before))
			longest, least := int64(0), int64(most)
			for _, from := range edgesFrom(a, most, most+a.Period*b.Period)[:min(b.Period, 3000)] {
				next, _ := impl.NextEdge(b, from)
				longest = max(longest, next-from)
				least = min(least, next-from, from-(next-b.Period))
			}
			gap, _ := impl.LeastGap(a, b)
			wait, _ := impl.LongestWait(a, b)
			if longest > wait || least < gap {
				t.Errorf("%v, %v: a wait %d and a gap %d, but %d and %d are told", a, b, longest, least, wait, gap)
			}
			// All waits are told by one of them and the divisor of both periods.
			if b.Period <= 3000 && (longest != wait || least != gap) {
				t.Errorf("%v, %v: the longest wait is %d, and the least gap %d, but %d and %d are told", a, b, longest, least, wait, gap)
			}
		}
	}
	expect(t, "LongestWait of the greatest periods", "99999 true", call(impl.LongestWait(clock(most, 1), clock(most, 0))))
	expect(t, "LongestWait of equal clocks", "0 true", call(impl.LongestWait(clock(most, most), clock(most, 0))))
	expect(t, "LongestWait for each tick", "0 true", call(impl.LongestWait(clock(most, 1), clock(1, most))))
	expect(t, "LongestWait of clocks that go round", "99999 true", call(impl.LongestWait(clock(most-1, 1), clock(most, 0))))
	expect(t, "LeastGap of the greatest periods", "50000 true", call(impl.LeastGap(clock(most, 0), clock(most, 50000))))
	expect(t, "LeastGap of one more", "49999 true", call(impl.LeastGap(clock(most, 0), clock(most, 50001))))
	expect(t, "LeastGap of clocks that go round", "0 true", call(impl.LeastGap(clock(most-1, 1), clock(most, 0))))
}

func TestLimitsOfNearEdges(t *testing.T) {
	const most = impl.MaxCycle
	a, b := clock(4, 0), clock(6, 1)
	expect(t, "the greatest before", "2 2 true", nearEdges(a, b, most, 0))
	expect(t, "the greatest behind", "2 2 true", nearEdges(a, b, 0, most))
	expect(t, "the least", "0 2 true", nearEdges(a, b, 0, 0))
	for _, no := range []int64{-1, math.MinInt64, most + 1, math.MaxInt64} {
		expect(t, fmt.Sprint("before ", no), "0 0 false", nearEdges(a, b, no, 0))
		expect(t, fmt.Sprint("behind ", no), "0 0 false", nearEdges(a, b, 0, no))
		expect(t, fmt.Sprint("both ", no), "0 0 false", nearEdges(a, b, no, no))
	}
	// At most before, but less than behind.
	expect(t, "3 before", "1 1 true", nearEdges(clock(8, 0), clock(8, 3), 3, 0))
	expect(t, "4 before", "0 1 true", nearEdges(clock(8, 0), clock(8, 4), 3, 0))
	expect(t, "3 behind", "0 1 true", nearEdges(clock(8, 3), clock(8, 0), 0, 3))
	expect(t, "2 behind", "1 1 true", nearEdges(clock(8, 2), clock(8, 0), 0, 3))
	expect(t, "at the same moment", "1 1 true", nearEdges(clock(8, 3), clock(8, 3), 0, 0))
	expect(t, "the greatest periods", "100000 100000 true", nearEdges(clock(most, 0), clock(most-1, 0), most-1, 0))
	expect(t, "the greatest periods without one", "99999 100000 true", nearEdges(clock(most, 0), clock(most-1, 0), most-2, 0))
	expect(t, "the greatest periods with that one", "100000 100000 true", nearEdges(clock(most, 0), clock(most-1, 0), most-2, 2))
	expect(t, "the greatest periods without that one", "99999 100000 true", nearEdges(clock(most, 0), clock(most-1, 0), most-2, 1))
}

func TestCountsBetween(t *testing.T) {
	eachPair(func(a, b impl.Clock, _, _ int64) {
		ours, theirs := edgesUntil(a, 100), edgesUntil(b, 100)
		for first := range 4 {
			for count := range 6 {
				want := []int64{}
				for k := first; k < first+count; k++ {
					between := int64(0)
					for _, moment := range theirs {
						if moment >= ours[k] && moment < ours[k+1] {
							between++
						}
					}
					want = append(want, between)
				}
				expect(t, fmt.Sprint("CountsBetween ", a, b, first, count), fmt.Sprint(want, true), call(impl.CountsBetween(a, b, int64(first), int64(count))))
			}
		}
	})
}

func TestCountsDifferByAtMostOne(t *testing.T) {
	clocks := append(clocksTo(5, 3), largeClocks()...)
	for _, a := range clocks {
		for _, b := range clocks {
			// From an edge of a on that is not before the first one of b.
			first := (b.Offset + a.Period) / a.Period
			counts, ok := impl.CountsBetween(a, b, first, 400)
			if !ok || len(counts) != 400 {
				t.Fatalf("CountsBetween %v %v: there are no counts", a, b)
			}
			total := int64(0)
			for _, count := range counts {
				total += count
				if count < a.Period/b.Period || count > (a.Period+b.Period-1)/b.Period {
					t.Errorf("CountsBetween %v %v: %d", a, b, count)
				}
			}
			from, _ := impl.EdgeAt(a, first)
			to, _ := impl.EdgeAt(a, first+400)
			expect(t, fmt.Sprint("all counts of ", a, b), call(impl.CountEdgesIn(b, from, to)), fmt.Sprint(total, true))
		}
	}
}

// gotCounts returns how many counts CountsBetween returns, and whether it succeeds.
func gotCounts(a, b impl.Clock, first, count int64) string {
	counts, ok := impl.CountsBetween(a, b, first, count)
	return fmt.Sprint(len(counts), ok)
}

func TestLimitsOfCountsBetween(t *testing.T) {
	const most = impl.MaxMoment
	one, c := clock(1, 0), clock(4, 1)
	expect(t, "as many as there can be", "400 true", gotCounts(c, one, 0, 400))
	expect(t, "one more", "0 false", gotCounts(c, one, 0, 401))
	expect(t, "none", "0 true", gotCounts(c, one, 0, 0))
	expect(t, "up to the last moment", "400 true", gotCounts(one, c, most-400, 400))
	expect(t, "behind the last moment", "0 false", gotCounts(one, c, most-399, 400))
	expect(t, "one up to the last moment", "1 true", gotCounts(one, c, most-1, 1))
	expect(t, "one behind the last moment", "0 false", gotCounts(one, c, most, 1))
	// No edges are needed for no counts.
	expect(t, "none at the last index", "0 true", gotCounts(one, c, most, 0))
	expect(t, "none of edges that are far behind", "0 true", gotCounts(clock(impl.MaxCycle, impl.MaxCycle), c, most, 0))
	expect(t, "none behind the last index", "0 false", gotCounts(one, c, most+1, 0))
	expect(t, "by the greatest period", "1 true", gotCounts(clock(impl.MaxCycle, 0), c, 9999999, 1))
	expect(t, "by the greatest period and 1", "0 false", gotCounts(clock(impl.MaxCycle, 1), c, 9999999, 1))
	expect(t, "by the greatest period, all at the end", "400 true", gotCounts(clock(impl.MaxCycle, 0), c, 9999600, 400))
	expect(t, "by the greatest period, one too late", "0 false", gotCounts(clock(impl.MaxCycle, 0), c, 9999601, 400))
	expect(t, "far behind", "0 false", gotCounts(clock(impl.MaxCycle, impl.MaxCycle), c, most, 400))
	// Edges of b that are behind the last moment are not needed.
	expect(t, "without edges of b", "[0 0] true", call(impl.CountsBetween(one, clock(impl.MaxCycle, 1), most-2, 2)))
	expect(t, "with an edge of b", "[0 1] true", call(impl.CountsBetween(one, clock(impl.MaxCycle, impl.MaxCycle-1), most-2, 2)))
	expect(t, "many edges of b", "[100000 100000] true", call(impl.CountsBetween(clock(impl.MaxCycle, 0), one, 0, 2)))
	expect(t, "before the first edge of b", "[0 0 2 3] true", call(impl.CountsBetween(clock(9, 1), clock(3, 24), 0, 4)))
	for _, no := range []int64{-1, math.MinInt64, math.MaxInt64} {
		expect(t, fmt.Sprint("first ", no), "0 false", gotCounts(c, one, no, 1))
		expect(t, fmt.Sprint("first of none ", no), "0 false", gotCounts(c, one, no, 0))
		expect(t, fmt.Sprint("count ", no), "0 false", gotCounts(c, one, 0, no))
		expect(t, fmt.Sprint("both ", no), "0 false", gotCounts(c, one, no, no))
	}
}
