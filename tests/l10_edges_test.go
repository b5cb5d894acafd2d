package tests

import (
	"fmt"
	"math"
	"testing"

	"loop.example/g01153/impl"
)

// clock returns a clock with a period and an offset, valid or not.
func clock(period, offset int64) impl.Clock {
	return impl.Clock{Period: period, Offset: offset}
}

// clocksTo are all clocks with periods and offsets up to these.
func clocksTo(period, offset int64) []impl.Clock {
	var list []impl.Clock
	for p := int64(1); p <= period; p++ {
		for o := range offset + 1 {
			list = append(list, clock(p, o))
		}
	}
	return list
}

// largeClocks are clocks with parts at their limits, and others that are large.
func largeClocks() []impl.Clock {
	const most = impl.MaxCycle
	return []impl.Clock{
		clock(1, 0), clock(1, most), clock(2, most), clock(3, most-1), clock(7, 1), clock(most, 0), clock(most, 1), clock(most, most-1), clock(most, most),
		clock(most-1, 0), clock(most-1, most), clock(99991, 12345), clock(99989, 99990), clock(65536, 4095), clock(78125, 78124), clock(51200, 31), clock(90090, 45045), clock(30030, 100000),
	}
}

// noClocks are clocks that are not valid.
func noClocks() []impl.Clock {
	return []impl.Clock{
		{}, clock(0, 1), clock(-1, 0), clock(-4, 1), clock(math.MinInt64, 0), clock(impl.MaxCycle+1, 0), clock(math.MaxInt64, 0), clock(math.MaxInt64, math.MaxInt64),
		clock(1, -1), clock(4, -1), clock(4, math.MinInt64), clock(4, impl.MaxCycle+1), clock(impl.MaxCycle, impl.MaxCycle+1), clock(4, math.MaxInt64), clock(impl.MaxCycle+1, impl.MaxCycle+1),
	}
}

// edgesUntil returns the moments of the edges of a clock before a moment.
func edgesUntil(c impl.Clock, end int64) []int64 {
	moments := []int64{}
	for moment := c.Offset; moment < end; moment += c.Period {
		moments = append(moments, moment)
	}
	return moments
}

// isEdge reports whether a clock has an edge at a moment.
func isEdge(c impl.Clock, moment int64) bool {
	return moment >= c.Offset && (moment-c.Offset)%c.Period == 0
}

func TestValidClock(t *testing.T) {
	for _, c := range append(clocksTo(4, 4), largeClocks()...) {
		expect(t, fmt.Sprint("ValidClock ", c), "true", impl.ValidClock(c))
	}
	for _, c := range noClocks() {
		expect(t, fmt.Sprint("ValidClock ", c), "false", impl.ValidClock(c))
	}
}

func TestEdges(t *testing.T) {
	const end = 30
	for _, c := range clocksTo(7, 9) {
		for index, moment := range edgesUntil(c, 200) {
			expect(t, fmt.Sprint("EdgeAt ", c, index), fmt.Sprint(moment, true), call(impl.EdgeAt(c, int64(index))))
		}
		for from := range int64(end) {
			next := from
			for !isEdge(c, next) {
				next++
			}
			expect(t, fmt.Sprint("NextEdge ", c, from), fmt.Sprint(next, true), call(impl.NextEdge(c, from)))
			count := 0
			for to := from; to < end; to++ {
				expect(t, fmt.Sprint("CountEdgesIn ", c, from, to), fmt.Sprint(count, true), call(impl.CountEdgesIn(c, from, to)))
				if isEdge(c, to) {
					count++
				}
			}
		}
	}
}

func TestEdgesBelongTogether(t *testing.T) {
	for _, c := range largeClocks() {
		for _, moment := range []int64{0, 1, 99999, 100000, 100001, 200000, 12345678901, impl.MaxMoment - 1, impl.MaxMoment} {
			what := fmt.Sprint(c, moment)
			index, ok := impl.CountEdgesIn(c, 0, moment)
			next, found := impl.NextEdge(c, moment)
			if !ok || !found {
				t.Fatalf("%s: there is no count or no edge", what)
			}
			if !isEdge(c, next) || next < moment || next-c.Period >= moment && next != c.Offset {
				t.Errorf("NextEdge %s: %d is not the next edge", what, next)
			}
			expect(t, "the index of the edge behind "+what, fmt.Sprint((next-c.Offset)/c.Period), index)
			want := fmt.Sprint(next, true)
			if next > impl.MaxMoment {
				want = "0 false"
			}
			expect(t, fmt.Sprint("EdgeAt ", c, index), want, call(impl.EdgeAt(c, index)))
			later, _ := impl.CountEdgesIn(c, moment, impl.MaxMoment)
			expect(t, "all edges of "+what, call(impl.CountEdgesIn(c, 0, impl.MaxMoment)), fmt.Sprint(index+later, true))
		}
	}
}

func TestLimitsOfEdgeAt(t *testing.T) {
	const most = impl.MaxMoment
	expect(t, "the last edge", "1000000000000 true", call(impl.EdgeAt(clock(1, 0), most)))
	expect(t, "one more", "0 false", call(impl.EdgeAt(clock(1, 0), most+1)))
	expect(t, "one behind the limit", "0 false", call(impl.EdgeAt(clock(1, 1), most)))
	expect(t, "one with an offset", "1000000000000 true", call(impl.EdgeAt(clock(1, impl.MaxCycle), most-impl.MaxCycle)))
	expect(t, "one by 3", "1000000000000 true", call(impl.EdgeAt(clock(3, 1), 333333333333)))
	expect(t, "one by 3 behind the limit", "0 false", call(impl.EdgeAt(clock(3, 2), 333333333333)))
	expect(t, "one by 3 before the limit", "999999999999 true", call(impl.EdgeAt(clock(3, 0), 333333333333)))
	expect(t, "one by the greatest period", "1000000000000 true", call(impl.EdgeAt(clock(impl.MaxCycle, 0), 10000000)))
	expect(t, "one by the greatest period and 1", "0 false", call(impl.EdgeAt(clock(impl.MaxCycle, 1), 10000000)))
	expect(t, "one by the greatest parts", "1000000000000 true", call(impl.EdgeAt(clock(impl.MaxCycle, impl.MaxCycle), 9999999)))
	expect(t, "the first one", "100000 true", call(impl.EdgeAt(clock(impl.MaxCycle, impl.MaxCycle), 0)))
	// The products of the greatest indices and periods leave the 64 bits, some of them with small rests.
	for _, index := range []int64{-1, -2, math.MinInt64, math.MinInt64 + 1, math.MaxInt64, math.MaxInt64 - 1, 1 << 62, 1 << 61, 1 << 60, 1 << 59, 1 << 48, 1 << 47} {
		for _, c := range append(largeClocks(), clock(4, 0), clock(8, 0), clock(16, 5), clock(65536, 0), clock(32768, 0)) {
			expect(t, fmt.Sprint("EdgeAt ", c, index), "0 false", call(impl.EdgeAt(c, index)))
		}
	}
}

func TestLimitsOfMoments(t *testing.T) {
	const most = impl.MaxMoment
	expect(t, "NextEdge at the last moment", "1000000000000 true", call(impl.NextEdge(clock(1, 0), most)))
	expect(t, "NextEdge at the last moment, an edge", "1000000000000 true", call(impl.NextEdge(clock(impl.MaxCycle, 0), most)))
	// What a function returns has no limit of its own, unless one is stated.
	expect(t, "NextEdge behind the last moment", "1000000000001 true", call(impl.NextEdge(clock(impl.MaxCycle, 1), most)))
	expect(t, "NextEdge far behind the last moment", "1000000099999 true", call(impl.NextEdge(clock(impl.MaxCycle, impl.MaxCycle-1), most)))
	expect(t, "NextEdge at 0", "100000 true", call(impl.NextEdge(clock(1, impl.MaxCycle), 0)))
	expect(t, "CountEdgesIn all", "1000000000000 true", call(impl.CountEdgesIn(clock(1, 0), 0, most)))
	expect(t, "CountEdgesIn at the last moment", "0 true", call(impl.CountEdgesIn(clock(1, 0), most, most)))
	expect(t, "CountEdgesIn up to the last moment", "1 true", call(impl.CountEdgesIn(clock(1, 0), most-1, most)))
	expect(t, "CountEdgesIn of the greatest period", "10000000 true", call(impl.CountEdgesIn(clock(impl.MaxCycle, 0), 0, most)))
	c := clock(4, 1)
	expect(t, "CountEdgesIn from a greater moment", "0 false", call(impl.CountEdgesIn(c, 6, 5)))
	expect(t, "CountEdgesIn from the last moment", "0 false", call(impl.CountEdgesIn(c, most, most-1)))
	for _, moment := range []int64{-1, -5, math.MinInt64, most + 1, math.MaxInt64} {
		expect(t, fmt.Sprint("NextEdge at ", moment), "0 false", call(impl.NextEdge(c, moment)))
		expect(t, fmt.Sprint("CountEdgesIn from ", moment), "0 false", call(impl.CountEdgesIn(c, moment, most)))
		expect(t, fmt.Sprint("CountEdgesIn to ", moment), "0 false", call(impl.CountEdgesIn(c, 0, moment)))
		expect(t, fmt.Sprint("CountEdgesIn at ", moment), "0 false", call(impl.CountEdgesIn(c, moment, moment)))
	}
}

func TestFunctionsRequireClocks(t *testing.T) {
	good := clock(4, 1)
	for _, c := range noClocks() {
		what := fmt.Sprint(c)
		expect(t, "EdgeAt "+what, "0 false", call(impl.EdgeAt(c, 0)))
		expect(t, "NextEdge "+what, "0 false", call(impl.NextEdge(c, 0)))
		expect(t, "CountEdgesIn "+what, "0 false", call(impl.CountEdgesIn(c, 0, 5)))
		expect(t, "WaveOf "+what, " false", call(impl.WaveOf(c, 0, 5)))
		expect(t, "WaveOf without ticks "+what, " false", call(impl.WaveOf(c, 0, 0)))
		for i := range 3 {
			clocks := []impl.Clock{good, good, good}
			clocks[i] = c
			expect(t, "CommonPeriod "+what, "0 false", call(impl.CommonPeriod(clocks)))
			expect(t, "FirstMeeting "+what, "0 false", call(impl.FirstMeeting(clocks)))
		}
		for _, pair := range [][2]impl.Clock{{c, good}, {good, c}, {c, c}} {
			a, b := pair[0], pair[1]
			expect(t, "LeastGap "+what, "0 false", call(impl.LeastGap(a, b)))
			expect(t, "LongestWait "+what, "0 false", call(impl.LongestWait(a, b)))
			expect(t, "NearEdges "+what, "0 0 false", nearEdges(a, b, 1, 1))
			expect(t, "CountsBetween "+what, "[] false", call(impl.CountsBetween(a, b, 0, 2)))
			expect(t, "CountsBetween none "+what, "[] false", call(impl.CountsBetween(a, b, 0, 0)))
		}
	}
}
