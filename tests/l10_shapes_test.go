package tests

import (
	"fmt"
	"math"
	"strings"
	"testing"

	"loop.example/g01153/impl"
)

// isHigh reports whether a phase that is high from a moment on for a length is so at another moment.
func isHigh(period, from, length, moment int64) bool {
	behind := moment - from
	if behind < 0 {
		behind += period
	}
	return behind < length
}

// overlapOf returns what OverlapOf should: the number of moments of a period at which both phases are high.
func overlapOf(period, from, length, other, size int64) int64 {
	both := int64(0)
	for moment := range period {
		if isHigh(period, from, length, moment) && isHigh(period, other, size, moment) {
			both++
		}
	}
	return both
}

func TestOverlapOfSmallPeriods(t *testing.T) {
	for period := int64(1); period <= 8; period++ {
		for from := range period {
			for length := range period + 1 {
				for other := range period {
					for size := range period + 1 {
						want := overlapOf(period, from, length, other, size)
						expect(t, fmt.Sprint("OverlapOf ", period, from, length, other, size), fmt.Sprint(want, true), call(impl.OverlapOf(period, from, length, other, size)))
					}
				}
			}
		}
	}
}

func TestOverlapOfLargePeriods(t *testing.T) {
	for _, period := range []int64{impl.MaxCycle, impl.MaxCycle - 1, 12345} {
		moments := []int64{0, 1, period / 3, period / 2, period - 2, period - 1}
		lengths := append(moments[1:], period)
		for i, from := range moments {
			for j, other := range moments {
				length, size := lengths[(i+3*j)%len(lengths)], lengths[(5*i+j+1)%len(lengths)]
				what := fmt.Sprint("OverlapOf ", period, from, length, other, size)
				both, ok := impl.OverlapOf(period, from, length, other, size)
				expect(t, what, fmt.Sprint(overlapOf(period, from, length, other, size), true), both, ok)
				expect(t, what+", the other way", fmt.Sprint(both, true), call(impl.OverlapOf(period, other, size, from, length)))
				// Where the other phase is low, the first one is high for the rest of its length.
				expect(t, what+", the rest", fmt.Sprint(length-both, true), call(impl.OverlapOf(period, from, length, (other+size)%period, period-size)))
			}
		}
	}
}

func TestLimitsOfOverlapOf(t *testing.T) {
	const most = impl.MaxCycle
	expect(t, "the greatest phases", "100000 true", call(impl.OverlapOf(most, most-1, most, most-1, most)))
	expect(t, "the greatest period", "1 true", call(impl.OverlapOf(most, most-1, 1, 0, most)))
	expect(t, "phases that go round", "2 true", call(impl.OverlapOf(10, 8, 4, 0, 3)))
	expect(t, "both ends", "4 true", call(impl.OverlapOf(10, 8, 6, 2, 8)))
	expect(t, "no length", "0 true", call(impl.OverlapOf(10, 9, 0, 0, 10)))
	expect(t, "the least period", "1 true", call(impl.OverlapOf(1, 0, 1, 0, 1)))
	expect(t, "a greater period", "0 false", call(impl.OverlapOf(most+1, 0, 1, 0, 1)))
	for _, period := range []int64{0, -1, -10, math.MinInt64, math.MaxInt64} {
		expect(t, fmt.Sprint("the period ", period), "0 false", call(impl.OverlapOf(period, 0, 0, 0, 0)))
		expect(t, fmt.Sprint("phases with the period ", period), "0 false", call(impl.OverlapOf(period, period-1, period, period-1, period)))
	}
	for _, moment := range []int64{-1, 10, 11, math.MinInt64, math.MaxInt64} {
		expect(t, fmt.Sprint("from ", moment), "0 false", call(impl.OverlapOf(10, moment, 1, 0, 1)))
		expect(t, fmt.Sprint("other ", moment), "0 false", call(impl.OverlapOf(10, 0, 1, moment, 1)))
	}
	for _, length := range []int64{-1, 11, math.MinInt64, math.MaxInt64} {
		expect(t, fmt.Sprint("length ", length), "0 false", call(impl.OverlapOf(10, 0, length, 0, 1)))
		expect(t, fmt.Sprint("size ", length), "0 false", call(impl.OverlapOf(10, 0, 1, 0, length)))
	}
}

func TestEvenPhases(t *testing.T) {
	for _, period := range []int64{1, 2, 3, 4, 5, 6, 7, 10, 59, 60, 61, impl.MaxCycle - 1, impl.MaxCycle} {
		for count := int64(1); count <= impl.MaxClocks; count++ {
			want := []impl.Clock{}
			offset := int64(0)
			for k := range count {
				for (offset+1)*count <= k*period {
					offset++
				}
				want = append(want, clock(period, offset))
			}
			expect(t, fmt.Sprint("EvenPhases ", period, count), fmt.Sprint(want, true), call(impl.EvenPhases(period, count)))
		}
	}
}

func TestLimitsOfEvenPhases(t *testing.T) {
	expect(t, "three", "[{10 0} {10 3} {10 6}] true", call(impl.EvenPhases(10, 3)))
	expect(t, "as many as there can be", "[{1 0} {1 0} {1 0} {1 0} {1 0} {1 0}] true", call(impl.EvenPhases(1, 6)))
	expect(t, "one more", "[] false", call(impl.EvenPhases(10, 7)))
	expect(t, "the greatest period", "[{100000 0} {100000 50000}] true", call(impl.EvenPhases(impl.MaxCycle, 2)))
	expect(t, "a greater period", "[] false", call(impl.EvenPhases(impl.MaxCycle+1, 2)))
	for _, no := range []int64{0, -1, math.MinInt64, math.MaxInt64} {
		expect(t, fmt.Sprint("period ", no), "[] false", call(impl.EvenPhases(no, 1)))
		expect(t, fmt.Sprint("count ", no), "[] false", call(impl.EvenPhases(10, no)))
	}
}

// clockWave returns what WaveOf should.
func clockWave(c impl.Clock, high, ticks int64) string {
	wave := ""
	for tick := range ticks {
		level := "0"
		for edge := max(tick-high+1, 0); edge <= tick; edge++ {
			if isEdge(c, edge) {
				level = "1"
			}
		}
		wave += level
	}
	return wave
}

func TestWaveOf(t *testing.T) {
	for _, c := range clocksTo(8, 10) {
		for high := range c.Period + 1 {
			for _, ticks := range []int64{0, 1, 2, 7, 8, 9, 40} {
				expect(t, fmt.Sprint("WaveOf ", c, high, ticks), clockWave(c, high, ticks)+" true", call(impl.WaveOf(c, high, ticks)))
			}
		}
	}
}

func TestWavesHaveTheEdgesOfTheirClocks(t *testing.T) {
	clocks := append(clocksTo(5, 3), clock(399, 0), clock(400, 0), clock(400, 399), clock(401, 400), clock(200, 199), clock(impl.MaxCycle, 5), clock(57, impl.MaxCycle))
	for _, c := range clocks {
		// Neighbouring pulses touch if the length is the period, and there are none if it is 0.
		for high := int64(1); high < min(c.Period, 60); high++ {
			w, ok := impl.WaveOf(c, high, impl.MaxTicks)
			what := fmt.Sprint(c, high, ok)
			expect(t, "UpsOf "+what, fmt.Sprint(edgesUntil(c, impl.MaxTicks), true), call(impl.UpsOf(w)))
			downs := edgesUntil(clock(c.Period, c.Offset+high), impl.MaxTicks)
			expect(t, "DownsOf "+what, fmt.Sprint(downs, true), call(impl.DownsOf(w)))
		}
	}
}

func TestLimitsOfWaveOf(t *testing.T) {
	const most = impl.MaxTicks
	c := clock(4, 1)
	expect(t, "an example", "0110011001 true", call(impl.WaveOf(c, 2, 10)))
	expect(t, "always high", "0111111111 true", call(impl.WaveOf(c, 4, 10)))
	expect(t, "never high", "0000000000 true", call(impl.WaveOf(c, 0, 10)))
	expect(t, "without ticks", " true", call(impl.WaveOf(c, 2, 0)))
	expect(t, "as many ticks as there can be", strings.Repeat("0110", most/4)+" true", call(impl.WaveOf(c, 2, most)))
	expect(t, "one more tick", " false", call(impl.WaveOf(c, 2, most+1)))
	expect(t, "one more than the period", " false", call(impl.WaveOf(c, 5, 10)))
	expect(t, "the greatest length", strings.Repeat("1", most)+" true", call(impl.WaveOf(clock(impl.MaxCycle, 0), impl.MaxCycle, most)))
	expect(t, "the last tick", strings.Repeat("0", most-1)+"1 true", call(impl.WaveOf(clock(impl.MaxCycle, most-1), impl.MaxCycle, most)))
	expect(t, "behind the last tick", strings.Repeat("0", most)+" true", call(impl.WaveOf(clock(impl.MaxCycle, most), impl.MaxCycle, most)))
	expect(t, "far behind the last tick", strings.Repeat("0", most)+" true", call(impl.WaveOf(clock(1, impl.MaxCycle), 1, most)))
	expect(t, "one more than the greatest length", " false", call(impl.WaveOf(clock(impl.MaxCycle, 0), impl.MaxCycle+1, most)))
	for _, no := range []int64{-1, math.MinInt64, math.MaxInt64} {
		expect(t, fmt.Sprint("high ", no), " false", call(impl.WaveOf(c, no, 10)))
		expect(t, fmt.Sprint("ticks ", no), " false", call(impl.WaveOf(c, 2, no)))
	}
}

func TestOverlapOfWaves(t *testing.T) {
	for _, c := range clocksTo(9, 8) {
		for high := range c.Period + 1 {
			phases, _ := impl.EvenPhases(c.Period, 3)
			one, _ := impl.WaveOf(clock(c.Period, c.Offset%c.Period), high, 90)
			for _, phase := range phases {
				other, _ := impl.WaveOf(phase, c.Period/2, 90)
				joined, _ := impl.JoinWaves(0, one, other)
				// The second period, since in the first one there is nothing from the period before.
				part := joined[c.Period : 2*c.Period]
				want := fmt.Sprint(strings.Count(part, "1"), true)
				expect(t, fmt.Sprint("OverlapOf ", c, high, phase), want, call(impl.OverlapOf(c.Period, c.Offset%c.Period, high, phase.Offset, c.Period/2)))
			}
		}
	}
}
