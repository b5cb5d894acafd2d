package tests

import (
	"fmt"
	"math"
	"math/big"
	"slices"
	"strings"
	"testing"

	"loop.example/g01153/impl"
)

// signal is the period and the phase of a signal.
type signal struct {
	period, phase impl.Fraction
}

// ratOf returns a valid fraction as a number.
func ratOf(f impl.Fraction) *big.Rat {
	return big.NewRat(f.Num, f.Den)
}

// smallSignals are all signals with small parts.
func smallSignals() []signal {
	var fractions []impl.Fraction
	for den := int64(1); den <= 4; den++ {
		for num := range int64(14) {
			if f := ratio(num, den); isValid(f) {
				fractions = append(fractions, f)
			}
		}
	}
	var list []signal
	for _, period := range fractions {
		for _, phase := range fractions {
			if period.Num >= period.Den && ratOf(phase).Cmp(ratOf(period)) < 0 {
				list = append(list, signal{period, phase})
			}
		}
	}
	return list
}

// largeSignals are signals with parts at their limits.
func largeSignals() []signal {
	const most = 1000000
	return []signal{
		{ratio(1, 1), ratio(0, 1)}, {ratio(1, 1), ratio(1, most)}, {ratio(1, 1), ratio(most-1, most)}, {ratio(1, 1), ratio(most-2, most-1)},
		{ratio(most, most-1), ratio(0, 1)}, {ratio(most, most-1), ratio(1, 1)}, {ratio(most, most-1), ratio(most-1, most)}, {ratio(most-1, most-2), ratio(most, most-1)},
		{ratio(most, 1), ratio(0, 1)}, {ratio(most, 1), ratio(399, 1)}, {ratio(most, 1), ratio(400, 1)}, {ratio(most, 1), ratio(most-1, 1)}, {ratio(most, 1), ratio(most-1, most)},
		{ratio(most-1, 1), ratio(most-3, 1)}, {ratio(2, 1), ratio(most, most-1)}, {ratio(most, 399999), ratio(most, most-1)}, {ratio(most-1, most-2), ratio(most-3, most)},
		{ratio(355, 113), ratio(333, 106)}, {ratio(22, 7), ratio(355, 113)}, {ratio(707107, 500000), ratio(1, 3)}, {ratio(399, 1), ratio(1, 2)}, {ratio(199, 1), ratio(1, most)}, {ratio(399, 2), ratio(398, 399)}, {ratio(401, 1), ratio(799999, 2000)},
	}
}

// sampledOf returns what SampleUps should: at each tick, the first time from it on is found anew.
func sampledOf(s signal, ticks int64) string {
	wave := ""
	period, phase := ratOf(s.period), ratOf(s.phase)
	for tick := range ticks {
		// How many times of the signal are before a tick: the number of periods from the phase on, rounded up.
		before := func(tick int64) int64 {
			periods := new(big.Rat).Sub(big.NewRat(tick, 1), phase)
			periods.Quo(periods, period)
			count := new(big.Int).Div(periods.Num(), periods.Denom()).Int64()
			if !periods.IsInt() {
				count++
			}
			return max(count, 0)
		}
		wave += fmt.Sprint(before(tick+1) - before(tick))
	}
	return wave
}

func TestSampleUps(t *testing.T) {
	for _, s := range smallSignals() {
		for _, ticks := range []int64{0, 1, 2, 3, 30} {
			expect(t, fmt.Sprint("SampleUps ", s, ticks), sampledOf(s, ticks)+" true", call(impl.SampleUps(s.period, s.phase, ticks)))
		}
	}
	for _, s := range largeSignals() {
		for _, ticks := range []int64{0, 1, impl.MaxTicks - 1, impl.MaxTicks} {
			expect(t, fmt.Sprint("SampleUps ", s, ticks), sampledOf(s, ticks)+" true", call(impl.SampleUps(s.period, s.phase, ticks)))
		}
	}
}

func TestSampleUpsCases(t *testing.T) {
	expect(t, "in each tick", "11111 true", call(impl.SampleUps(ratio(1, 1), ratio(0, 1), 5)))
	expect(t, "in each tick, late", "11111 true", call(impl.SampleUps(ratio(1, 1), ratio(999999, 1000000), 5)))
	expect(t, "a time at a tick belongs to it", "01010 true", call(impl.SampleUps(ratio(2, 1), ratio(1, 1), 5)))
	expect(t, "just before a tick", "10101 true", call(impl.SampleUps(ratio(2, 1), ratio(999999, 1000000), 5)))
	expect(t, "the phase just below the period", "01101 true", call(impl.SampleUps(ratio(3, 2), ratio(4, 3), 5)))
	expect(t, "no ticks", " true", call(impl.SampleUps(ratio(5, 2), ratio(0, 1), 0)))
	expect(t, "only at the last tick", strings.Repeat("0", 399)+"1 true", call(impl.SampleUps(ratio(1000000, 1), ratio(399, 1), impl.MaxTicks)))
	expect(t, "just behind the last tick", strings.Repeat("0", 400)+" true", call(impl.SampleUps(ratio(1000000, 1), ratio(400, 1), impl.MaxTicks)))
	expect(t, "example", "1010010100 true", call(impl.SampleUps(ratio(5, 2), ratio(0, 1), 10)))
}

func TestSampleUpsRequires(t *testing.T) {
	const most = 1000000
	none := ratio(0, 1)
	for _, f := range append(noFractions(), ratio(most+1, 1), ratio(most+1, most), ratio(most+1, most+2), ratio(most-1, most+1), ratio(1, most+1), ratio(-1, 1), ratio(-1, 2), ratio(-most, 1), ratio(impl.MaxPart, 1), ratio(1, impl.MaxPart)) {
		expect(t, fmt.Sprint("the period ", f), " false", call(impl.SampleUps(f, none, 10)))
		expect(t, fmt.Sprint("the phase ", f), " false", call(impl.SampleUps(ratio(most, 1), f, 10)))
		expect(t, fmt.Sprint("both ", f), " false", call(impl.SampleUps(f, f, 10)))
	}
	for _, period := range []impl.Fraction{none, ratio(1, 2), ratio(most-1, most), ratio(1, most), ratio(2, 3)} {
		expect(t, fmt.Sprint("a period of less than 1: ", period), " false", call(impl.SampleUps(period, none, 10)))
	}
	for _, period := range []impl.Fraction{ratio(1, 1), ratio(5, 2), ratio(most, 1), ratio(most, most-1)} {
		expect(t, fmt.Sprint("the phase is the period ", period), " false", call(impl.SampleUps(period, period, 10)))
	}
	expect(t, "the phase is greater", " false", call(impl.SampleUps(ratio(5, 2), ratio(8, 3), 10)))
	expect(t, "the phase is greater by little", " false", call(impl.SampleUps(ratio(most-1, most-2), ratio(most-2, most-3), 10)))
	for _, ticks := range []int64{math.MinInt64, -1, impl.MaxTicks + 1, math.MaxInt64} {
		expect(t, fmt.Sprint("ticks ", ticks), " false", call(impl.SampleUps(ratio(5, 2), none, ticks)))
	}
}

// boundsOf returns what functions with two bounds should.
func boundsOf(least, most *big.Rat) string {
	return fmt.Sprintf("{%v %v} {%v %v} true", least.Num(), least.Denom(), most.Num(), most.Denom())
}

// gotBounds joins the results of functions with two bounds.
func gotBounds(least, most impl.Fraction, ok bool) string {
	return fmt.Sprint(least, " ", most, " ", ok)
}

// someCounts are counts of ups up to the limit.
func someCounts() []int64 {
	return []int64{2, 3, 4, 5, 7, 10, 60, 99, 100, 101, 199, 200, 201, 398, impl.MaxTicks - 1, impl.MaxTicks}
}

func TestCountBounds(t *testing.T) {
	for _, count := range someCounts() {
		for ticks := int64(1); ticks <= impl.MaxTicks; ticks++ {
			want := boundsOf(big.NewRat(ticks, count+1), big.NewRat(ticks, count-1))
			expect(t, fmt.Sprint("CountBounds ", count, ticks), want, gotBounds(impl.CountBounds(count, ticks)))
		}
	}
	expect(t, "least numbers", "{1 3} {1 1} true", gotBounds(impl.CountBounds(2, 1)))
	expect(t, "greatest numbers", "{400 401} {400 399} true", gotBounds(impl.CountBounds(400, 400)))
	expect(t, "more ups than ticks", "{1 401} {1 399} true", gotBounds(impl.CountBounds(400, 1)))
	expect(t, "stage test", "{2 1} {10 3} true", gotBounds(impl.CountBounds(4, 10)))
	for _, no := range []int64{math.MinInt64, -2, -1, 0, 1, impl.MaxTicks + 1, math.MaxInt64 - 1, math.MaxInt64} {
		expect(t, fmt.Sprint("the count ", no), "{0 0} {0 0} false", gotBounds(impl.CountBounds(no, 10)))
		if no != 1 {
			expect(t, fmt.Sprint("the ticks ", no), "{0 0} {0 0} false", gotBounds(impl.CountBounds(4, no)))
		}
	}
}

func TestSpanBounds(t *testing.T) {
	spans := [][2]int64{}
	for last := range int64(25) {
		for first := range last {
			spans = append(spans, [2]int64{first, last}, [2]int64{first, 376 + last}, [2]int64{376 + first, 376 + last})
		}
	}
	for _, span := range append(spans, [2]int64{0, impl.MaxTicks}, [2]int64{impl.MaxTicks - 1, impl.MaxTicks}) {
		for _, count := range someCounts() {
			want := boundsOf(big.NewRat(span[1]-span[0]-1, count-1), big.NewRat(span[1]-span[0]+1, count-1))
			expect(t, fmt.Sprint("SpanBounds ", span, count), want, gotBounds(impl.SpanBounds(span[0], span[1], count)))
		}
	}
	expect(t, "least numbers", "{0 1} {2 1} true", gotBounds(impl.SpanBounds(0, 1, 2)))
	expect(t, "the longest span", "{399 1} {401 1} true", gotBounds(impl.SpanBounds(0, 400, 2)))
	expect(t, "the last tick and the one before it", "{0 1} {2 399} true", gotBounds(impl.SpanBounds(399, 400, 400)))
	expect(t, "stage test", "{2 1} {8 3} true", gotBounds(impl.SpanBounds(0, 7, 4)))
}

func TestSpanBoundsRequires(t *testing.T) {
	const far, least = math.MaxInt64, math.MinInt64
	for _, no := range [][3]int64{{0, 0, 2}, {7, 7, 2}, {8, 7, 2}, {400, 400, 2}, {-1, 7, 2}, {-1, 0, 2}, {-2, -1, 2}, {0, -1, 2}, {0, 401, 2}, {400, 401, 2}, {0, 7, 1}, {0, 7, 0}, {0, 7, -1}, {0, 7, 401},
		{least, 7, 2}, {far, 7, 2}, {0, least, 2}, {0, far, 2}, {least, far, 2}, {far, least, 2}, {least, least, 2}, {far, far, 2}, {0, 7, least}, {0, 7, far}, {0, least + 1, 2}, {least, least + 1, 2}, {far - 1, far, 2}} {
		expect(t, fmt.Sprint("SpanBounds ", no), "{0 0} {0 0} false", gotBounds(impl.SpanBounds(no[0], no[1], no[2])))
	}
}

// checkBounds checks that a period is between two bounds.
func checkBounds(t *testing.T, what string, s signal, least, most impl.Fraction, ok bool) {
	t.Helper()
	period := ratOf(s.period)
	if !ok || ratOf(least).Cmp(period) >= 0 || ratOf(most).Cmp(period) <= 0 {
		t.Errorf("%s: the period of %v is not between %v and %v, %v", what, s, least, most, ok)
	}
}

// promisedSignals are signals that go up often enough to be counted.
func promisedSignals() []signal {
	list := append(smallSignals(), largeSignals()...)
	return slices.DeleteFunc(list, func(s signal) bool {
		return s.period.Num > 400*s.period.Den
	})
}

func TestCountsBoundThePeriod(t *testing.T) {
	counted := 0
	for _, s := range promisedSignals() {
		w, _ := impl.SampleUps(s.period, s.phase, 120)
		for from := range len(w) {
			for to := from + 1; to <= len(w); to += 1 + (to-from)/4 {
				// With a period of less than 2, the wave does not go down between two ups.
				count := int64(strings.Count(w[from:to], "1"))
				if count < 2 {
					continue
				}
				counted++
				least, most, ok := impl.CountBounds(count, int64(to-from))
				checkBounds(t, fmt.Sprint("CountBounds ", count, to-from), s, least, most, ok)
			}
		}
	}
	if counted < 10000 {
		t.Errorf("too few counts: %d", counted)
	}
}

func TestSpansBoundThePeriod(t *testing.T) {
	for _, s := range promisedSignals() {
		w, _ := impl.SampleUps(s.period, s.phase, impl.MaxTicks)
		var ups []int64
		for tick := range w {
			if w[tick] == '1' {
				ups = append(ups, int64(tick))
			}
		}
		for i := 0; i < min(len(ups), 20); i++ {
			for j := i + 1; j < len(ups); j++ {
				least, most, ok := impl.SpanBounds(ups[i], ups[j], int64(j-i+1))
				checkBounds(t, fmt.Sprint("SpanBounds ", ups[i], ups[j], j-i+1), s, least, most, ok)
			}
		}
	}
}

func TestWindowsBoundThePeriod(t *testing.T) {
	for _, s := range promisedSignals() {
		// A wave goes up for each time of a signal only if there is a tick between two of them.
		if s.period.Num < 2*s.period.Den {
			continue
		}
		w, _ := impl.SampleUps(s.period, s.phase, impl.MaxTicks)
		expect(t, fmt.Sprint("ups of ", s), fmt.Sprint(strings.Count(w, "1")), len(shapeOf(w).ups))
		for _, ticks := range []int64{10, 31, impl.MaxFilter} {
			counts, _ := impl.CountWindows(w, ticks)
			low, high, _ := impl.WindowRange(w, ticks)
			if high-low > 1 {
				t.Errorf("%v: the counts of windows are from %d to %d", s, low, high)
			}
			for _, count := range append(counts, low, high) {
				if count >= 2 {
					least, most, ok := impl.CountBounds(count, ticks)
					checkBounds(t, fmt.Sprint("windows of ", ticks), s, least, most, ok)
				}
			}
		}
	}
}
