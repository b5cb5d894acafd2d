package tests

import (
	"fmt"
	"strings"
	"testing"

	"loop.example/g01153/impl"
)

// upsFrom returns how often a wave goes up in so many ticks from a tick on.
func upsFrom(w string, from, ticks int) int64 {
	return int64(strings.Count(lastLevels(w, from+ticks-1, ticks+1), "01"))
}

// countsOf returns what CountWindows should.
func countsOf(c filterCase) []int64 {
	counts := []int64{}
	for from := 0; from+c.ticks <= len(c.w); from += c.ticks {
		counts = append(counts, upsFrom(c.w, from, c.ticks))
	}
	return counts
}

// rangeOf returns what WindowRange should.
func rangeOf(c filterCase) string {
	if len(c.w) < c.ticks {
		return "0 0 false"
	}
	least, most := upsFrom(c.w, 0, c.ticks), upsFrom(c.w, 0, c.ticks)
	for from := range len(c.w) - c.ticks + 1 {
		ups := upsFrom(c.w, from, c.ticks)
		least, most = min(least, ups), max(most, ups)
	}
	return fmt.Sprint(least, most, true)
}

// gotRange returns what WindowRange returns.
func gotRange(w string, ticks int64) string {
	least, most, ok := impl.WindowRange(w, ticks)
	return fmt.Sprint(least, most, ok)
}

// timeoutsOf returns what Timeouts should: one in each part between two ups, before the first one and behind the last one, if it is long enough.
func timeoutsOf(c filterCase) []int64 {
	timeouts := []int64{}
	from := 0
	for _, up := range append(shapeOf(c.w).ups, int64(len(c.w))) {
		if int(up)-from >= c.ticks {
			timeouts = append(timeouts, int64(from+c.ticks-1))
		}
		from = int(up) + 1
	}
	return timeouts
}

func TestWindows(t *testing.T) {
	for _, c := range filterCases() {
		ticks := int64(c.ticks)
		expect(t, fmt.Sprint("CountWindows ", c), fmt.Sprint(countsOf(c), true), call(impl.CountWindows(c.w, ticks)))
		expect(t, fmt.Sprint("WindowRange ", c), rangeOf(c), gotRange(c.w, ticks))
		expect(t, fmt.Sprint("Timeouts ", c), fmt.Sprint(timeoutsOf(c), true), call(impl.Timeouts(c.w, ticks)))
	}
}

func TestTimeoutsByTheirDefinition(t *testing.T) {
	for _, c := range filterCases() {
		timeouts := []int64{}
		late := false
		for tick := range c.w {
			// What is late stays so until the wave goes up.
			late = late && upsFrom(c.w, tick, 1) == 0
			if first := tick - c.ticks + 1; !late && first >= 0 && upsFrom(c.w, first, c.ticks) == 0 {
				timeouts = append(timeouts, int64(tick))
				late = true
			}
		}
		expect(t, fmt.Sprint("Timeouts ", c), fmt.Sprint(timeouts, true), call(impl.Timeouts(c.w, int64(c.ticks))))
	}
}

func TestWindowsOfEachSize(t *testing.T) {
	w := strings.Repeat("0110001011", impl.MaxTicks/10)
	for ticks := 1; ticks <= impl.MaxFilter; ticks++ {
		c := filterCase{w, ticks}
		expect(t, fmt.Sprint("CountWindows ", c), fmt.Sprint(countsOf(c), true), call(impl.CountWindows(w, int64(ticks))))
		expect(t, fmt.Sprint("WindowRange ", c), rangeOf(c), gotRange(w, int64(ticks)))
		expect(t, fmt.Sprint("Timeouts ", c), fmt.Sprint(timeoutsOf(c), true), call(impl.Timeouts(w, int64(ticks))))
	}
}

func TestCountWindowsCases(t *testing.T) {
	expect(t, "a window with 1 tick for each tick", "[0 1 0 1] true", call(impl.CountWindows("0101", 1)))
	expect(t, "as long as the wave", "[2] true", call(impl.CountWindows("0101", 4)))
	expect(t, "longer than the wave", "[] true", call(impl.CountWindows("0101", 5)))
	expect(t, "much longer than the wave", "[] true", call(impl.CountWindows("0101", impl.MaxFilter)))
	expect(t, "no ticks", "[] true", call(impl.CountWindows("", 1)))
	expect(t, "the last window is not whole", "[1 1] true", call(impl.CountWindows("01001001", 3)))
	expect(t, "up at the first tick of a window", "[0 1] true", call(impl.CountWindows("000100", 3)))
	expect(t, "up at the tick 0", "[1 0] true", call(impl.CountWindows("111111", 3)))
	expect(t, "high from the window before", "[1 1] true", call(impl.CountWindows("011101", 3)))
	expect(t, "most windows", fmt.Sprint(listOf(0, impl.MaxTicks), true), call(impl.CountWindows(strings.Repeat("0", impl.MaxTicks), 1)))
	expect(t, "longest windows", fmt.Sprint(listOf(25, impl.MaxTicks/impl.MaxFilter), true), call(impl.CountWindows(strings.Repeat("01", impl.MaxTicks/2), impl.MaxFilter)))
}

func TestWindowRangeCases(t *testing.T) {
	expect(t, "as long as the wave", "2 2 true", gotRange("0101", 4))
	expect(t, "longer than the wave", "0 0 false", gotRange("0101", 5))
	expect(t, "longest, as long as the wave", "1 1 true", gotRange(strings.Repeat("1", impl.MaxFilter), impl.MaxFilter))
	expect(t, "longest, longer than the wave", "0 0 false", gotRange(strings.Repeat("1", impl.MaxFilter-1), impl.MaxFilter))
	expect(t, "no ticks", "0 0 false", gotRange("", 1))
	expect(t, "most in the first window", "0 2 true", gotRange("1010000", 3))
	expect(t, "most in the last window", "0 2 true", gotRange("0000101", 3))
	expect(t, "least in the first window", "0 1 true", gotRange("0001001", 3))
	expect(t, "least in the last window", "0 1 true", gotRange("0100", 2))
	expect(t, "not only in windows behind one another", "1 2 true", gotRange("00010100", 4))
	expect(t, "never less than one", "1 2 true", gotRange("0100100101", 3))
}

func TestTimeoutsCases(t *testing.T) {
	expect(t, "longer than the wave", "[] true", call(impl.Timeouts("00", 3)))
	expect(t, "as long as the wave", "[2] true", call(impl.Timeouts("000", 3)))
	expect(t, "much longer than the wave", "[] true", call(impl.Timeouts("0000", impl.MaxFilter)))
	expect(t, "longest", "[49] true", call(impl.Timeouts(strings.Repeat("0", impl.MaxTicks), impl.MaxFilter)))
	expect(t, "longest behind the tick 0", "[50] true", call(impl.Timeouts(strings.Repeat("1", impl.MaxTicks), impl.MaxFilter)))
	expect(t, "no ticks", "[] true", call(impl.Timeouts("", 1)))
	expect(t, "only once", "[1] true", call(impl.Timeouts("00000000", 2)))
	expect(t, "once more behind each up", "[1 6 11] true", call(impl.Timeouts("000010000100", 2)))
	expect(t, "just in time", "[] true", call(impl.Timeouts("001001001", 3)))
	expect(t, "one tick too late", "[3] true", call(impl.Timeouts("1000100", 3)))
	expect(t, "a level alone is no up", "[3] true", call(impl.Timeouts("1111111", 3)))
	expect(t, "going down is no up", "[2 6] true", call(impl.Timeouts("00011000", 3)))
	expect(t, "1 tick", "[0 2] true", call(impl.Timeouts("0111", 1)))
}

func TestWindowsRequire(t *testing.T) {
	fails := func(w string, ticks int64) {
		t.Helper()
		what := fmt.Sprintf(" %q with ticks %d", w, ticks)
		expect(t, "CountWindows"+what, "[] false", call(impl.CountWindows(w, ticks)))
		expect(t, "WindowRange"+what, "0 0 false", gotRange(w, ticks))
		expect(t, "Timeouts"+what, "[] false", call(impl.Timeouts(w, ticks)))
	}
	for _, no := range noWaves() {
		fails(no, 1)
		fails(no, impl.MaxFilter)
	}
	for _, ticks := range noFilterTicks() {
		fails("", ticks)
		fails("0101110010", ticks)
		fails(strings.Repeat("01", impl.MaxTicks/2), ticks)
	}
}

func TestWindowExamples(t *testing.T) {
	w := "0101110010"
	expect(t, "CountWindows", "[2 0] true", call(impl.CountWindows(w, 4)))
	expect(t, "WindowRange", "0 2 true", gotRange(w, 4))
	expect(t, "Timeouts", "[6] true", call(impl.Timeouts(w, 3)))
}
