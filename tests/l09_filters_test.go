package tests

import (
	"fmt"
	"math"
	"math/rand"
	"slices"
	"strings"
	"testing"

	"loop.example/g01153/impl"
)

// filterCase is a wave and the ticks of a filter for it.
type filterCase struct {
	w     string
	ticks int
}

// filterCases are all short waves and some long ones, with windows that are shorter, as long, and longer.
func filterCases() []filterCase {
	var cases []filterCase
	for w := range allWaves(9) {
		for _, ticks := range []int{1, 2, 3, 4, 5, 7, 8, 9, 10, 11, impl.MaxFilter - 1, impl.MaxFilter} {
			cases = append(cases, filterCase{w, ticks})
		}
	}
	source := rand.New(rand.NewSource(9))
	waves := longWaves()
	for _, longest := range []int{2, 3, 10, 60, 120} {
		for _, ticks := range []int{impl.MaxFilter - 1, impl.MaxFilter, impl.MaxFilter + 1, impl.MaxTicks - 1, impl.MaxTicks} {
			waves = append(waves, anyWave(source, ticks, longest))
		}
	}
	for _, w := range waves {
		for _, ticks := range []int{1, 2, 3, 5, 6, 25, impl.MaxFilter - 1, impl.MaxFilter} {
			cases = append(cases, filterCase{w, ticks})
		}
	}
	return cases
}

// noFilterTicks are numbers that ticks of filters can't be.
func noFilterTicks() []int64 {
	return []int64{math.MinInt64, math.MinInt64 + 1, -impl.MaxFilter, -2, -1, 0, impl.MaxFilter + 1, impl.MaxFilter + 2, impl.MaxTicks, math.MaxInt64 - 1, math.MaxInt64}
}

// lastLevels returns the levels at a tick and at the ticks before it, as many as told, also those before the tick 0.
func lastLevels(w string, tick, ticks int) string {
	return (strings.Repeat("0", ticks) + w)[tick+1 : tick+1+ticks]
}

// filteredOf returns the wave that is 1 at the ticks for which isOn reports true.
func filteredOf(w string, isOn func(tick int) bool) string {
	list := make([]bool, len(w))
	for tick := range list {
		list[tick] = isOn(tick)
	}
	return levelsOf(list)
}

// debouncedOf returns what Debounce should: at each tick the level that has lasted last.
func debouncedOf(c filterCase) string {
	return filteredOf(c.w, func(tick int) bool {
		for ; tick >= 0; tick-- {
			levels := lastLevels(c.w, tick, c.ticks)
			if strings.Trim(levels, levels[:1]) == "" {
				return levels[0] == '1'
			}
		}
		return false
	})
}

// stretchedOf returns what StretchPulses should.
func stretchedOf(c filterCase) string {
	return filteredOf(c.w, func(tick int) bool {
		return strings.Contains(lastLevels(c.w, tick, c.ticks), "1")
	})
}

// majorityOf returns what MajorityWave should.
func majorityOf(c filterCase) string {
	return filteredOf(c.w, func(tick int) bool {
		levels := lastLevels(c.w, tick, c.ticks)
		return strings.Count(levels, "1") > strings.Count(levels, "0")
	})
}

// shotOf returns what OneShot should, written up by up.
func shotOf(c filterCase, again int64) string {
	// Behind the wave, there is place for the last shot.
	shots := []byte(strings.Repeat("0", len(c.w)+c.ticks))
	for tick := range c.w {
		if lastLevels(c.w, tick, 2) != "01" || again == 0 && shots[tick] == '1' {
			continue
		}
		copy(shots[tick:], strings.Repeat("1", c.ticks))
	}
	return string(shots[:len(c.w)])
}

// droppedOf returns what DropPulses should.
func droppedOf(c filterCase) string {
	levels := []byte(c.w)
	for _, span := range spansOf(c.w) {
		if span[1]-span[0] < c.ticks {
			copy(levels[span[0]:span[1]], strings.Repeat("0", len(c.w)))
		}
	}
	return string(levels)
}

// filledOf returns what FillGaps should.
func filledOf(c filterCase) string {
	levels := []byte(c.w)
	spans := spansOf(c.w)
	for i := 1; i < len(spans); i++ {
		if from, to := spans[i-1][1], spans[i][0]; to-from < c.ticks {
			copy(levels[from:to], strings.Repeat("1", len(c.w)))
		}
	}
	return string(levels)
}

// filters are all functions that make a wave of a wave with the ticks of a filter, by name.
func filters() map[string]func(string, int64) (string, bool) {
	return map[string]func(string, int64) (string, bool){
		"Debounce": impl.Debounce, "StretchPulses": impl.StretchPulses, "DropPulses": impl.DropPulses, "FillGaps": impl.FillGaps, "MajorityWave": impl.MajorityWave,
		"OneShot":       func(w string, ticks int64) (string, bool) { return impl.OneShot(w, ticks, 0) },
		"OneShot again": func(w string, ticks int64) (string, bool) { return impl.OneShot(w, ticks, 1) },
	}
}

func TestFilterLimits(t *testing.T) {
	expect(t, "limits of chapter 9", "50", impl.MaxFilter)
}

func TestFilters(t *testing.T) {
	for _, c := range filterCases() {
		ticks := int64(c.ticks)
		expect(t, fmt.Sprint("Debounce ", c), debouncedOf(c)+" true", call(impl.Debounce(c.w, ticks)))
		expect(t, fmt.Sprint("StretchPulses ", c), stretchedOf(c)+" true", call(impl.StretchPulses(c.w, ticks)))
		expect(t, fmt.Sprint("DropPulses ", c), droppedOf(c)+" true", call(impl.DropPulses(c.w, ticks)))
		expect(t, fmt.Sprint("FillGaps ", c), filledOf(c)+" true", call(impl.FillGaps(c.w, ticks)))
		for again := range int64(2) {
			expect(t, fmt.Sprint("OneShot ", c, again), shotOf(c, again)+" true", call(impl.OneShot(c.w, ticks, again)))
		}
		if want := " false"; c.ticks%2 == 0 {
			expect(t, fmt.Sprint("MajorityWave ", c), want, call(impl.MajorityWave(c.w, ticks)))
		} else {
			expect(t, fmt.Sprint("MajorityWave ", c), majorityOf(c)+" true", call(impl.MajorityWave(c.w, ticks)))
		}
	}
}

func TestAllTicksOfFilters(t *testing.T) {
	source := rand.New(rand.NewSource(10))
	for ticks := 1; ticks <= impl.MaxFilter; ticks++ {
		c := filterCase{anyWave(source, impl.MaxTicks, 2*ticks), ticks}
		want := map[string]string{"Debounce": debouncedOf(c), "StretchPulses": stretchedOf(c), "DropPulses": droppedOf(c), "FillGaps": filledOf(c), "MajorityWave": majorityOf(c), "OneShot": shotOf(c, 0), "OneShot again": shotOf(c, 1)}
		for name, filter := range filters() {
			if name != "MajorityWave" || ticks%2 == 1 {
				expect(t, fmt.Sprint(name, c), want[name]+" true", call(filter(c.w, int64(ticks))))
			}
		}
	}
}

// areLong reports whether all lengths are at least ticks.
func areLong(lengths []int64, ticks int) bool {
	return !slices.ContainsFunc(lengths, func(length int64) bool {
		return length < int64(ticks)
	})
}

func TestFiltersLetPassWhatIsLong(t *testing.T) {
	passed := 0
	for _, c := range filterCases() {
		s := shapeOf(c.w)
		ticks := int64(c.ticks)
		if areLong(s.pulses, c.ticks) {
			expect(t, fmt.Sprint("no short pulse is dropped ", c), c.w+" true", call(impl.DropPulses(c.w, ticks)))
		}
		if areLong(s.gaps, c.ticks) {
			expect(t, fmt.Sprint("no short gap is filled ", c), c.w+" true", call(impl.FillGaps(c.w, ticks)))
		}
		if areLong(s.pulses, c.ticks) && areLong(s.gaps, c.ticks) {
			passed += len(s.pulses)
			late, _ := impl.DelayWave(c.w, ticks-1)
			expect(t, fmt.Sprint("what is long comes later ", c), late+" true", call(impl.Debounce(c.w, ticks)))
			if c.ticks%2 == 1 {
				late, _ = impl.DelayWave(c.w, ticks/2)
				expect(t, fmt.Sprint("what is long comes later by half ", c), late+" true", call(impl.MajorityWave(c.w, ticks)))
			}
		}
	}
	if passed < 1000 {
		t.Errorf("too few pulses that are long enough: %d", passed)
	}
}

func TestFiltersLeaveNothingShort(t *testing.T) {
	for _, c := range filterCases() {
		ticks := int64(c.ticks)
		debounced, _ := impl.Debounce(c.w, ticks)
		stretched, _ := impl.StretchPulses(c.w, ticks)
		dropped, _ := impl.DropPulses(c.w, ticks)
		filled, _ := impl.FillGaps(c.w, ticks)
		shot, _ := impl.OneShot(c.w, ticks, 0)
		// A pulse that lasts up to the last tick can be of any length.
		for name, w := range map[string]string{"Debounce": debounced, "StretchPulses": stretched, "OneShot": shot} {
			if short := shortOf(w, c.ticks); len(short) > 0 {
				t.Errorf("%s %v: %s has short pulses at %v", name, c, w, short)
			}
		}
		if !areLong(shapeOf(debounced).gaps, c.ticks) || !areLong(shapeOf(dropped).pulses, c.ticks) || !areLong(shapeOf(filled).gaps, c.ticks) {
			t.Errorf("%v: something short is left in %s, %s or %s", c, debounced, dropped, filled)
		}
		expect(t, fmt.Sprint("DropPulses twice ", c), dropped+" true", call(impl.DropPulses(dropped, ticks)))
		expect(t, fmt.Sprint("FillGaps twice ", c), filled+" true", call(impl.FillGaps(filled, ticks)))
	}
}

func TestFiltersOfOneTick(t *testing.T) {
	for _, w := range append(someWaves(), "0101110010") {
		for name, filter := range filters() {
			want := w
			if strings.HasPrefix(name, "OneShot") {
				want = waveAt(shapeOf(w).ups, int64(len(w)))
			}
			expect(t, name+" with 1 tick "+w, want+" true", call(filter(w, 1)))
		}
	}
}

// filterRow is what a filter makes of a wave.
type filterRow struct {
	what, filter, w string
	ticks           int64
	want            string
}

func checkFilters(t *testing.T, rows []filterRow) {
	t.Helper()
	for _, row := range rows {
		expect(t, fmt.Sprintf("%s of %s: %s", row.filter, row.w, row.what), row.want+" true", call(filters()[row.filter](row.w, row.ticks)))
	}
}

func TestWindowsLongerThanTheWave(t *testing.T) {
	checkFilters(t, []filterRow{
		{"longer by one", "Debounce", "111", 4, "000"},
		{"as long", "Debounce", "1111", 4, "0001"},
		{"the longest window", "Debounce", strings.Repeat("1", 49), 50, strings.Repeat("0", 49)},
		{"as long as the longest window", "Debounce", strings.Repeat("1", 50), 50, strings.Repeat("0", 49) + "1"},
		{"longer by one", "StretchPulses", "100", 4, "111"},
		{"just long enough", "StretchPulses", "0100", 3, "0111"},
		{"much longer", "StretchPulses", "0010", 50, "0011"},
		{"longer", "OneShot", "0100", 50, "0111"},
		{"longer, and up again", "OneShot", "0101", 50, "0111"},
		{"longer, and up again", "OneShot again", "0101", 50, "0111"},
		{"up at the last tick", "OneShot", "0001", 50, "0001"},
		{"longer", "DropPulses", "111", 4, "000"},
		{"as long", "DropPulses", "111", 3, "111"},
		{"longer", "FillGaps", "10001", 50, "11111"},
		{"no gaps before and behind", "FillGaps", "0001000", 50, "0001000"},
		{"no pulses", "FillGaps", "0000", 50, "0000"},
		{"longer, and most of them 1", "MajorityWave", "1111", 7, "0001"},
		{"longer, and not most of them 1", "MajorityWave", "111", 7, "000"},
		{"the longest window", "MajorityWave", strings.Repeat("1", 30), 49, strings.Repeat("0", 24) + "111111"},
	})
	for name, filter := range filters() {
		for _, ticks := range []int64{1, 3, impl.MaxFilter - 1} {
			expect(t, name+" of no ticks", " true", call(filter("", ticks)))
		}
		if name != "MajorityWave" {
			expect(t, name+" of no ticks", " true", call(filter("", impl.MaxFilter)))
		}
	}
}

func TestFilterCases(t *testing.T) {
	checkFilters(t, []filterRow{
		{"levels before the tick 0 are 0", "Debounce", "0111", 3, "0001"},
		{"falls as late as it rises", "Debounce", "1111000011110000", 4, "0001111000011110"},
		{"one level too few", "Debounce", "1110111011110", 4, "0000000000011"},
		{"a short gap does not count", "Debounce", "1111000100011110000", 4, "0001111111111111110"},
		{"pulses grow together", "StretchPulses", "1001", 3, "1111"},
		{"pulses stay apart", "StretchPulses", "10001", 3, "11101"},
		{"up when the shot has just ended", "OneShot", "100100", 3, "111111"},
		{"up at the last tick of the shot", "OneShot", "101000", 3, "111000"},
		{"up at the last tick of the shot", "OneShot again", "101000", 3, "111110"},
		{"one that does not count is no hindrance", "OneShot", "1010100000", 4, "1111111100"},
		{"each one counts", "OneShot again", "1010100000", 4, "1111111100"},
		{"a long pulse counts once", "OneShot", "1111111", 2, "1100000"},
		{"a long pulse counts once", "OneShot again", "1111111", 2, "1100000"},
		{"at both ends", "DropPulses", "1011011101", 2, "0011011100"},
		{"just as long", "DropPulses", "0111011", 3, "0111000"},
		{"zeros at both ends", "FillGaps", "0010100100", 2, "0011100100"},
		{"just as long", "FillGaps", "1001000101", 3, "1111000111"},
		{"three of five", "MajorityWave", "1010110000", 5, "0000111000"},
	})
}

func TestFiltersRequire(t *testing.T) {
	for name, filter := range filters() {
		for _, no := range noWaves() {
			for _, ticks := range []int64{1, 3, impl.MaxFilter - 1} {
				expect(t, fmt.Sprintf("%s %q", name, no), " false", call(filter(no, ticks)))
			}
		}
		for _, ticks := range noFilterTicks() {
			for _, w := range []string{"", "0", "1", "0101110010", strings.Repeat("01", impl.MaxTicks/2)} {
				expect(t, fmt.Sprint(name, " ", w, " with ticks ", ticks), " false", call(filter(w, ticks)))
			}
		}
	}
	for ticks := int64(2); ticks <= impl.MaxFilter; ticks += 2 {
		expect(t, fmt.Sprint("MajorityWave with ticks ", ticks), " false", call(impl.MajorityWave("0110", ticks)))
	}
	for _, again := range []int64{math.MinInt64, -1, 2, 3, math.MaxInt64} {
		for _, w := range []string{"", "0", "0110"} {
			expect(t, fmt.Sprint("OneShot ", w, " again ", again), " false", call(impl.OneShot(w, 3, again)))
		}
	}
}

func TestFilterExamples(t *testing.T) {
	checkFilters(t, []filterRow{
		{"example", "Debounce", "0101110010", 2, "0000111000"},
		{"example", "StretchPulses", "0101110010", 2, "0111111011"},
		{"example", "DropPulses", "0101110010", 2, "0001110000"},
		{"stage test", "FillGaps", "0101110010", 2, "0111110010"},
		{"stage test", "OneShot", "0101110010", 3, "0111000011"},
		{"stage test", "OneShot again", "0101110010", 3, "0111110011"},
		{"stage test", "MajorityWave", "0101110010", 3, "0001111000"},
	})
}
