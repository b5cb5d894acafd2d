package tests

import (
	"fmt"
	"math"
	"math/rand"
	"strings"
	"testing"

	"loop.example/g01153/impl"
)

// switchOf returns a switch with these fields, valid or not.
func switchOf(settle, first int64) impl.Switch {
	return impl.Switch{Settle: settle, First: first}
}

// allSwitches are all valid switches.
func allSwitches() []impl.Switch {
	var list []impl.Switch
	for settle := range int64(impl.MaxSettle + 1) {
		list = append(list, switchOf(settle, 0), switchOf(settle, 1))
	}
	return list
}

// noSwitches are switches that are not valid.
func noSwitches() []impl.Switch {
	return []impl.Switch{switchOf(-1, 0), switchOf(-1, 1), switchOf(impl.MaxSettle+1, 0), switchOf(impl.MaxSettle+1, 1), switchOf(0, -1), switchOf(0, 2), switchOf(impl.MaxSettle, 2), switchOf(impl.MaxSettle, -1),
		switchOf(math.MinInt64, 0), switchOf(math.MaxInt64, 0), switchOf(0, math.MinInt64), switchOf(0, math.MaxInt64), switchOf(math.MinInt64, math.MaxInt64)}
}

// switched is what a switch should do: whether the enables of a and b are on behind each tick, and how often a request was for nothing.
type switched struct {
	enables [2][]bool
	refused int
}

// switchedBy tells a switch by the past: at the tick at which a clock goes down for the time with the number k, what is used
// is its wish at the tick at which it went down for the time with the number k - Settle, or its enable at first.
func switchedBy(w impl.Switch, waves [2]string, choice string) switched {
	var s switched
	var wishes [2][]bool
	on := [2]bool{w.First == 0, w.First == 1}
	for tick := range choice {
		for clock, wave := range waves {
			if tick == 0 || wave[tick-1:tick+1] != "10" {
				continue
			}
			other := on[1-clock]
			wishes[clock] = append(wishes[clock], choice[tick:tick+1] == fmt.Sprint(clock) && !other)
			used := w.First == int64(clock)
			if settled := len(wishes[clock]) - 1 - int(w.Settle); settled >= 0 {
				used = wishes[clock][settled]
			}
			if used && other {
				s.refused++
			}
			on[clock] = used && !other
		}
		for clock := range on {
			s.enables[clock] = append(s.enables[clock], on[clock])
		}
	}
	return s
}

// levelsOf returns the wave that is 1 where a list is true.
func levelsOf(list []bool) string {
	w := ""
	for _, on := range list {
		w += map[bool]string{false: "0", true: "1"}[on]
	}
	return w
}

// output returns what a switch should put out.
func (s switched) output(waves [2]string) string {
	var list []bool
	for tick := range waves[0] {
		list = append(list, s.enables[0][tick] && waves[0][tick] == '1' || s.enables[1][tick] && waves[1][tick] == '1')
	}
	return levelsOf(list)
}

// times returns when enables should change, where w tells those at first.
func (s switched) times(w impl.Switch) []int64 {
	times := []int64{}
	last := [2]bool{w.First == 0, w.First == 1}
	for tick := range s.enables[0] {
		next := [2]bool{s.enables[0][tick], s.enables[1][tick]}
		if next != last {
			times = append(times, int64(tick))
		}
		last = next
	}
	return times
}

// checkSwitch checks all that a switch does, promise 8 among it, and returns what it should do.
func checkSwitch(t *testing.T, w impl.Switch, a, b, choice string) switched {
	t.Helper()
	what := fmt.Sprint(w, " a ", a, " b ", b, " choice ", choice)
	want := switchedBy(w, [2]string{a, b}, choice)
	output, ok := impl.SafeSwitch(w, a, b, choice)
	expect(t, "SafeSwitch "+what, want.output([2]string{a, b})+" true", output, ok)
	x, y, ok := impl.EnablesOf(w, a, b, choice)
	expect(t, "EnablesOf "+what, fmt.Sprintln(levelsOf(want.enables[0]), levelsOf(want.enables[1]), "true"), fmt.Sprintln(x, y, ok))
	expect(t, "SwitchTimes "+what, fmt.Sprint(want.times(w), " true"), call(impl.SwitchTimes(w, a, b, choice)))
	for tick := range choice {
		if x[tick] == '1' && y[tick] == '1' {
			t.Errorf("%s: both enables are on at %d", what, tick)
		}
	}
	if !isCleanOf(output, a, b) || !impl.IsClean(output, a, b) {
		t.Errorf("%s: %s is not clean", what, output)
	}
	return want
}

// anyWave returns a wave with so many ticks whose parts of equal levels have lengths up to longest.
func anyWave(source *rand.Rand, ticks, longest int) string {
	w := ""
	for level := source.Intn(2); len(w) < ticks; level = 1 - level {
		w += strings.Repeat(fmt.Sprint(level), 1+source.Intn(longest))
	}
	return w[:ticks]
}

func TestSwitchLimits(t *testing.T) {
	expect(t, "limits of chapter 7", "4 5", impl.MaxInputs, impl.MaxSettle)
}

func TestValidSwitch(t *testing.T) {
	for settle := int64(-2); settle <= impl.MaxSettle+2; settle++ {
		for first := int64(-2); first <= 3; first++ {
			want := settle >= 0 && settle <= 5 && (first == 0 || first == 1)
			expect(t, fmt.Sprint("ValidSwitch ", settle, first), fmt.Sprint(want), impl.ValidSwitch(switchOf(settle, first)))
		}
	}
	for _, w := range noSwitches() {
		expect(t, fmt.Sprint("ValidSwitch ", w), "false", impl.ValidSwitch(w))
	}
}

// checkPlain checks PlainSwitch, tick by tick.
func checkPlain(t *testing.T, a, b, choice string) {
	t.Helper()
	want := ""
	for tick := range choice {
		want += []string{a, b}[choice[tick]-'0'][tick : tick+1]
	}
	expect(t, fmt.Sprint("PlainSwitch ", a, b, choice), want+" true", call(impl.PlainSwitch(a, b, choice)))
}

func TestPlainSwitch(t *testing.T) {
	for a := range allWaves(4) {
		for b := range allWaves(4) {
			for choice := range allWaves(4) {
				if len(a) == len(b) && len(a) == len(choice) {
					checkPlain(t, a, b, choice)
				}
			}
		}
	}
	source := rand.New(rand.NewSource(7))
	for range 200 {
		checkPlain(t, anyWave(source, impl.MaxTicks, 5), anyWave(source, impl.MaxTicks, 9), anyWave(source, impl.MaxTicks, 30))
	}
}

func TestSafeSwitchSmall(t *testing.T) {
	for a := range allWaves(5) {
		for b := range allWaves(5) {
			for choice := range allWaves(5) {
				if len(a) != len(b) || len(a) != len(choice) {
					continue
				}
				// A clock goes down at most two times here, so that more requests than two do nothing.
				for _, w := range []impl.Switch{switchOf(0, 0), switchOf(0, 1), switchOf(1, 0), switchOf(1, 1), switchOf(2, 1)} {
					checkSwitch(t, w, a, b, choice)
				}
			}
		}
	}
}

func TestSafeSwitchLarge(t *testing.T) {
	source := rand.New(rand.NewSource(70))
	changes, refused := map[int64]int{}, map[int64]int{}
	for range 150 {
		for _, w := range allSwitches() {
			a, b := anyWave(source, impl.MaxTicks, 1+source.Intn(6)), anyWave(source, impl.MaxTicks, 1+source.Intn(6))
			s := checkSwitch(t, w, a, b, anyWave(source, impl.MaxTicks, 1+source.Intn(60)))
			changes[w.Settle] += len(s.times(w))
			refused[w.Settle] += s.refused
		}
	}
	// Otherwise, these waves would show nothing. With no requests, the wish is not old, and never refused.
	for settle := range int64(impl.MaxSettle + 1) {
		expect(t, fmt.Sprint("enables change, requests are for nothing, with ", settle), fmt.Sprint(true, settle > 0), changes[settle] > 1000, refused[settle] > 20)
	}
	expect(t, "requests for nothing without requests", "0", refused[0])
}

func TestSwitchesWithFewTicks(t *testing.T) {
	for _, w := range allSwitches() {
		what := fmt.Sprint(w)
		expect(t, "PlainSwitch of no ticks", " true", call(impl.PlainSwitch("", "", "")))
		expect(t, "SafeSwitch of no ticks "+what, " true", call(impl.SafeSwitch(w, "", "", "")))
		x, y, ok := impl.EnablesOf(w, "", "", "")
		expect(t, "EnablesOf no ticks "+what, "  true", x, y, ok)
		expect(t, "SwitchTimes of no ticks "+what, "[] true", call(impl.SwitchTimes(w, "", "", "")))
		for levels := range 8 {
			text := fmt.Sprintf("%03b", levels)
			checkSwitch(t, w, text[:1], text[1:2], text[2:])
		}
	}
}

// switchRow is a switch with waves, and what comes of it.
type switchRow struct {
	what         string
	w            impl.Switch
	a, b, choice string
	output, x, y string
	times        string
}

// checkRows checks switches with what comes of them.
func checkRows(t *testing.T, rows []switchRow) {
	t.Helper()
	for _, r := range rows {
		expect(t, r.what+": SafeSwitch", r.output+" true", call(impl.SafeSwitch(r.w, r.a, r.b, r.choice)))
		x, y, ok := impl.EnablesOf(r.w, r.a, r.b, r.choice)
		expect(t, r.what+": EnablesOf", r.x+" "+r.y+" true", x, y, ok)
		expect(t, r.what+": SwitchTimes", r.times+" true", call(impl.SwitchTimes(r.w, r.a, r.b, r.choice)))
		expect(t, r.what+": IsClean", "true", impl.IsClean(r.output, r.a, r.b))
	}
}

func TestSwitchesSettle(t *testing.T) {
	a, b := strings.Repeat("01", 10), strings.Repeat("0011", 5)
	late, now, never := "00011111111111111111", strings.Repeat("1", 20), strings.Repeat("0", 20)
	checkRows(t, []switchRow{
		{"no requests", switchOf(0, 0), a, b, late, "01010011001100110011", "11110000000000000000", "00001111111111111111", "[4]"},
		{"one request", switchOf(1, 0), a, b, late, "01010100000000110011", "11111100000000000000", "00000000000011111111", "[6 12]"},
		{"two requests", switchOf(2, 0), a, b, late, "01010101000000000011", "11111111000000000000", "00000000000000001111", "[8 16]"},
		{"four requests", switchOf(4, 0), a, b, now, "01010101010000000000", "11111111110000000000", never, "[10]"},
		{"most requests", switchOf(5, 0), a, b, now, "01010101010100000000", "11111111111100000000", never, "[12]"},
		{"most requests, with too few ticks", switchOf(5, 0), a[:12], b[:12], now[:12], a[:12], now[:12], never[:12], "[]"},
		{"most requests, with just as many", switchOf(5, 0), a[:13], b[:13], now[:13], a[:13], now[:12] + "0", never[:13], "[12]"},
		{"the other one first", switchOf(0, 1), b, a, "11100000000000000000", "01010000001100110011", "00000000111111111111", "11110000000000000000", "[4 8]"},
		{"a request of a that has settled while b was on again", switchOf(1, 1), "0001010", "1010100", "0011000", "1010000", "0000000", "1110011", "[3 5]"},
		{"a request of b that has settled while a was on again", switchOf(1, 0), "1010100", "0001010", "1100111", "1010000", "1110011", "0000000", "[3 5]"},
	})
}

func TestSwitchesAtOneTick(t *testing.T) {
	checkRows(t, []switchRow{
		// What is done for a is done before b: b sees that the enable of a is off at the same tick, but a that of b only the next time.
		{"from a to b", switchOf(0, 0), "0110110", "0110110", "1111111", "0110110", "1110000", "0001111", "[3]"},
		{"from b to a", switchOf(0, 1), "0110110", "0110110", "0000000", "0110000", "0000001", "1110000", "[3 6]"},
		{"the choice at this tick", switchOf(0, 0), "0110110", "0110110", "0001000", "0110110", "1110000", "0001110", "[3 6]"},
		{"the choice at other ticks", switchOf(0, 0), "0110110", "0110110", "1110110", "0110110", "1111111", "0000000", "[]"},
	})
}

func TestClocksStandStill(t *testing.T) {
	low, high, clock, to, back := "000000000", "111111111", "010101010", "111111111", "000000000"
	var rows []switchRow
	for settle := range int64(impl.MaxSettle + 1) {
		what := fmt.Sprint(" with requests ", settle)
		first, second := switchOf(settle, 0), switchOf(settle, 1)
		// The clock that is on never goes down, and the other one waits for ever.
		rows = append(rows, switchRow{"low" + what, first, low, clock, to, low, high, low, "[]"}, switchRow{"high" + what, first, high, clock, to, high, high, low, "[]"},
			switchRow{"the other one low" + what, second, clock, low, back, low, low, high, "[]"}, switchRow{"the other one high" + what, second, clock, high, back, high, low, high, "[]"},
			switchRow{"both low" + what, first, low, low, to, low, high, low, "[]"}, switchRow{"both high" + what, second, high, high, back, high, low, high, "[]"},
			switchRow{"up at last" + what, first, "000000001", clock, to, "000000001", high, low, "[]"}, switchRow{"not chosen" + what, first, clock, high, back, clock, high, low, "[]"})
	}
	// The clock that is on is left, but the other one never goes down, so that none is on.
	rows = append(rows, switchRow{"to low", switchOf(0, 0), clock, low, to, "010000000", "110000000", low, "[2]"}, switchRow{"to high", switchOf(0, 0), clock, high, to, "010000000", "110000000", low, "[2]"},
		switchRow{"to low, later", switchOf(1, 0), clock, low, to, "010100000", "111100000", low, "[4]"}, switchRow{"to high, later", switchOf(2, 1), high, clock, back, "010101000", low, "111111000", "[6]"},
		switchRow{"stops low", switchOf(0, 0), "010100000", clock, "000001111", "010100000", high, low, "[]"}, switchRow{"stops high", switchOf(0, 0), "010111111", clock, "000001111", "010111111", high, low, "[]"},
		switchRow{"to one that stops", switchOf(0, 0), clock, "101000000", "001111111", "010000000", "110000000", "000111111", "[2 3]"},
		switchRow{"to one that stops too soon", switchOf(0, 0), clock, "100000000", "001111111", "010000000", "110000000", low, "[2]"},
		switchRow{"with too few requests left", switchOf(1, 0), "110000000", clock, to, "110000000", high, low, "[]"})
	checkRows(t, rows)
}

// failsForWaves checks that what a switch does fails for waves.
func failsForWaves(t *testing.T, w impl.Switch, a, b, choice string) {
	t.Helper()
	what := fmt.Sprintf("%v %q %q %q", w, a, b, choice)
	expect(t, "SafeSwitch "+what, " false", call(impl.SafeSwitch(w, a, b, choice)))
	x, y, ok := impl.EnablesOf(w, a, b, choice)
	expect(t, "EnablesOf "+what, "  false", x, y, ok)
	expect(t, "SwitchTimes "+what, "[] false", call(impl.SwitchTimes(w, a, b, choice)))
}

func TestSwitchesRequireWaves(t *testing.T) {
	for _, no := range noWaves() {
		for _, other := range []string{"", "0", strings.Repeat("0", len(no)), strings.Repeat("1", len(no))} {
			for place := range 3 {
				args := []string{other, other, other}
				args[place] = no
				expect(t, fmt.Sprintf("PlainSwitch %q", args), " false", call(impl.PlainSwitch(args[0], args[1], args[2])))
				failsForWaves(t, switchOf(0, 0), args[0], args[1], args[2])
				failsForWaves(t, switchOf(impl.MaxSettle, 1), args[0], args[1], args[2])
			}
		}
	}
	for a := range allWaves(2) {
		for b := range allWaves(2) {
			for choice := range allWaves(2) {
				if len(a) == len(b) && len(a) == len(choice) {
					continue
				}
				expect(t, fmt.Sprintf("PlainSwitch %q %q %q", a, b, choice), " false", call(impl.PlainSwitch(a, b, choice)))
				failsForWaves(t, switchOf(1, 0), a, b, choice)
			}
		}
	}
}

func TestSwitchesRequireSwitches(t *testing.T) {
	for _, w := range noSwitches() {
		failsForWaves(t, w, "", "", "")
		failsForWaves(t, w, "1100110011", "1010101010", "0001111111")
	}
}

func TestSwitchesWithMostTicks(t *testing.T) {
	most, more := strings.Repeat("10", impl.MaxTicks/2), strings.Repeat("10", impl.MaxTicks/2)+"1"
	checkPlain(t, most, most, most)
	expect(t, "PlainSwitch", " false", call(impl.PlainSwitch(more, more, more)))
	for _, w := range allSwitches() {
		checkSwitch(t, w, most, most, strings.Repeat("1", impl.MaxTicks))
		failsForWaves(t, w, more, more, more)
	}
}

func TestSwitchExample(t *testing.T) {
	a, b, choice := "1100110011", "1010101010", "0001111111"
	expect(t, "PlainSwitch", "1100101010 true", call(impl.PlainSwitch(a, b, choice)))
	checkRows(t, []switchRow{{"the example", switchOf(0, 0), a, b, choice, "1100110010", "1111110000", "0000000111", "[6 7]"}})
}
