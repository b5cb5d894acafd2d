package tests

import (
	"fmt"
	"math"
	"math/rand"
	"slices"
	"strings"
	"testing"

	"loop.example/g01153/impl"
)

// spansOf returns the first tick and the tick behind the last one of each pulse of a wave, in order.
func spansOf(w string) [][2]int {
	var spans [][2]int
	for from := range w {
		if w[from] == '0' || from > 0 && w[from-1] == '1' {
			continue
		}
		length := len(w[from:]) - len(strings.TrimLeft(w[from:], "1"))
		spans = append(spans, [2]int{from, from + length})
	}
	return spans
}

// isCleanOf tells what IsClean should, for waves of as many ticks.
func isCleanOf(out, a, b string) bool {
	own := append(spansOf(a), spansOf(b)...)
	for _, span := range spansOf(out) {
		begun := slices.ContainsFunc(own, func(other [2]int) bool {
			return other[0] == span[0] && (other[1] == span[1] || span[1] == len(out))
		})
		if !begun {
			return false
		}
	}
	return true
}

// shortOf returns what ShortPulses should.
func shortOf(w string, least int) []int64 {
	short := []int64{}
	for _, span := range spansOf(w) {
		if span[1] < len(w) && span[1]-span[0] < least {
			short = append(short, int64(span[0]))
		}
	}
	return short
}

func TestShortPulses(t *testing.T) {
	waves := append(longWaves(), strings.Repeat("1", impl.MaxTicks-1), strings.Repeat("1", 200)+"0"+strings.Repeat("1", 198)+"0", "0"+strings.Repeat("1", impl.MaxTicks-2)+"0")
	for w := range allWaves(9) {
		waves = append(waves, w)
	}
	for _, w := range waves {
		for _, least := range []int{1, 2, 3, 4, 8, 198, 199, 200, 201, impl.MaxTicks - 1, impl.MaxTicks} {
			expect(t, fmt.Sprint("ShortPulses ", w, least), fmt.Sprint(shortOf(w, least), " true"), call(impl.ShortPulses(w, int64(least))))
		}
	}
	expect(t, "none is shorter than 1", "[] true", call(impl.ShortPulses("101010", 1)))
	expect(t, "just as long", "[1] true", call(impl.ShortPulses("010110111000", 2)))
	expect(t, "the last tick", "[1] true", call(impl.ShortPulses("0101", 2)))
	expect(t, "the tick before it", "[1 3] true", call(impl.ShortPulses("01010", 2)))
	expect(t, "no ticks", "[] true", call(impl.ShortPulses("", 1)))
	expect(t, "the longest one", "[0] true", call(impl.ShortPulses(strings.Repeat("1", impl.MaxTicks-1)+"0", impl.MaxTicks)))
	expect(t, "the longest one is no shorter than itself", "[] true", call(impl.ShortPulses(strings.Repeat("1", impl.MaxTicks-1)+"0", impl.MaxTicks-1)))
}

func TestShortPulsesRequires(t *testing.T) {
	for _, least := range []int64{math.MinInt64, -1, 0, impl.MaxTicks + 1, math.MaxInt64} {
		for _, w := range []string{"", "0", "01010", strings.Repeat("10", impl.MaxTicks/2)} {
			expect(t, fmt.Sprint("ShortPulses ", w, least), "[] false", call(impl.ShortPulses(w, least)))
		}
	}
	for _, no := range noWaves() {
		for _, least := range []int64{1, 2, impl.MaxTicks} {
			expect(t, fmt.Sprintf("ShortPulses %q", no), "[] false", call(impl.ShortPulses(no, least)))
		}
	}
}

func TestIsClean(t *testing.T) {
	found := map[bool]int{}
	for out := range allWaves(5) {
		for a := range allWaves(5) {
			for b := range allWaves(5) {
				want := len(out) == len(a) && len(a) == len(b) && isCleanOf(out, a, b)
				found[want]++
				if got := impl.IsClean(out, a, b); got != want {
					t.Errorf("IsClean(%q, %q, %q): got %v", out, a, b, got)
				}
			}
		}
	}
	expect(t, "both are found", "true true", found[true] > 1000, found[false] > 1000)
	source := rand.New(rand.NewSource(17))
	for range 500 {
		a, b := anyWave(source, impl.MaxTicks, 4), anyWave(source, impl.MaxTicks, 4)
		// Pulses of both, some of which have grown together.
		out, _ := impl.SafeSwitch(switchOf(0, 0), a, b, anyWave(source, impl.MaxTicks, 20))
		tick := source.Intn(impl.MaxTicks)
		changed := out[:tick] + "1" + out[tick+1:]
		expect(t, fmt.Sprint("IsClean ", changed, a, b), fmt.Sprint(isCleanOf(changed, a, b)), impl.IsClean(changed, a, b))
	}
}

func TestIsCleanCases(t *testing.T) {
	cases := []struct {
		what, out, a, b string
		want            bool
	}{
		{"no ticks", "", "", "", true},
		{"no pulses", "00000", "01100", "00110", true},
		{"one of a", "01100", "01100", "00000", true},
		{"one of b", "01100", "00000", "01100", true},
		{"one of both", "01100", "01100", "01100", true},
		{"one of each", "0110010", "0110000", "1000010", true},
		{"too short", "01000", "01100", "00110", false},
		{"begins too late", "00100", "01100", "00000", false},
		{"begins too late, and lasts", "00011", "00111", "01111", false},
		{"too long", "01110", "01100", "00000", false},
		{"grown together", "01110", "01100", "00110", false},
		{"grown together without a gap", "01110", "01100", "00010", false},
		{"of none", "01000", "00000", "00000", false},
		{"lasts", "00011", "00011", "00000", true},
		{"lasts longer than that of a", "00011", "00010", "00000", true},
		{"lasts longer than that of b", "00111", "00000", "00100", true},
		{"ends before that of a, which lasts", "00010", "00011", "00000", false},
		{"up at the tick 0", "10100", "10000", "00100", true},
		{"just the last tick", "00001", "00001", "00000", true},
		{"just the last tick, begun too late", "00001", "00011", "00000", false},
		{"the gap is longer", "0000110", "0110110", "0000000", true},
	}
	for _, c := range cases {
		expect(t, c.what, fmt.Sprint(c.want), impl.IsClean(c.out, c.a, c.b))
	}
	for _, w := range longWaves() {
		expect(t, "itself "+w, "true true", impl.IsClean(w, w, strings.Repeat("0", impl.MaxTicks)), impl.IsClean(w, strings.Repeat("0", impl.MaxTicks), w))
	}
}

func TestIsCleanOfNoWaves(t *testing.T) {
	for _, no := range noWaves() {
		for _, other := range []string{"", strings.Repeat("0", len(no)), no} {
			expect(t, fmt.Sprintf("IsClean %q %q", no, other), "false false false", impl.IsClean(no, other, other), impl.IsClean(other, no, other), impl.IsClean(other, other, no))
		}
	}
	expect(t, "other ticks", "false false false", impl.IsClean("0", "00", "00"), impl.IsClean("00", "0", "00"), impl.IsClean("00", "00", "0"))
}

// passedOf returns what GateWave should, where each tick looks back for itself.
func passedOf(w, enable string) string {
	passed := ""
	for tick := range w {
		before := max(strings.LastIndex(w[:tick], "0"), 0)
		passed += string(min(w[tick], enable[before]))
	}
	return passed
}

// checkGates checks GateWave and PlainGate.
func checkGates(t *testing.T, w, enable string) {
	t.Helper()
	plain := ""
	for tick := range w {
		plain += string(min(w[tick], enable[tick]))
	}
	gated, ok := impl.GateWave(w, enable)
	expect(t, fmt.Sprint("GateWave ", w, enable), passedOf(w, enable)+" true", gated, ok)
	expect(t, fmt.Sprint("pulses of GateWave ", w, enable), "true", isCleanOf(gated, w, strings.Repeat("0", len(w))))
	expect(t, fmt.Sprint("PlainGate ", w, enable), plain+" true", call(impl.PlainGate(w, enable)))
}

func TestGates(t *testing.T) {
	for w := range allWaves(7) {
		for enable := range allWaves(7) {
			if len(w) == len(enable) {
				checkGates(t, w, enable)
			}
		}
	}
	source := rand.New(rand.NewSource(27))
	for range 500 {
		checkGates(t, anyWave(source, impl.MaxTicks, 1+source.Intn(6)), anyWave(source, impl.MaxTicks, 1+source.Intn(12)))
	}
	for _, w := range longWaves() {
		for _, enable := range longWaves() {
			checkGates(t, w, enable)
		}
	}
	expect(t, "up from the tick 0 on", "1100 true", call(impl.GateWave("1100", "1000")))
	expect(t, "not up from the tick 0 on", "0000 true", call(impl.GateWave("1100", "0111")))
	expect(t, "stands still, high", "11111 true", call(impl.GateWave("11111", "10000")))
	expect(t, "stands still, low", "00000 true", call(impl.GateWave("00000", "11111")))
	expect(t, "on too late", "0000011 true", call(impl.GateWave("0111011", "0011100")))
	expect(t, "off too late", "0111000 true", call(impl.GateWave("0111011", "1000011")))
	expect(t, "no ticks", " true", call(impl.GateWave("", "")))
	expect(t, "no ticks, plain", " true", call(impl.PlainGate("", "")))
}

// resetOf returns what ResetWave should, where each tick looks back for itself.
func resetOf(w, reset string, stages int) string {
	wave := ""
	for tick := range w {
		ups := 0
		for at := strings.LastIndex(reset[:tick+1], "1") + 1; at <= tick; at++ {
			if w[at] == '1' && (at == 0 || w[at-1] == '0') {
				ups++
			}
		}
		wave += map[bool]string{false: "1", true: "0"}[ups >= stages]
	}
	return wave
}

// checkReset checks ResetWave for all numbers of stages.
func checkReset(t *testing.T, w, reset string) {
	t.Helper()
	for stages := 1; stages <= impl.MaxInputs; stages++ {
		expect(t, fmt.Sprint("ResetWave ", w, reset, stages), resetOf(w, reset, stages)+" true", call(impl.ResetWave(w, reset, int64(stages))))
	}
}

func TestResetWave(t *testing.T) {
	for w := range allWaves(7) {
		for reset := range allWaves(7) {
			if len(w) == len(reset) {
				checkReset(t, w, reset)
			}
		}
	}
	source := rand.New(rand.NewSource(37))
	for range 100 {
		checkReset(t, anyWave(source, impl.MaxTicks, 1+source.Intn(5)), anyWave(source, impl.MaxTicks, 1+source.Intn(20)))
	}
	for _, w := range longWaves() {
		for _, reset := range longWaves() {
			checkReset(t, w, reset)
		}
	}
}

func TestResetWaveCases(t *testing.T) {
	cases := []struct {
		what, w, reset string
		stages         int64
		want           string
	}{
		{"no ticks", "", "", 1, ""},
		{"up at the tick 0", "1000", "0000", 1, "0000"},
		{"up at the tick 0, with reset", "1010", "1000", 1, "1100"},
		{"two stages from the tick 0 on", "101010", "000000", 2, "110000"},
		{"most stages", "1010101010", "0000000000", 4, "1111110000"},
		{"most stages, one time too few", "10101000", "00000000", 4, "11111111"},
		{"up at a tick with reset does not count", "00101010", "00110000", 1, "11110000"},
		{"times before a reset do not count", "0101010101", "0000100000", 3, "1111111110"},
		{"no longer than its tick", "01010101", "00010000", 1, "10011000"},
		{"each reset counts anew", "0101010101", "0010001000", 2, "1111101110"},
		{"stands still, low", "000000", "001000", 1, "111111"},
		{"stands still, high", "111111", "001000", 1, "001111"},
		{"reset for ever", "010101", "111111", 1, "111111"},
		{"stays so", "0101010101010101", "0000000000000000", 1, "1000000000000000"},
	}
	for _, c := range cases {
		expect(t, c.what, c.want+" true", call(impl.ResetWave(c.w, c.reset, c.stages)))
	}
}

func TestGatesRequire(t *testing.T) {
	fails := func(w, other string, stages ...int64) {
		t.Helper()
		for _, n := range stages {
			expect(t, fmt.Sprintf("ResetWave %q %q %d", w, other, n), " false", call(impl.ResetWave(w, other, n)))
		}
		if slices.Contains(stages, 1) {
			expect(t, fmt.Sprintf("GateWave %q %q", w, other), " false", call(impl.GateWave(w, other)))
			expect(t, fmt.Sprintf("PlainGate %q %q", w, other), " false", call(impl.PlainGate(w, other)))
		}
	}
	for _, no := range noWaves() {
		for _, other := range []string{"", "0", strings.Repeat("0", len(no)), strings.Repeat("1", len(no)), no} {
			fails(no, other, 1, impl.MaxInputs)
			fails(other, no, 1, impl.MaxInputs)
		}
	}
	for w := range allWaves(3) {
		for other := range allWaves(3) {
			if len(w) != len(other) {
				fails(w, other, 1, 2)
			}
		}
	}
	for _, w := range []string{"", "1", "0101010101", strings.Repeat("01", impl.MaxTicks/2)} {
		fails(w, strings.Repeat("0", len(w)), math.MinInt64, -1, 0, impl.MaxInputs+1, math.MaxInt64)
	}
}

func TestGateExamples(t *testing.T) {
	expect(t, "GateWave", "00000000 true", call(impl.GateWave("01101101", "00101001")))
	expect(t, "PlainGate", "00101001 true", call(impl.PlainGate("01101101", "00101001")))
	expect(t, "ResetWave", "10011000 true", call(impl.ResetWave("01010101", "00010000", 1)))
	expect(t, "ResetWave without stages", " false", call(impl.ResetWave("01", "00", 0)))
}
