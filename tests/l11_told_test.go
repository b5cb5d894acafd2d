package tests

import (
	"fmt"
	"math/rand"
	"strings"
	"testing"

	"loop.example/g01153/impl"
)

// toldText returns what a text of a list should be in the output of a line.
func toldText(list []int64) string {
	if len(list) == 0 {
		return "none"
	}
	if len(list) > impl.MaxItems {
		return "no"
	}
	return strings.Join(strings.Fields(strings.Trim(fmt.Sprint(list), "[]")), ",")
}

// shown returns how a wave is shown.
func shown(w string) string {
	if w == "" {
		return "none"
	}
	return w
}

// toldAt carries out lines, and returns the last output.
func toldAt(t *testing.T, c impl.Scope, lines ...string) string {
	t.Helper()
	_, outputs, ok := impl.RunScope(c, strings.Join(lines, "\n")+"\n")
	if told := strings.Split(outputs, "\n"); ok && len(told) == len(lines)+1 {
		return told[len(lines)-1]
	}
	t.Errorf("%q: got %q, %v", lines, outputs, ok)
	return ""
}

// toldWaves are waves to be divided, switched and filtered.
func toldWaves() []string {
	source := rand.New(rand.NewSource(16))
	waves := longWaves()
	for w := range allWaves(6) {
		waves = append(waves, w)
	}
	for longest := range 12 {
		waves = append(waves, anyWave(source, impl.MaxTicks, longest+1), anyWave(source, 100+longest, longest+1))
	}
	return waves
}

func TestWavesThatAreTold(t *testing.T) {
	for _, w := range toldWaves() {
		c := scopeOf("a", w)
		s := shapeOf(w)
		expect(t, "show "+w, shown(w), toldAt(t, c, "show a"))
		expect(t, "ups of "+w, toldText(s.ups), toldAt(t, c, "ups a"))
		expect(t, "pulses of "+w, toldText(s.pulses), toldAt(t, c, "pulses a"))
		expect(t, "runs of "+w, s.runs, toldAt(t, c, "runs a"))
		expect(t, "not of "+w, shown(strings.NewReplacer("0", "1", "1", "0").Replace(w)), toldAt(t, c, "not n a", "show n"))
		expect(t, "not of not of "+w, shown(w), toldAt(t, c, "not a a", "not a a", "show a"))
		for _, ticks := range []int{0, 1, 2, 7, 399, 400} {
			late := (strings.Repeat("0", ticks) + w)[:len(w)]
			expect(t, fmt.Sprint(w, " delayed by ", ticks), shown(late), toldAt(t, c, fmt.Sprint("delay n a ", ticks), "show n"))
		}
		if len(w) <= 20 {
			expect(t, w+" again and again", shown(strings.Repeat(w, 20)), toldAt(t, c, "repeat n a 20", "show n"))
		}
	}
}

func TestDividedWavesThatAreTold(t *testing.T) {
	for _, w := range toldWaves() {
		c := scopeOf("a", w)
		for _, by := range []int64{1, 2, 3, 4, 5, 63, impl.MaxBy} {
			for _, high := range []int64{0, 1, by / 2, by - 1, by} {
				expect(t, fmt.Sprint(w, " divided by ", by, " with ", high), shown(dividedOf(divider(by, high), w)), toldAt(t, c, fmt.Sprint("divide n a ", by, " ", high), "show n"))
			}
			expect(t, fmt.Sprint(w, " toggled every ", by), shown(toggledOf(by, w)), toldAt(t, c, fmt.Sprint("toggle n a ", by), "show n"))
		}
	}
}

func TestFilteredWavesThatAreTold(t *testing.T) {
	for _, w := range toldWaves() {
		c := scopeOf("a", w)
		for _, ticks := range []int{1, 2, 3, 5, 7, 8, 49, impl.MaxFilter} {
			settings := filterCase{w, ticks}
			expect(t, fmt.Sprint("settled ", settings), shown(debouncedOf(settings)), toldAt(t, c, fmt.Sprint("settle n a ", ticks), "show n"))
			expect(t, fmt.Sprint("stretched ", settings), shown(stretchedOf(settings)), toldAt(t, c, fmt.Sprint("stretch n a ", ticks), "show n"))
			expect(t, fmt.Sprint("counted ", settings), toldText(countsOf(settings)), toldAt(t, c, fmt.Sprint("count a ", ticks)))
		}
	}
}

func TestSwitchedWavesThatAreTold(t *testing.T) {
	check := func(a, b, choice string) {
		t.Helper()
		c := scopeOf("a", a, "b", b, "c", choice)
		want := switchedBy(switchOf(0, 0), [2]string{a, b}, choice).output([2]string{a, b})
		told := toldAt(t, c, "switch n a b c", "show n")
		expect(t, fmt.Sprint("switch of ", a, " and ", b, " by ", choice), shown(want), told)
		if a != "" {
			expect(t, "IsClean "+told, "true", impl.IsClean(told, a, b))
		}
	}
	for a := range allWaves(5) {
		for b := range allWaves(5) {
			for choice := range allWaves(5) {
				if len(b) == len(a) && len(choice) == len(a) {
					check(a, b, choice)
				}
			}
		}
	}
	source := rand.New(rand.NewSource(17))
	for n := range 300 {
		ticks := 1 + source.Intn(impl.MaxTicks)
		check(anyWave(source, ticks, 1+n%5), anyWave(source, ticks, 1+n%7), anyWave(source, ticks, 1+n%40))
	}
}

func TestJoinedWavesThatAreTold(t *testing.T) {
	ops := []func(a, b bool) bool{
		func(a, b bool) bool { return a && b },
		func(a, b bool) bool { return a || b },
		func(a, b bool) bool { return a != b },
		func(a, b bool) bool { return a && !b },
	}
	for a := range allWaves(4) {
		for b := range allWaves(4) {
			for op, isOn := range ops {
				want := "no"
				if len(a) == len(b) {
					joined := filteredOf(a, func(tick int) bool { return isOn(a[tick] == '1', b[tick] == '1') })
					want = shown(joined)
				}
				lines := []string{fmt.Sprint("join n a b ", op)}
				if want != "no" {
					lines = append(lines, "show n")
				}
				expect(t, fmt.Sprint(lines, " of ", a, " and ", b), want, toldAt(t, scopeOf("a", a, "b", b), lines...))
			}
		}
	}
}

func TestDutiesThatAreTold(t *testing.T) {
	for _, w := range toldWaves() {
		want := "no"
		if f, ok := impl.MakeFraction(int64(strings.Count(w, "1")), int64(len(w))); ok {
			want, _ = impl.FractionText(f)
		}
		expect(t, "duty of "+w, want, toldAt(t, scopeOf("a", w), "duty a"))
	}
	for w, want := range map[string]string{"": "no", "0": "0", "1": "1", "01": "1/2", "0110000110": "2/5", "011": "2/3"} {
		expect(t, "duty of "+w, want, toldAt(t, scopeOf("a", w), "duty a"))
	}
}
