package tests

import (
	"fmt"
	"math"
	"math/big"
	"testing"

	"loop.example/g01153/impl"
)

// setting is what an accumulator is set to.
type setting struct {
	step, modulus, phase int64
}

// smallSettings are all settings with a small modulus.
func smallSettings(most int64) []setting {
	var list []setting
	for modulus := int64(1); modulus <= most; modulus++ {
		for step := int64(1); step <= modulus; step++ {
			for phase := range modulus {
				list = append(list, setting{step, modulus, phase})
			}
		}
	}
	return list
}

// largeSettings are settings with the greatest modulus and its neighbour.
func largeSettings() []setting {
	var list []setting
	for modulus := int64(impl.MaxModulus - 1); modulus <= impl.MaxModulus; modulus++ {
		for _, step := range []int64{1, 2, 3, 7, 333, 499, 500, 501, 618, modulus - 1, modulus} {
			for _, phase := range []int64{0, 1, 2, 250, 999 - step/2, modulus - 1} {
				list = append(list, setting{step, modulus, min(phase, modulus-1)})
			}
		}
	}
	return list
}

// noSettings are settings that are not as they must be.
func noSettings() []setting {
	return []setting{{0, 1, 0}, {-1, 5, 0}, {6, 5, 0}, {2, 1, 0}, {1, 0, 0}, {0, 0, 0}, {1, -1, 0}, {-1, -1, 0}, {2, 5, -1}, {2, 5, 5}, {2, 5, 6}, {1, 1, 1}, {5, 5, 5},
		{1, impl.MaxModulus + 1, 0}, {impl.MaxModulus + 1, impl.MaxModulus + 1, 0}, {impl.MaxModulus + 1, impl.MaxModulus, 0}, {1, impl.MaxModulus, impl.MaxModulus},
		{math.MinInt64, 5, 0}, {math.MaxInt64, 5, 0}, {1, math.MinInt64, 0}, {1, math.MaxInt64, 0}, {math.MinInt64, math.MinInt64, 0}, {2, 5, math.MinInt64}, {2, 5, math.MaxInt64}}
}

// pulsesOf returns the ticks with a pulse, one tick after another.
func pulsesOf(s setting, ticks int64) []int64 {
	var pulses []int64
	phase := s.phase
	for tick := range ticks {
		if phase += s.step; phase >= s.modulus {
			phase -= s.modulus
			pulses = append(pulses, tick)
		}
	}
	return pulses
}

// waveAt returns the wave with the level 1 at these ticks.
func waveAt(at []int64, ticks int64) string {
	levels := make([]byte, ticks)
	for tick := range levels {
		levels[tick] = '0'
	}
	for _, tick := range at {
		levels[tick] = '1'
	}
	return string(levels)
}

func TestAccumulateWave(t *testing.T) {
	for _, s := range smallSettings(7) {
		for _, ticks := range []int64{0, 1, 2, 3, 20, 21} {
			want := waveAt(pulsesOf(s, ticks), ticks) + " true"
			expect(t, fmt.Sprint("AccumulateWave ", s, ticks), want, call(impl.AccumulateWave(s.step, s.modulus, s.phase, ticks)))
		}
	}
	for _, s := range append(largeSettings(), setting{3, 7, 2}, setting{1, 1, 0}) {
		for _, ticks := range []int64{0, impl.MaxTicks - 1, impl.MaxTicks} {
			want := waveAt(pulsesOf(s, ticks), ticks) + " true"
			expect(t, fmt.Sprint("AccumulateWave ", s, ticks), want, call(impl.AccumulateWave(s.step, s.modulus, s.phase, ticks)))
		}
	}
	expect(t, "the ratio 1", "1111 true", call(impl.AccumulateWave(5, 5, 3, 4)))
	expect(t, "the phase brings a pulse at once", "10000 true", call(impl.AccumulateWave(1, 9, 8, 5)))
}

func TestPulseTick(t *testing.T) {
	for _, s := range append(smallSettings(7), largeSettings()...) {
		pulses := pulsesOf(s, 20*s.modulus)
		for k, tick := range pulses[:20] {
			expect(t, fmt.Sprint("PulseTick ", s, k), fmt.Sprint(tick, true), call(impl.PulseTick(s.step, s.modulus, s.phase, int64(k))))
		}
	}
}

func TestPulseTickFarOff(t *testing.T) {
	for _, s := range append(smallSettings(7), largeSettings()...) {
		for _, k := range []int64{0, 1, 999, 31415, impl.MaxPulse - 1, impl.MaxPulse} {
			tick, ok := impl.PulseTick(s.step, s.modulus, s.phase, k)
			enough := s.phase+(tick+1)*s.step >= (k+1)*s.modulus
			less := s.phase+tick*s.step < (k+1)*s.modulus
			expect(t, fmt.Sprint("PulseTick ", s, k), "true true true", enough, less, ok)
		}
	}
	expect(t, "the last tick of all", "100000999 true", call(impl.PulseTick(1, impl.MaxModulus, 0, impl.MaxPulse)))
	expect(t, "the ratio 1", "100000 true", call(impl.PulseTick(5, 5, 4, impl.MaxPulse)))
}

// lateOf returns how much later than at its time the tick behind a pulse begins, for the phase 0.
func lateOf(step, modulus, k, tick int64) *big.Rat {
	time := big.NewRat((k+1)*modulus, step)
	return time.Sub(big.NewRat(tick+1, 1), time)
}

func TestPulseError(t *testing.T) {
	for _, s := range append(smallSettings(12), largeSettings()...) {
		if s.phase > 0 {
			continue
		}
		for k, tick := range pulsesOf(s, 30*s.modulus)[:30] {
			want := resultOf(lateOf(s.step, s.modulus, int64(k), tick))
			expect(t, fmt.Sprint("PulseError ", s, k), want, call(impl.PulseError(s.step, s.modulus, int64(k))))
		}
		for _, k := range []int64{impl.MaxPulse - 1, impl.MaxPulse} {
			late, ok := impl.PulseError(s.step, s.modulus, k)
			inTime := late.Num >= 0 && late.Num < late.Den
			expect(t, fmt.Sprint("PulseError is less than a tick ", s, k), "true true true", inTime, impl.ValidFraction(late), ok)
		}
	}
	expect(t, "in time", "{0 1} true", call(impl.PulseError(2, 6, 4)))
	expect(t, "the ratio 1", "{0 1} true", call(impl.PulseError(1000, 1000, impl.MaxPulse)))
	expect(t, "the greatest one", "{998 999} true", call(impl.PulseError(999, 1000, 0)))
}

func TestGapRange(t *testing.T) {
	for _, s := range append(smallSettings(24), largeSettings()...) {
		pulses := pulsesOf(s, 3*s.modulus+1)
		least, most := int64(math.MaxInt64), int64(0)
		for i := 1; i < len(pulses); i++ {
			least, most = min(least, pulses[i]-pulses[i-1]), max(most, pulses[i]-pulses[i-1])
		}
		first, second, ok := impl.GapRange(s.step, s.modulus)
		expect(t, fmt.Sprint("GapRange ", s), fmt.Sprint(least, most, true), first, second, ok)
		expect(t, "at most 1", "true", second-first <= 1)
	}
}

func TestAccumulatorsRequire(t *testing.T) {
	for _, s := range noSettings() {
		what := fmt.Sprint(s)
		expect(t, "AccumulateWave "+what, " false", call(impl.AccumulateWave(s.step, s.modulus, s.phase, 10)))
		expect(t, "AccumulateWave without ticks "+what, " false", call(impl.AccumulateWave(s.step, s.modulus, s.phase, 0)))
		expect(t, "PulseTick "+what, "0 false", call(impl.PulseTick(s.step, s.modulus, s.phase, 0)))
		// The phase of these two is 0.
		if s.phase == 0 {
			least, most, ok := impl.GapRange(s.step, s.modulus)
			expect(t, "GapRange "+what, "0 0 false", least, most, ok)
			expect(t, "PulseError "+what, "{0 0} false", call(impl.PulseError(s.step, s.modulus, 0)))
		}
	}
	for _, ticks := range []int64{math.MinInt64, -1, impl.MaxTicks + 1, math.MaxInt64} {
		expect(t, fmt.Sprint("AccumulateWave for ticks ", ticks), " false", call(impl.AccumulateWave(2, 5, 0, ticks)))
	}
	for _, k := range []int64{math.MinInt64, -1, impl.MaxPulse + 1, math.MaxInt64} {
		expect(t, fmt.Sprint("PulseTick ", k), "0 false", call(impl.PulseTick(2, 5, 0, k)))
		expect(t, fmt.Sprint("PulseError ", k), "{0 0} false", call(impl.PulseError(2, 5, k)))
	}
}

func TestAccumulatorExample(t *testing.T) {
	expect(t, "AccumulateWave", "0010100101 true", call(impl.AccumulateWave(2, 5, 0, 10)))
	for k, tick := range []int64{2, 4, 7, 9} {
		expect(t, "PulseTick", fmt.Sprint(tick, true), call(impl.PulseTick(2, 5, 0, int64(k))))
	}
}
