package tests

import (
	"fmt"
	"math"
	"strings"
	"testing"

	"loop.example/g01153/impl"
)

// divider returns a divider with these fields, valid or not.
func divider(by, high int64) impl.Divider {
	return impl.Divider{By: by, High: high}
}

// someDividers are all dividers with a small By, and those at the limits.
func someDividers() []impl.Divider {
	var list []impl.Divider
	for by := int64(1); by <= 5; by++ {
		for high := range by + 1 {
			list = append(list, divider(by, high))
		}
	}
	return append(list, divider(impl.MaxBy, 0), divider(impl.MaxBy, 1), divider(impl.MaxBy, 31), divider(impl.MaxBy, impl.MaxBy-1), divider(impl.MaxBy, impl.MaxBy))
}

// noDividers are dividers that are not valid.
func noDividers() []impl.Divider {
	return []impl.Divider{{}, divider(0, 0), divider(0, 1), divider(-1, -1), divider(-1, 0), divider(1, -1), divider(1, 2), divider(3, 4), divider(3, -1),
		divider(impl.MaxBy, impl.MaxBy+1), divider(impl.MaxBy, -1), divider(impl.MaxBy+1, 0), divider(impl.MaxBy+1, impl.MaxBy+1),
		divider(math.MinInt64, math.MinInt64), divider(math.MinInt64, 0), divider(math.MaxInt64, 1), divider(2, math.MaxInt64), divider(2, math.MinInt64)}
}

// upsUntil returns how often a wave has gone up, and how often it has gone up or down, until a tick.
func upsUntil(w string, tick int) (ups, edges int) {
	levels := "0" + w[:tick+1]
	ups = strings.Count(levels, "01")
	return ups, ups + strings.Count(levels, "10")
}

// dividedOf returns what DivideWave should return, each tick for itself.
func dividedOf(d impl.Divider, w string) string {
	divided := ""
	for tick := range w {
		level := "0"
		if ups, _ := upsUntil(w, tick); ups > 0 && int64(ups-1)%d.By < d.High {
			level = "1"
		}
		divided += level
	}
	return divided
}

// toggledOf returns what ToggleWave should return, each tick for itself.
func toggledOf(every int64, w string) string {
	toggled := ""
	for tick := range w {
		_, edges := upsUntil(w, tick)
		changes := 0
		for number := range edges {
			if int64(number)%every == 0 {
				changes++
			}
		}
		toggled += fmt.Sprint(changes % 2)
	}
	return toggled
}

// dividedWaves are waves with few ticks and with as many as there can be.
func dividedWaves() []string {
	waves := append(longWaves(), strings.Repeat("0110", impl.MaxTicks/4), strings.Repeat("1101000", 57))
	for w := range allWaves(8) {
		waves = append(waves, w)
	}
	return waves
}

func TestDividerLimits(t *testing.T) {
	expect(t, "limits of chapter 3", "64 1000 100000 64 10000", impl.MaxBy, impl.MaxModulus, impl.MaxPulse, impl.MaxSlots, impl.MaxDenominator)
}

func TestValidDivider(t *testing.T) {
	for by := int64(-2); by <= impl.MaxBy+2; by++ {
		for high := int64(-2); high <= impl.MaxBy+2; high++ {
			want := by >= 1 && by <= 64 && high >= 0 && high <= by
			expect(t, fmt.Sprint("ValidDivider ", by, high), fmt.Sprint(want), impl.ValidDivider(divider(by, high)))
		}
	}
	for _, d := range noDividers() {
		expect(t, fmt.Sprint("ValidDivider ", d), "false", impl.ValidDivider(d))
	}
}

func TestDivideWave(t *testing.T) {
	for _, w := range dividedWaves() {
		for _, d := range someDividers() {
			expect(t, fmt.Sprint("DivideWave ", d, w), dividedOf(d, w)+" true", call(impl.DivideWave(d, w)))
		}
	}
	expect(t, "no ticks", " true", call(impl.DivideWave(divider(3, 1), "")))
	expect(t, "nothing before the first edge", "0001100 true", call(impl.DivideWave(divider(2, 1), "0001010")))
	expect(t, "the ratio 1, high", "0011111 true", call(impl.DivideWave(divider(1, 1), "0010110")))
	expect(t, "the ratio 1, low", "0000000 true", call(impl.DivideWave(divider(1, 0), "0010110")))
	expect(t, "up at the tick 0", "1100 true", call(impl.DivideWave(divider(2, 1), "1010")))
}

func TestDivideWaveByMost(t *testing.T) {
	w := strings.Repeat("01", impl.MaxTicks/2)
	want := "0" + strings.Repeat("11"+strings.Repeat("0", 126), 4)
	expect(t, "one of 64", want[:impl.MaxTicks]+" true", call(impl.DivideWave(divider(64, 1), w)))
	expect(t, "all of 64", "0"+strings.Repeat("1", impl.MaxTicks-1)+" true", call(impl.DivideWave(divider(64, 64), w)))
}

func TestDividersRequire(t *testing.T) {
	for _, d := range noDividers() {
		for _, w := range []string{"", "01", "0101010101"} {
			expect(t, fmt.Sprint("DivideWave ", d, w), " false", call(impl.DivideWave(d, w)))
			expect(t, fmt.Sprint("DivideChain ", d, w), " false", call(impl.DivideChain([]impl.Divider{d}, w)))
		}
	}
	for _, w := range noWaves() {
		expect(t, fmt.Sprintf("DivideWave %q", w), " false", call(impl.DivideWave(divider(3, 1), w)))
		expect(t, fmt.Sprintf("ToggleWave %q", w), " false", call(impl.ToggleWave(3, w)))
		expect(t, fmt.Sprintf("DivideChain %q", w), " false", call(impl.DivideChain([]impl.Divider{divider(3, 1)}, w)))
		expect(t, fmt.Sprintf("DivideChain of none %q", w), " false", call(impl.DivideChain(nil, w)))
	}
}

func TestToggleWave(t *testing.T) {
	for _, w := range dividedWaves() {
		for _, every := range []int64{1, 2, 3, 4, 5, 7, impl.MaxBy - 1, impl.MaxBy} {
			expect(t, fmt.Sprint("ToggleWave ", every, w), toggledOf(every, w)+" true", call(impl.ToggleWave(every, w)))
		}
		expect(t, "ToggleWave at each edge "+w, w+" true", call(impl.ToggleWave(1, w)))
	}
	for _, every := range []int64{math.MinInt64, -1, 0, impl.MaxBy + 1, math.MaxInt64} {
		expect(t, fmt.Sprint("ToggleWave ", every), " false", call(impl.ToggleWave(every, "0101")))
		expect(t, fmt.Sprint("ToggleWave without ticks ", every), " false", call(impl.ToggleWave(every, "")))
	}
	expect(t, "every second edge", "0110011001 true", call(impl.ToggleWave(2, "0101010101")))
}

// chainedOf returns what DivideChain should return.
func chainedOf(list []impl.Divider, w string) string {
	for _, d := range list {
		w = dividedOf(d, w)
	}
	return w
}

func TestDivideChain(t *testing.T) {
	lists := [][]impl.Divider{nil, {}, {divider(2, 1)}, {divider(2, 1), divider(3, 1)}, {divider(3, 1), divider(2, 1)}, {divider(1, 0), divider(2, 1)}, {divider(1, 1), divider(2, 1)},
		{divider(5, 2), divider(1, 1), divider(4, 3)}, listOf(divider(2, 1), 7), listOf(divider(2, 1), 8), listOf(divider(1, 1), 8), listOf(divider(3, 2), 8)}
	for _, w := range dividedWaves() {
		for _, list := range lists {
			expect(t, fmt.Sprint("DivideChain ", list, w), chainedOf(list, w)+" true", call(impl.DivideChain(list, w)))
		}
	}
	expect(t, "in order", "0111111000 true", call(impl.DivideChain([]impl.Divider{divider(3, 2), divider(2, 1)}, "0101010101")))
	expect(t, "in the other order", "0111111110 true", call(impl.DivideChain([]impl.Divider{divider(2, 1), divider(3, 2)}, "0101010101")))
}

func TestDivideChainRequires(t *testing.T) {
	w := "0101010101"
	for _, length := range []int{9, 10, 64, 1000} {
		expect(t, fmt.Sprint("DivideChain of ", length), " false", call(impl.DivideChain(listOf(divider(1, 1), length), w)))
	}
	for place := range 8 {
		for _, d := range noDividers() {
			list := listOf(divider(2, 1), 8)
			list[place] = d
			expect(t, fmt.Sprint("DivideChain ", list), " false", call(impl.DivideChain(list, w)))
			expect(t, fmt.Sprint("DivideChain without ticks ", list), " false", call(impl.DivideChain(list, "")))
		}
	}
}

func TestDividerExamples(t *testing.T) {
	w := "0101010101"
	expect(t, "DivideWave", "0110000110 true", call(impl.DivideWave(divider(3, 1), w)))
	expect(t, "ToggleWave", "0111000111 true", call(impl.ToggleWave(3, w)))
	expect(t, "DivideChain", "0111100001 true", call(impl.DivideChain([]impl.Divider{divider(2, 1), divider(2, 1)}, w)))
}
