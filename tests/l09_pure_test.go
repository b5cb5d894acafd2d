package tests

import (
	"math"
	"reflect"
	"testing"

	"loop.example/g01153/impl"
)

// filterPool has arguments for the functions of chapter 9, valid ones, limits, and others.
func filterPool() map[reflect.Type][]any {
	numbers := anyOf[int64](math.MinInt64, math.MinInt64+1, -1, 0, 1, 2, 3, 5, impl.MaxFilter-1, impl.MaxFilter, impl.MaxFilter+1, impl.MaxTicks-1, impl.MaxTicks, impl.MaxTicks+1, math.MaxInt64-1, math.MaxInt64)
	waves := append(longWaves(), noWaves()...)
	waves = append(waves, "", "0", "1", "0000", "1111", "0101110010", "1001000101")
	fractions := append(noFractions(), ratio(0, 1), ratio(1, 2), ratio(1, 1), ratio(5, 2), ratio(-5, 2), ratio(1000000, 1), ratio(1000001, 1), ratio(1000000, 999999), ratio(999999, 1000000), ratio(1, 1000001), ratio(impl.MaxPart, 1), ratio(impl.MaxPart, impl.MaxPart-1), ratio(1, impl.MaxPart))
	return map[reflect.Type][]any{
		reflect.TypeFor[int64]():         numbers,
		reflect.TypeFor[string]():        anyOf(waves...),
		reflect.TypeFor[impl.Fraction](): anyOf(fractions...),
	}
}

func TestFiltersArePure(t *testing.T) {
	functions := map[string]any{
		"Debounce": impl.Debounce, "StretchPulses": impl.StretchPulses, "OneShot": impl.OneShot, "DropPulses": impl.DropPulses, "FillGaps": impl.FillGaps, "MajorityWave": impl.MajorityWave,
		"CountWindows": impl.CountWindows, "WindowRange": impl.WindowRange, "Timeouts": impl.Timeouts, "CountBounds": impl.CountBounds, "SpanBounds": impl.SpanBounds, "SampleUps": impl.SampleUps,
	}
	pool := filterPool()
	for name, f := range functions {
		checkPure(t, name, f, pool)
	}
}
