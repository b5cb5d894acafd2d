package tests

import (
	"math"
	"reflect"
	"testing"

	"loop.example/g01153/impl"
)

// dividerPool has arguments for the functions of chapter 3, valid ones, limits, and others.
func dividerPool() map[reflect.Type][]any {
	numbers := anyOf[int64](math.MinInt64, -1, 0, 1, 2, 5, impl.MaxBy, impl.MaxBy+1, impl.MaxTicks, impl.MaxTicks+1,
		impl.MaxModulus, impl.MaxModulus+1, impl.MaxDenominator, impl.MaxDenominator+1, impl.MaxPulse, impl.MaxPulse+1, math.MaxInt64)
	texts := append(longWaves(), noWaves()...)
	texts = append(texts, "", "0", "1", "1001", "0101010101", "0110100", evenOf(impl.MaxSlots, 37), evenOf(impl.MaxSlots+1, 37))
	dividers := append(noDividers(), divider(1, 0), divider(1, 1), divider(3, 1), divider(impl.MaxBy, impl.MaxBy))
	lists := [][]impl.Divider{nil, {}, dividers, {divider(2, 1), divider(3, 1)}, {divider(2, 1), divider(0, 0)}, listOf(divider(1, 1), 8), listOf(divider(1, 1), 9)}
	for i := range lists {
		lists[i] = withSpare(lists[i], divider(77, 77))
	}
	return map[reflect.Type][]any{
		reflect.TypeFor[int64]():          numbers,
		reflect.TypeFor[string]():         anyOf(texts...),
		reflect.TypeFor[impl.Divider]():   anyOf(dividers...),
		reflect.TypeFor[[]impl.Divider](): anyOf(lists...),
		reflect.TypeFor[impl.Fraction]():  anyOf(append(noGoals(), largeGoals()...)...),
	}
}

func TestDividersArePure(t *testing.T) {
	functions := map[string]any{
		"ValidDivider": impl.ValidDivider, "DivideWave": impl.DivideWave, "ToggleWave": impl.ToggleWave, "DivideChain": impl.DivideChain, "ChainFor": impl.ChainFor,
		"AccumulateWave": impl.AccumulateWave, "PulseTick": impl.PulseTick, "PulseError": impl.PulseError, "GapRange": impl.GapRange,
		"EvenPattern": impl.EvenPattern, "IsEvenPattern": impl.IsEvenPattern, "MostUneven": impl.MostUneven, "BestRatio": impl.BestRatio, "RatioSteps": impl.RatioSteps,
	}
	pool := dividerPool()
	for name, f := range functions {
		checkPure(t, name, f, pool)
	}
}
