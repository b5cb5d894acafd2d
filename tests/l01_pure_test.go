package tests

import (
	"math"
	"reflect"
	"strings"
	"testing"

	"loop.example/g01153/impl"
)

// listOf returns a list with as many equal items.
func listOf[T any](item T, length int) []T {
	list := make([]T, length)
	for i := range list {
		list[i] = item
	}
	return list
}

// anyOf returns the items as values of any type.
func anyOf[T any](items ...T) []any {
	list := make([]any, len(items))
	for i, item := range items {
		list[i] = item
	}
	return list
}

// basicPool has arguments for the functions of chapter 1, valid ones, limits, and others.
func basicPool() map[reflect.Type][]any {
	numbers := anyOf[int64](math.MinInt64, -impl.MaxPart-1, -impl.MaxPart, -impl.MaxValue-1, -impl.MaxValue, -1, 0, 1, 2, 3, 7, 12,
		impl.MaxTicks, impl.MaxTicks+1, impl.CheckSize-1, impl.CheckSize, impl.MaxValue, impl.MaxValue+1, impl.MaxPart, impl.MaxPart+1, math.MaxInt64)
	texts := append(longWaves(), noWaves()...)
	texts = append(texts, "", "0", "1", "0110100", "1001011", "0x1 1x2", "0x1 0x2", "0x400", "0x401", "-0", "007", "-5", "12", "1/2", "2/4", "3/1",
		"1,2", ",", "1,,2", "a", "clock", "clockclock", "clockclocks", "9223372036854775808", strings.Repeat("1,", 500), strings.Repeat("0x1 1x1 ", 100))
	sets := [][]int64{nil, {}, {0}, {1, 4}, {3, 5}, {5, 3}, {2, 2}, {-1}, {399}, {400}, {math.MinInt64, math.MaxInt64}, listOf[int64](5, impl.MaxItems), listOf[int64](5, impl.MaxItems+1)}
	for i := range sets {
		sets[i] = withSpare(sets[i], 77)
	}
	fractions := []impl.Fraction{{}, ratio(0, 1), ratio(0, 2), ratio(1, 2), ratio(-1, 3), ratio(2, 4),
		ratio(1, -2), ratio(1, 0), ratio(impl.MaxPart, 1), ratio(1, impl.MaxPart), ratio(-impl.MaxPart, impl.MaxPart-1),
		ratio(impl.MaxPart+1, 1), ratio(1, impl.MaxPart+1), ratio(math.MinInt64, 1), ratio(1, math.MinInt64), ratio(math.MinInt64, math.MinInt64), ratio(math.MaxInt64, math.MaxInt64)}
	lists := [][]impl.Fraction{nil, {}, fractions, fractions[1:2], fractions[3:5], {ratio(impl.MaxPart, 1), ratio(1, 1)}, listOf(ratio(1, 2), impl.MaxItems), listOf(ratio(1, 2), impl.MaxItems+1)}
	for i := range lists {
		lists[i] = withSpare(lists[i], ratio(7, 7))
	}
	return map[reflect.Type][]any{
		reflect.TypeFor[int64]():           numbers,
		reflect.TypeFor[string]():          anyOf(texts...),
		reflect.TypeFor[[]int64]():         anyOf(sets...),
		reflect.TypeFor[impl.Fraction]():   anyOf(fractions...),
		reflect.TypeFor[[]impl.Fraction](): anyOf(lists...),
	}
}

func TestBasicsArePure(t *testing.T) {
	functions := map[string]any{
		"IsName": impl.IsName, "Decimal": func(n int64) (string, bool) { return impl.Decimal(n), true }, "ReadDecimal": impl.ReadDecimal,
		"IsWave": impl.IsWave, "UpsOf": impl.UpsOf, "DownsOf": impl.DownsOf, "PulsesOf": impl.PulsesOf, "GapsOf": impl.GapsOf, "DutyOf": impl.DutyOf,
		"WavePeriod": impl.WavePeriod, "DelayWave": impl.DelayWave, "RepeatWave": impl.RepeatWave, "JoinWaves": impl.JoinWaves, "NotWave": impl.NotWave,
		"WaveFrom": impl.WaveFrom, "RunsOf": impl.RunsOf, "ReadRuns": impl.ReadRuns, "GcdOf": impl.GcdOf, "LcmOf": impl.LcmOf,
		"ValidFraction": impl.ValidFraction, "MakeFraction": impl.MakeFraction, "AddFractions": impl.AddFractions, "SubFractions": impl.SubFractions,
		"MulFractions": impl.MulFractions, "DivFractions": impl.DivFractions, "CompareFractions": impl.CompareFractions, "SumFractions": impl.SumFractions,
		"FractionText": impl.FractionText, "ReadFraction": impl.ReadFraction, "ListText": impl.ListText, "ReadList": impl.ReadList, "CheckOf": impl.CheckOf,
	}
	pool := basicPool()
	for name, f := range functions {
		checkPure(t, name, f, pool)
	}
}
