package tests

import (
	"math"
	"reflect"
	"testing"

	"loop.example/g01153/impl"
)

// counterPool has arguments for the functions of chapter 2, valid ones, limits, and others.
func counterPool() map[reflect.Type][]any {
	numbers := anyOf[int64](math.MinInt64, -1, 0, 1, 2, 3, 7, impl.MaxBits, impl.MaxBits+1, 255, 256, impl.MaxTicks, impl.MaxTicks+1, 1000000000, 1000000001, math.MaxInt64)
	counters := []impl.Counter{{}, counterWith(1, 0, 1), counterWith(1, 0, 2), counterWith(1, 0), counterWith(2, 3, 0, 3, 1), counterWith(2, 0, 1, 2, 3), counterWith(3, 1, 1, 3, 2, 5, 6, 7, 4),
		counterWith(64), counterWith(-1, 0), counterWith(math.MinInt64, 0, 1), counterWith(math.MaxInt64, 0, 1)}
	counters = append(counters, counterBy(8, func(state int64) int64 { return state * 3 % 256 }), counterBy(9, func(state int64) int64 { return state }))
	for i, c := range counters {
		counters[i].Next = withSpare(c.Next, 77)
	}
	return map[reflect.Type][]any{
		reflect.TypeFor[int64]():        numbers,
		reflect.TypeFor[impl.Counter](): anyOf(counters...),
	}
}

func TestCountersArePure(t *testing.T) {
	functions := map[string]any{
		"ValidCounter": impl.ValidCounter, "BinaryCounter": impl.BinaryCounter, "ReflectedCounter": impl.ReflectedCounter, "RingCounter": impl.RingCounter,
		"TwistedCounter": impl.TwistedCounter, "TapCounter": impl.TapCounter, "ReflectedOf": impl.ReflectedOf, "FromReflected": impl.FromReflected,
		"StateAfter": impl.StateAfter, "RingsOf": impl.RingsOf, "TailOf": impl.TailOf, "IsSelfStarting": impl.IsSelfStarting, "MostChanged": impl.MostChanged,
		"RippleStates": impl.RippleStates, "SpikesOf": impl.SpikesOf, "MendCounter": impl.MendCounter, "OutputOf": impl.OutputOf,
	}
	pool := counterPool()
	for name, f := range functions {
		checkPure(t, name, f, pool)
	}
}
