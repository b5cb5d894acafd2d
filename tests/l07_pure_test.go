package tests

import (
	"math"
	"reflect"
	"strings"
	"testing"

	"loop.example/g01153/impl"
)

// switchPool has arguments for the functions of chapter 7, valid ones, limits, and others.
func switchPool() map[reflect.Type][]any {
	numbers := anyOf[int64](math.MinInt64, -1, 0, 1, 2, impl.MaxInputs, impl.MaxInputs+1, impl.MaxTicks, impl.MaxTicks+1, math.MaxInt64)
	waves := anyOf("", "0", "1", "1100110011", "1010101010", "0001111111", "0000000000", "01a", "\xff\xfe0", "é0", longWaves()[0], longWaves()[2], longWaves()[4], strings.Repeat("1", impl.MaxTicks+1))
	return map[reflect.Type][]any{
		reflect.TypeFor[int64]():       numbers,
		reflect.TypeFor[string]():      waves,
		reflect.TypeFor[impl.Switch](): anyOf(append(noSwitches(), switchOf(0, 0), switchOf(0, 1), switchOf(1, 0), switchOf(impl.MaxSettle, 1))...),
	}
}

func TestSwitchesArePure(t *testing.T) {
	functions := map[string]any{
		"ValidSwitch": impl.ValidSwitch, "PlainSwitch": impl.PlainSwitch, "SafeSwitch": impl.SafeSwitch, "EnablesOf": impl.EnablesOf, "ShortPulses": impl.ShortPulses, "IsClean": impl.IsClean,
		"SwitchTimes": impl.SwitchTimes, "GateWave": impl.GateWave, "PlainGate": impl.PlainGate, "ResetWave": impl.ResetWave,
	}
	pool := switchPool()
	for name, f := range functions {
		checkPure(t, name, f, pool)
	}
}
