package tests

import (
	"math"
	"reflect"
	"testing"

	"loop.example/g01153/impl"
)

// crossingPool has arguments for the functions of chapter 5, valid ones, limits, and others.
func crossingPool() map[reflect.Type][]any {
	numbers := anyOf[int64](math.MinInt64, -1, 0, 1, 2, 3, impl.MaxRatio, impl.MaxRatio+1, 16, 17, impl.MaxOrder, math.MaxInt64)
	orders := append(append(noOrders(), longOrders()...), "", "s", "r", "sr", "rs", "srr", "srsrrr", "sssrrr", "ssr", "ssssrrrr", "sssss")
	chances := append(noFractions(), ratio(0, 1), ratio(1, 1), ratio(1, 2), ratio(-1, 2), ratio(3, 2), ratio(1, 13), ratio(1, impl.MaxPart), ratio(impl.MaxPart, 1))
	return map[reflect.Type][]any{
		reflect.TypeFor[int64]():         numbers,
		reflect.TypeFor[string]():        anyOf(orders...),
		reflect.TypeFor[impl.Fraction](): anyOf(chances...),
		reflect.TypeFor[impl.Link]():     anyOf(append(noLinks(), allLinks()...)...),
		reflect.TypeFor[impl.Queue]():    anyOf(append(noQueues(), allQueues()...)...),
	}
}

func TestCrossingsArePure(t *testing.T) {
	functions := map[string]any{
		"ValidLink": impl.ValidLink, "IsOrder": impl.IsOrder, "RunLink": impl.RunLink, "IsSafeLink": impl.IsSafeLink, "FirstFault": impl.FirstFault, "FewestSteps": impl.FewestSteps, "MostSteps": impl.MostSteps,
		"ValidQueue": impl.ValidQueue, "RunQueue": impl.RunQueue, "IsSafeQueue": impl.IsSafeQueue, "QueueFault": impl.QueueFault, "FailChance": impl.FailChance,
	}
	pool := crossingPool()
	for name, f := range functions {
		checkPure(t, name, f, pool)
	}
}
