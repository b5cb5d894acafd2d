package tests

import (
	"fmt"
	"math"
	"reflect"
	"runtime"
	"sync"
	"testing"

	"loop.example/g01153/impl"
)

// phasePool has arguments for the functions of chapter 10, valid ones, limits, and others.
func phasePool() map[reflect.Type][]any {
	clocks := append(noClocks(), clock(1, 0), clock(4, 1), clock(6, 2), clock(impl.MaxCycle, 0), clock(impl.MaxCycle, impl.MaxCycle), clock(99991, 99990))
	lists := append(moreClocks(), nil, []impl.Clock{}, withSpare([]impl.Clock{clock(4, 1), clock(6, 3)}, clock(5, 5)), withSpare(nil, clock(5, 5)), noClocks(), listOf(clock(4, 1), impl.MaxClocks+1), listOf(impl.Clock{}, 2))
	return map[reflect.Type][]any{
		reflect.TypeFor[int64]():        anyOf[int64](math.MinInt64, -1, 0, 1, 2, 5, 400, 401, impl.MaxCycle, impl.MaxCycle+1, impl.MaxMoment-1, impl.MaxMoment, impl.MaxMoment+1, math.MaxInt64),
		reflect.TypeFor[impl.Clock]():   anyOf(clocks...),
		reflect.TypeFor[[]impl.Clock](): anyOf(append(lists, largeLists()[:40]...)...),
	}
}

func TestPhasesArePure(t *testing.T) {
	functions := map[string]any{
		"EdgeAt": impl.EdgeAt, "NextEdge": impl.NextEdge, "CountEdgesIn": impl.CountEdgesIn, "CommonPeriod": impl.CommonPeriod, "FirstMeeting": impl.FirstMeeting,
		"LeastGap": impl.LeastGap, "LongestWait": impl.LongestWait, "NearEdges": impl.NearEdges, "CountsBetween": impl.CountsBetween, "EvenPhases": impl.EvenPhases, "WaveOf": impl.WaveOf,
	}
	pool := phasePool()
	for name, f := range functions {
		checkPure(t, name, f, pool)
	}
	pool[reflect.TypeFor[int64]()] = anyOf[int64](math.MinInt64, -1, 0, 1, 6, impl.MaxCycle, impl.MaxCycle+1, math.MaxInt64)
	checkPure(t, "OverlapOf", impl.OverlapOf, pool)
}

// phaseResults writes results of functions of chapter 10 for arguments that depend on a number.
func phaseResults(n int64) string {
	a, b := clock(n%7+1, n%5), clock(n%11+1, n%3)
	counts, _ := impl.CountsBetween(a, b, n%13, n%50)
	overlap, _ := impl.OverlapOf(n+20, n, n+5, (n+9)%20, n+7)
	wave, _ := impl.WaveOf(a, a.Period/2, n%60)
	meeting, _ := impl.FirstMeeting([]impl.Clock{a, b})
	return fmt.Sprint(counts, overlap, wave, meeting, nearEdges(a, b, n%4, n%6))
}

func TestPhasesAtTheSameTime(t *testing.T) {
	const calls = 200
	var got [8][calls]string
	var workers sync.WaitGroup
	for worker := range got {
		workers.Add(1)
		go func() {
			defer workers.Done()
			for n := range got[worker] {
				got[worker][n] = phaseResults(int64(n))
			}
		}()
	}
	workers.Wait()
	for n := range calls {
		want := phaseResults(int64(n))
		for worker := range got {
			expect(t, fmt.Sprint("the results for ", n), want, got[worker][n])
		}
	}
}

func TestNothingIsLeftRunning(t *testing.T) {
	before := runtime.NumGoroutine()
	for n := range int64(300) {
		phaseResults(n)
		impl.CountsBetween(clock(1, 0), clock(1, 0), impl.MaxMoment, n)
		impl.CountsBetween(clock(1, 0), impl.Clock{}, 0, n)
		impl.OverlapOf(n, 0, 0, 0, n+1)
		impl.WaveOf(clock(4, 0), n, 5)
	}
	// One that has closed its channel may need a moment to end.
	for range 1000000 {
		if runtime.NumGoroutine() <= before {
			return
		}
		runtime.Gosched()
	}
	t.Errorf("%d goroutines are left", runtime.NumGoroutine()-before)
}
