package tests

import (
	"fmt"
	"math"
	"slices"
	"testing"

	"loop.example/g01153/impl"
)

func TestStateAfter(t *testing.T) {
	for _, c := range someCounters() {
		what := fmt.Sprint("StateAfter ", c)
		for _, steps := range []int64{0, 1, 2, 3, 5, 255, 256, 257, 999999937, 999999999, 1000000000} {
			for state, far := range farOf(c, steps) {
				expect(t, what, fmt.Sprint(far, true), call(impl.StateAfter(c, int64(state), steps)))
			}
		}
	}
}

func TestStateAfterEachStep(t *testing.T) {
	c := counterBy(4, func(state int64) int64 { return (state + 1) % 16 })
	c.Next[15] = 9
	for steps, want := range orbitOf(c, 0, 40) {
		expect(t, fmt.Sprint("StateAfter ", steps), fmt.Sprint(want, true), call(impl.StateAfter(c, 0, int64(steps))))
	}
	for _, steps := range []int64{math.MinInt64, -1, 1000000001, math.MaxInt64} {
		expect(t, fmt.Sprint("StateAfter ", steps), "0 false", call(impl.StateAfter(c, 0, steps)))
	}
}

func TestRingsOf(t *testing.T) {
	for _, c := range someCounters() {
		expect(t, fmt.Sprint("RingsOf ", c), fmt.Sprint(ringsOf(c), true), call(impl.RingsOf(c)))
	}
	expect(t, "behind a tail, from the least state", "[[1] [2 5 3]] true", call(impl.RingsOf(counterWith(3, 5, 1, 5, 2, 0, 3, 4, 6))))
	expect(t, "no ring of its own", "[[3]] true", call(impl.RingsOf(counterWith(2, 1, 2, 3, 3))))
	expect(t, "each state for itself", "[[0] [1] [2] [3]] true", call(impl.RingsOf(counterWith(2, 0, 1, 2, 3))))
	rings, ok := impl.RingsOf(counterBy(8, func(state int64) int64 { return state }))
	expect(t, "as many rings as there can be", "256 [255] true", len(rings), rings[255], ok)
}

func TestRingsShareNoMemory(t *testing.T) {
	for _, c := range someCounters() {
		rings, _ := impl.RingsOf(c)
		checkSeparate(t, fmt.Sprint("RingsOf ", c), rings, ringsOf(c))
	}
}

func TestTailOf(t *testing.T) {
	for _, c := range someCounters() {
		for state := range int64(len(c.Next)) {
			expect(t, fmt.Sprint("TailOf ", c, state), fmt.Sprint(tailOf(c, state), true), call(impl.TailOf(c, state)))
		}
	}
	down := counterBy(8, func(state int64) int64 { return max(state-1, 0) })
	expect(t, "longest tail", "255 true", call(impl.TailOf(down, 255)))
}

func TestIsSelfStarting(t *testing.T) {
	for _, c := range someCounters() {
		rings := ringsOf(c)
		for state := range int64(len(c.Next)) {
			want := len(rings) == 1 && slices.Contains(rings[0], state)
			// The definition itself takes long for many states.
			if len(c.Next) <= 16 {
				want = isReached(c, state)
			}
			expect(t, fmt.Sprint("IsSelfStarting ", c, state), fmt.Sprint(want), impl.IsSelfStarting(c, state))
		}
	}
	expect(t, "a ring of its own", "false", impl.IsSelfStarting(counterWith(2, 1, 0, 3, 2), 0))
	expect(t, "the only ring", "true", impl.IsSelfStarting(counterWith(2, 1, 0, 0, 2), 1))
	expect(t, "in no ring", "false", impl.IsSelfStarting(counterWith(2, 1, 0, 0, 2), 2))
}

// mostChangedOf returns by the texts of the states how many bits change at most behind all tails.
func mostChangedOf(c impl.Counter, state int64) int {
	most := 0
	orbit := orbitOf(c, state, 2*len(c.Next))[len(c.Next):]
	for i := 1; i < len(orbit); i++ {
		now, next := bitsText(c.Bits, orbit[i-1]), bitsText(c.Bits, orbit[i])
		changed := 0
		for place := range now {
			if now[place] != next[place] {
				changed++
			}
		}
		most = max(most, changed)
	}
	return most
}

func TestMostChanged(t *testing.T) {
	for _, c := range someCounters() {
		for state := range int64(len(c.Next)) {
			expect(t, fmt.Sprint("MostChanged ", c, state), fmt.Sprint(mostChangedOf(c, state), true), call(impl.MostChanged(c, state)))
		}
	}
	expect(t, "all bits", "8 true", call(impl.MostChanged(counterBy(8, func(state int64) int64 { return 255 - state }), 0)))
	expect(t, "not on the way to the ring", "1 true", call(impl.MostChanged(counterWith(2, 3, 3, 3, 2), 0)))
	expect(t, "on the way back to the first state", "2 true", call(impl.MostChanged(counterWith(2, 1, 3, 2, 0), 0)))
}

// mendedOf returns what MendCounter should return.
func mendedOf(c impl.Counter, state int64) string {
	if !isInRing(c, state) {
		return "{0 []} false"
	}
	next := slices.Clone(c.Next)
	for _, ring := range ringsOf(c) {
		if !slices.Contains(ring, state) {
			next[ring[0]] = state
		}
	}
	return fmt.Sprint(counterWith(c.Bits, next...), true)
}

func TestMendCounter(t *testing.T) {
	for _, c := range someCounters() {
		for state := range int64(len(c.Next)) {
			expect(t, fmt.Sprint("MendCounter ", c, state), mendedOf(c, state), call(impl.MendCounter(c, state)))
			if mended, ok := impl.MendCounter(c, state); ok && !impl.IsSelfStarting(mended, state) {
				t.Errorf("MendCounter %v %d: %v is not self-starting", c, state, mended)
			}
		}
	}
	expect(t, "in no ring", "{0 []} false", call(impl.MendCounter(counterWith(2, 1, 2, 0, 0), 3)))
	expect(t, "nothing to mend", "{2 [1 2 0 0]} true", call(impl.MendCounter(counterWith(2, 1, 2, 0, 0), 2)))
	expect(t, "to the state, not to the least one of its ring", "{2 [1 0 1 1]} true", call(impl.MendCounter(counterWith(2, 1, 0, 2, 3), 1)))
	expect(t, "from the least state of a ring, not from its tail", "{2 [2 3 1 3]} true", call(impl.MendCounter(counterWith(2, 2, 2, 1, 3), 3)))
}

func TestNoMendingChangesLess(t *testing.T) {
	all := append(allCounters(1), allCounters(2)...)
	for _, c := range all {
		for state := range int64(len(c.Next)) {
			mended, ok := impl.MendCounter(c, state)
			if !ok {
				continue
			}
			for _, other := range all {
				if other.Bits == c.Bits && isReached(other, state) && changesOf(c, other) < changesOf(c, mended) {
					t.Errorf("MendCounter %v %d: %v, but %v changes less", c, state, mended, other)
				}
			}
		}
	}
}

// changesOf returns how many states have other next ones in two counters.
func changesOf(c, d impl.Counter) int {
	changes := 0
	for state := range c.Next {
		if c.Next[state] != d.Next[state] {
			changes++
		}
	}
	return changes
}

func TestOutputOf(t *testing.T) {
	for _, c := range someCounters() {
		for bit := range c.Bits {
			for _, ticks := range []int{0, 1, 2, 9, impl.MaxTicks} {
				for _, from := range []int64{0, 1, int64(len(c.Next)) - 1} {
					want := ""
					for _, state := range orbitOf(c, from, ticks)[:ticks] {
						text := bitsText(c.Bits, state)
						want += text[len(text)-1-int(bit):][:1]
					}
					expect(t, fmt.Sprint("OutputOf ", c, from, bit, ticks), want+" true", call(impl.OutputOf(c, from, bit, int64(ticks))))
				}
			}
		}
	}
}

func TestOutputOfRequires(t *testing.T) {
	for bits := int64(1); bits <= impl.MaxBits; bits++ {
		c := counterBy(bits, func(state int64) int64 { return state })
		for _, bit := range []int64{math.MinInt64, -1, bits, bits + 1, 64, math.MaxInt64} {
			expect(t, fmt.Sprint("OutputOf the bit ", bit), " false", call(impl.OutputOf(c, 0, bit, 1)))
		}
		for _, ticks := range []int64{math.MinInt64, -1, impl.MaxTicks + 1, math.MaxInt64} {
			expect(t, fmt.Sprint("OutputOf for ticks ", ticks), " false", call(impl.OutputOf(c, 0, 0, ticks)))
		}
		expect(t, "no ticks from no state", " false", call(impl.OutputOf(c, -1, 0, 0)))
		expect(t, "no ticks of no bit", " false", call(impl.OutputOf(c, 0, bits, 0)))
	}
}
