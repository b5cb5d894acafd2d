package tests

import (
	"fmt"
	"math"
	"strconv"
	"strings"
	"testing"

	"loop.example/g01153/impl"
)

// counterWith returns a counter with these states, valid or not.
func counterWith(bits int64, next ...int64) impl.Counter {
	return impl.Counter{Bits: bits, Next: next}
}

// counterBy returns the counter of some bits with the next states that a function tells.
func counterBy(bits int64, next func(state int64) int64) impl.Counter {
	c := impl.Counter{Bits: bits}
	for state := range int64(1) << bits {
		c.Next = append(c.Next, next(state))
	}
	return c
}

// allCounters yields each counter of some bits, 1 or 2.
func allCounters(bits int64) []impl.Counter {
	states := int64(1) << bits
	many := int64(math.Pow(float64(states), float64(states)))
	var list []impl.Counter
	for number := range many {
		list = append(list, counterBy(bits, func(state int64) int64 {
			return number >> (bits * state) % states
		}))
	}
	return list
}

// someCounters are all counters of 1 and 2 bits, and some of all other widths, with tails, branches, one ring and many.
func someCounters() []impl.Counter {
	list := append(allCounters(1), allCounters(2)...)
	for bits := int64(3); bits <= impl.MaxBits; bits++ {
		states := int64(1) << bits
		for _, rule := range [][3]int64{{1, 0, 1}, {1, 1, 3}, {1, 1, 0}, {3, 2, 7}, {0, 5, 2}, {0, 1, 1}, {0, 6, 1}, {0, 0, 5}, {0, 1, 0}, {2, 0, 0}} {
			list = append(list, counterBy(bits, func(state int64) int64 {
				return (rule[0]*state*state + rule[1]*state + rule[2]) % states
			}))
			list = append(list, counterBy(bits, func(state int64) int64 {
				return (rule[0]*state*state + rule[1]*state + rule[2]) % (states - 1)
			}))
		}
		list = append(list, counterBy(bits, func(state int64) int64 { return max(state-1, 0) }))
		list = append(list, counterBy(bits, func(state int64) int64 { return states - 1 - state }))
	}
	return list
}

// noCounters are counters that are not valid.
func noCounters() []impl.Counter {
	full := make([]int64, 256)
	wide := append([]int64{}, full...)
	wide[255] = 256
	return []impl.Counter{{}, counterWith(0, 0), counterWith(1), counterWith(1, 0), counterWith(1, 0, 1, 0), counterWith(1, 0, 2), counterWith(1, -1, 0),
		counterWith(2, 0, 1, 2), counterWith(2, 0, 1, 2, 3, 0), counterWith(2, 4, 0, 0, 0), counterWith(2, 0, 0, 0, -1), counterWith(2, 0, math.MinInt64, 0, 0), counterWith(2, 0, 0, math.MaxInt64, 0),
		counterWith(-1, 0), counterWith(-1), counterWith(8, full[1:]...), counterWith(8, wide...), counterWith(9, make([]int64, 512)...), counterWith(7, full...),
		counterWith(64, 0), counterWith(64), counterWith(65), counterWith(math.MaxInt64), counterWith(math.MinInt64), counterWith(math.MinInt64, 0)}
}

// bitsText returns the bits of a state, the greatest one first.
func bitsText(bits, state int64) string {
	return fmt.Sprintf("%0*b", int(bits), state)
}

// stateOf returns the state with these bits.
func stateOf(text string) int64 {
	state, err := strconv.ParseInt(text, 2, 64)
	if err != nil {
		panic(err)
	}
	return state
}

// orbitOf returns a state and the states behind it, after so many steps.
func orbitOf(c impl.Counter, state int64, steps int) []int64 {
	orbit := []int64{state}
	for range steps {
		state = c.Next[state]
		orbit = append(orbit, state)
	}
	return orbit
}

// isInRing reports whether a state comes again.
func isInRing(c impl.Counter, state int64) bool {
	for _, later := range orbitOf(c, state, len(c.Next))[1:] {
		if later == state {
			return true
		}
	}
	return false
}

// tailOf returns how many steps it takes to a state that comes again.
func tailOf(c impl.Counter, state int64) int64 {
	for steps, later := range orbitOf(c, state, len(c.Next)) {
		if isInRing(c, later) {
			return int64(steps)
		}
	}
	return -1
}

// ringsOf returns all rings, found from their least states.
func ringsOf(c impl.Counter) [][]int64 {
	rings := [][]int64{}
	for state := range int64(len(c.Next)) {
		ring := []int64{state}
		for next := c.Next[state]; next > state && len(ring) <= len(c.Next); next = c.Next[next] {
			ring = append(ring, next)
		}
		if c.Next[ring[len(ring)-1]] == state {
			rings = append(rings, ring)
		}
	}
	return rings
}

// isReached reports whether each state leads to goal, which comes again.
func isReached(c impl.Counter, goal int64) bool {
	for state := range int64(len(c.Next)) {
		found := false
		for _, later := range orbitOf(c, state, len(c.Next)) {
			found = found || later == goal
		}
		if !found {
			return false
		}
	}
	return isInRing(c, goal)
}

// farOf returns for each state the one behind some steps, by ever longer strides, each one twice as long as the one before it.
func farOf(c impl.Counter, steps int64) []int64 {
	far := counterBy(c.Bits, func(state int64) int64 { return state }).Next
	stride := c.Next
	for ; steps > 0; steps /= 2 {
		if steps%2 == 1 {
			far = chainOf(far, stride)
		}
		stride = chainOf(stride, stride)
	}
	return far
}

// chainOf returns for each state where two strides lead, one after the other.
func chainOf(first, second []int64) []int64 {
	var chain []int64
	for _, middle := range first {
		chain = append(chain, second[middle])
	}
	return chain
}

func TestValidCounter(t *testing.T) {
	for _, c := range someCounters() {
		expect(t, fmt.Sprint("ValidCounter ", c), "true", impl.ValidCounter(c))
	}
	for _, c := range noCounters() {
		expect(t, fmt.Sprint("ValidCounter ", c), "false", impl.ValidCounter(c))
	}
	expect(t, "last states", "true", impl.ValidCounter(counterBy(8, func(int64) int64 { return 255 })))
}

func TestFunctionsRequireCounters(t *testing.T) {
	for _, c := range noCounters() {
		what := fmt.Sprint(c)
		expect(t, "RingsOf "+what, "[] false", call(impl.RingsOf(c)))
		for _, state := range []int64{-1, 0, 1, 255} {
			expect(t, "StateAfter "+what, "0 false", call(impl.StateAfter(c, state, 0)))
			expect(t, "TailOf "+what, "0 false", call(impl.TailOf(c, state)))
			expect(t, "IsSelfStarting "+what, "false", impl.IsSelfStarting(c, state))
			expect(t, "MostChanged "+what, "0 false", call(impl.MostChanged(c, state)))
			expect(t, "MendCounter "+what, "{0 []} false", call(impl.MendCounter(c, state)))
			expect(t, "OutputOf "+what, " false", call(impl.OutputOf(c, state, 0, 1)))
		}
	}
}

func TestFunctionsRequireStates(t *testing.T) {
	for bits := int64(1); bits <= impl.MaxBits; bits++ {
		states := int64(1) << bits
		// All states are in rings, so that MendCounter fails only because of what is no state.
		c := counterBy(bits, func(state int64) int64 { return (state + 1) % states })
		for _, state := range []int64{math.MinInt64, -1, states, states + 1, math.MaxInt64} {
			what := fmt.Sprint(bits, state)
			expect(t, "StateAfter "+what, "0 false", call(impl.StateAfter(c, state, 1)))
			expect(t, "TailOf "+what, "0 false", call(impl.TailOf(c, state)))
			expect(t, "IsSelfStarting "+what, "false", impl.IsSelfStarting(c, state))
			expect(t, "MostChanged "+what, "0 false", call(impl.MostChanged(c, state)))
			expect(t, "MendCounter "+what, "{0 []} false", call(impl.MendCounter(c, state)))
			expect(t, "OutputOf "+what, " false", call(impl.OutputOf(c, state, 0, 1)))
			expect(t, "ReflectedOf "+what, "0 false", call(impl.ReflectedOf(bits, state)))
			expect(t, "FromReflected "+what, "0 false", call(impl.FromReflected(bits, state)))
			expect(t, "RippleStates "+what, "[] false", call(impl.RippleStates(bits, state)))
			expect(t, "SpikesOf "+what, "[] false", call(impl.SpikesOf(bits, state)))
			expect(t, "TapCounter "+what, "{0 []} false", call(impl.TapCounter(bits, state)))
		}
		expect(t, "TapCounter without taps", "{0 []} false", call(impl.TapCounter(bits, 0)))
	}
}

func TestFunctionsRequireBits(t *testing.T) {
	for _, bits := range []int64{math.MinInt64, -63, -1, 0, impl.MaxBits + 1, 62, 63, 64, 65, math.MaxInt64} {
		what := fmt.Sprint(bits)
		expect(t, "ReflectedCounter "+what, "{0 []} false", call(impl.ReflectedCounter(bits)))
		expect(t, "RingCounter "+what, "{0 []} false", call(impl.RingCounter(bits)))
		expect(t, "TwistedCounter "+what, "{0 []} false", call(impl.TwistedCounter(bits)))
		for _, n := range []int64{0, 1, 2} {
			expect(t, "BinaryCounter "+what, "{0 []} false", call(impl.BinaryCounter(bits, n)))
			expect(t, "TapCounter "+what, "{0 []} false", call(impl.TapCounter(bits, n)))
			expect(t, "ReflectedOf "+what, "0 false", call(impl.ReflectedOf(bits, n)))
			expect(t, "FromReflected "+what, "0 false", call(impl.FromReflected(bits, n)))
			expect(t, "RippleStates "+what, "[] false", call(impl.RippleStates(bits, n)))
			expect(t, "SpikesOf "+what, "[] false", call(impl.SpikesOf(bits, n)))
		}
	}
}

func TestBinaryCounter(t *testing.T) {
	for bits := int64(1); bits <= impl.MaxBits; bits++ {
		states := int64(1) << bits
		for modulus := int64(1); modulus <= states; modulus++ {
			want := counterBy(bits, func(int64) int64 { return 0 })
			for state := int64(1); state < modulus; state++ {
				want.Next[state-1] = state
			}
			what := fmt.Sprint("BinaryCounter ", bits, modulus)
			expect(t, what, fmt.Sprint(want, true), call(impl.BinaryCounter(bits, modulus)))
			c, _ := impl.BinaryCounter(bits, modulus)
			rings, _ := impl.RingsOf(c)
			expect(t, "period of "+what, fmt.Sprint(1, modulus), len(rings), len(rings[0]))
		}
		for _, modulus := range []int64{math.MinInt64, -1, 0, states + 1, math.MaxInt64} {
			expect(t, fmt.Sprint("BinaryCounter ", bits, modulus), "{0 []} false", call(impl.BinaryCounter(bits, modulus)))
		}
	}
}

// reflectedTexts returns the codes of so many bits in order: those of one bit less with 0 in front, and then backwards with 1 in front.
func reflectedTexts(bits int64) []string {
	if bits == 0 {
		return []string{""}
	}
	less := reflectedTexts(bits - 1)
	var texts []string
	for _, text := range less {
		texts = append(texts, "0"+text)
	}
	for i := range less {
		texts = append(texts, "1"+less[len(less)-1-i])
	}
	return texts
}

func TestReflectedCode(t *testing.T) {
	for bits := int64(1); bits <= impl.MaxBits; bits++ {
		texts := reflectedTexts(bits)
		want := counterBy(bits, func(int64) int64 { return 0 })
		for x, text := range texts {
			code := stateOf(text)
			want.Next[code] = stateOf(texts[(x+1)%len(texts)])
			expect(t, fmt.Sprint("ReflectedOf ", bits, x), fmt.Sprint(code, true), call(impl.ReflectedOf(bits, int64(x))))
			expect(t, fmt.Sprint("FromReflected ", bits, code), fmt.Sprint(x, true), call(impl.FromReflected(bits, code)))
		}
		expect(t, fmt.Sprint("ReflectedCounter ", bits), fmt.Sprint(want, true), call(impl.ReflectedCounter(bits)))
		expect(t, "one bit changes", "1 true", call(impl.MostChanged(want, 0)))
	}
}

func TestRingAndTwistedCounters(t *testing.T) {
	other := strings.NewReplacer("0", "1", "1", "0")
	for bits := int64(1); bits <= impl.MaxBits; bits++ {
		ring := counterBy(bits, func(state int64) int64 {
			text := bitsText(bits, state)
			return stateOf(text[1:] + text[:1])
		})
		twisted := counterBy(bits, func(state int64) int64 {
			text := bitsText(bits, state)
			return stateOf(text[1:] + other.Replace(text[:1]))
		})
		expect(t, fmt.Sprint("RingCounter ", bits), fmt.Sprint(ring, true), call(impl.RingCounter(bits)))
		expect(t, fmt.Sprint("TwistedCounter ", bits), fmt.Sprint(twisted, true), call(impl.TwistedCounter(bits)))
		rings, _ := impl.RingsOf(twisted)
		expect(t, "period of the ring of 0", fmt.Sprint(2*bits), len(rings[0]))
	}
}

func TestTapCounter(t *testing.T) {
	for bits := int64(1); bits <= impl.MaxBits; bits++ {
		longest := 0
		for taps := int64(1); taps < 1<<bits; taps++ {
			want := counterBy(bits, func(state int64) int64 {
				ones := strings.Count(bitsText(bits, state&taps), "1")
				return stateOf(bitsText(bits, state)[1:] + fmt.Sprint(ones%2))
			})
			expect(t, fmt.Sprint("TapCounter ", bits, taps), fmt.Sprint(want, true), call(impl.TapCounter(bits, taps)))
			rings, _ := impl.RingsOf(want)
			expect(t, "ring of 0", "[0]", rings[0])
			for _, ring := range rings {
				longest = max(longest, len(ring))
			}
		}
		expect(t, "longest period", fmt.Sprint(max(1, 1<<bits-1)), longest)
	}
}

func TestCountersOfOneBit(t *testing.T) {
	expect(t, "binary up to 1", "{1 [0 0]} true", call(impl.BinaryCounter(1, 1)))
	expect(t, "binary up to 2", "{1 [1 0]} true", call(impl.BinaryCounter(1, 2)))
	expect(t, "reflected", "{1 [1 0]} true", call(impl.ReflectedCounter(1)))
	expect(t, "ring", "{1 [0 1]} true", call(impl.RingCounter(1)))
	expect(t, "twisted", "{1 [1 0]} true", call(impl.TwistedCounter(1)))
	expect(t, "taps", "{1 [0 1]} true", call(impl.TapCounter(1, 1)))
	expect(t, "rings of the ring counter", "[[0] [1]] true", call(impl.RingsOf(counterWith(1, 0, 1))))
	expect(t, "mended ring counter", "{1 [1 1]} true", call(impl.MendCounter(counterWith(1, 0, 1), 1)))
	expect(t, "output of the twisted counter", "10101 true", call(impl.OutputOf(counterWith(1, 1, 0), 1, 0, 5)))
	expect(t, "tail", "1 true", call(impl.TailOf(counterWith(1, 1, 1), 0)))
	expect(t, "nothing changes", "0 true", call(impl.MostChanged(counterWith(1, 1, 1), 0)))
}

func TestCounterExamples(t *testing.T) {
	twisted, _ := impl.TwistedCounter(3)
	expect(t, "twisted", "[[0 1 3 7 6 4] [2 5]] true", call(impl.RingsOf(twisted)))
	tap, _ := impl.TapCounter(3, 6)
	rings, ok := impl.RingsOf(tap)
	expect(t, "taps", "2 [0] 7 true", len(rings), rings[0], len(rings[1]), ok)
	expect(t, "ripple", "[2 0 4] true", call(impl.RippleStates(3, 3)))
}
