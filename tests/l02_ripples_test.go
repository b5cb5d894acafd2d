package tests

import (
	"fmt"
	"strings"
	"testing"

	"loop.example/g01153/impl"
)

// rippleOf returns by the texts of the states through which of them a ripple goes.
func rippleOf(bits, from int64) []int64 {
	text := []byte(bitsText(bits, from))
	var states []int64
	for place := len(text) - 1; place >= 0; place-- {
		carry := text[place] == '1'
		text[place] = '1'
		if carry {
			text[place] = '0'
		}
		if states = append(states, stateOf(string(text))); !carry {
			break
		}
	}
	return states
}

func TestRippleStates(t *testing.T) {
	for bits := int64(1); bits <= impl.MaxBits; bits++ {
		for from := range int64(1) << bits {
			what := fmt.Sprint("RippleStates ", bits, from)
			expect(t, what, fmt.Sprint(rippleOf(bits, from), true), call(impl.RippleStates(bits, from)))
			states, _ := impl.RippleStates(bits, from)
			expect(t, "last of "+what, fmt.Sprint((from+1)%(1<<bits)), states[len(states)-1])
		}
	}
	expect(t, "one bit up", "[1] true", call(impl.RippleStates(1, 0)))
	expect(t, "one bit down", "[0] true", call(impl.RippleStates(1, 1)))
	expect(t, "behind the greatest one", "[6 4 0] true", call(impl.RippleStates(3, 7)))
	expect(t, "all bits", "[254 252 248 240 224 192 128 0] true", call(impl.RippleStates(8, 255)))
}

func TestSpikesOf(t *testing.T) {
	for bits := int64(1); bits <= impl.MaxBits; bits++ {
		spikes := make([][]int64, 1<<bits)
		for from := range int64(1) << bits {
			states := rippleOf(bits, from)
			for _, state := range states[:len(states)-1] {
				spikes[state] = append(spikes[state], from)
			}
		}
		for watched, list := range spikes {
			expect(t, fmt.Sprint("SpikesOf ", bits, watched), fmt.Sprint(list, true), call(impl.SpikesOf(bits, int64(watched))))
		}
	}
	expect(t, "one bit", "[] true", call(impl.SpikesOf(1, 0)))
	expect(t, "the greatest one", "[] true", call(impl.SpikesOf(8, 255)))
	expect(t, "not from the greatest one, which leads there", "[1 3] true", call(impl.SpikesOf(3, 0)))
	expect(t, "on the way from the greatest one", "[5 7] true", call(impl.SpikesOf(3, 4)))
}

func TestRipplesCount(t *testing.T) {
	c, _ := impl.BinaryCounter(8, 256)
	for bit := range int64(8) {
		half := 1 << bit
		period := strings.Repeat("0", half) + strings.Repeat("1", half)
		want := strings.Repeat(period, 400/len(period)+1)[:400]
		expect(t, fmt.Sprint("bit ", bit), want+" true", call(impl.OutputOf(c, 0, bit, 400)))
	}
}
