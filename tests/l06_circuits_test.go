package tests

import (
	"fmt"
	"math"
	"math/rand"
	"slices"
	"testing"

	"loop.example/g01153/impl"
)

// gate returns a gate with these fields, valid or not.
func gate(least, most int64, inputs ...int64) impl.Gate {
	return impl.Gate{Least: least, Most: most, Inputs: inputs}
}

// circuitOf returns a circuit with the data and the gates, and no other times.
func circuitOf(data []int64, gates ...impl.Gate) impl.Circuit {
	return impl.Circuit{Registers: int64(len(data)), Gates: gates, Data: data}
}

// timed returns a circuit with other times.
func timed(c impl.Circuit, setup, hold, least, most int64) impl.Circuit {
	c.Setup, c.Hold, c.Least, c.Most = setup, hold, least, most
	return c
}

// exampleCircuit is the circuit of the document's example.
func exampleCircuit() impl.Circuit {
	return timed(circuitOf([]int64{1, 2}, gate(1, 7, 0)), 1, 1, 1, 2)
}

// ownCircuit is a circuit in which each register gets its own data.
func ownCircuit(registers int64) impl.Circuit {
	var data []int64
	for register := range registers {
		data = append(data, register)
	}
	return circuitOf(data)
}

// turnCircuit is a circuit in which each register gets the data of the one before it, and the first one those of the last one.
func turnCircuit(registers int64) impl.Circuit {
	var data []int64
	for register := range registers {
		data = append(data, (register+registers-1)%registers)
	}
	return circuitOf(data)
}

// slowCircuit is a circuit with the greatest delays that there can be: one register behind all gates.
func slowCircuit() impl.Circuit {
	c := timed(circuitOf([]int64{impl.MaxGates}), impl.MaxDelay, impl.MaxDelay, impl.MaxDelay, impl.MaxDelay)
	for node := range int64(impl.MaxGates) {
		c.Gates = append(c.Gates, gate(impl.MaxDelay, impl.MaxDelay, node))
	}
	return c
}

// fullCircuit is a circuit with as many registers, gates, inputs and paths as there can be, all gates of which have the same delays.
func fullCircuit(least, most int64) impl.Circuit {
	c := circuitOf(listOf[int64](impl.MaxRegisters+impl.MaxGates-1, impl.MaxRegisters))
	for i := range int64(impl.MaxGates) {
		c.Gates = append(c.Gates, gate(least, most, ownCircuit(impl.MaxRegisters+i).Data...))
	}
	return c
}

// anyGate returns a gate for a node that a source chooses, with delays up to most.
func anyGate(source *rand.Rand, node, most int64) impl.Gate {
	slow := source.Int63n(most + 1)
	g := gate(source.Int63n(slow+1), slow)
	for len(g.Inputs) == 0 {
		few := 2 + source.Intn(3)
		for input := range node {
			if source.Intn(few) == 0 {
				g.Inputs = append(g.Inputs, input)
			}
		}
	}
	return g
}

// anyCircuit returns a circuit that a source chooses, with times up to most.
func anyCircuit(source *rand.Rand, registers, gates, most int64) impl.Circuit {
	c := circuitOf(make([]int64, registers))
	for i := range gates {
		c.Gates = append(c.Gates, anyGate(source, registers+i, most))
	}
	for register := range c.Data {
		c.Data[register] = source.Int63n(registers + gates)
	}
	slow := source.Int63n(most + 1)
	return timed(c, source.Int63n(most+1), source.Int63n(most+1), source.Int63n(slow+1), slow)
}

// smallCircuits are circuits of 1 to 3 registers with small times.
func smallCircuits() []impl.Circuit {
	list := []impl.Circuit{exampleCircuit(), ownCircuit(1), ownCircuit(2), turnCircuit(2), turnCircuit(3), timed(ownCircuit(1), 1, 1, 1, 1), timed(ownCircuit(1), 0, 2, 1, 1), timed(turnCircuit(3), 1, 0, 0, 2)}
	source := rand.New(rand.NewSource(9))
	for i := range int64(400) {
		list = append(list, anyCircuit(source, 1+i%3, i%5, 1+i%4))
	}
	return list
}

// largeCircuits are circuits up to as many registers and gates as there can be, and with all times up to the greatest one.
func largeCircuits() []impl.Circuit {
	list := []impl.Circuit{ownCircuit(impl.MaxRegisters), turnCircuit(impl.MaxRegisters), timed(turnCircuit(impl.MaxRegisters), 100, 100, 0, 100), slowCircuit(), fullCircuit(0, 0), fullCircuit(100, 100), timed(fullCircuit(0, 100), 100, 100, 0, 100)}
	source := rand.New(rand.NewSource(10))
	for i := range int64(300) {
		list = append(list, anyCircuit(source, 1+i%impl.MaxRegisters, i%(impl.MaxGates+1), []int64{1, 5, impl.MaxDelay}[i%3]))
	}
	return list
}

// allCircuits are the small and the large ones.
func allCircuits() []impl.Circuit {
	return append(smallCircuits(), largeCircuits()...)
}

// noGates are gates that no circuit has as its first one behind two registers.
func noGates() []impl.Gate {
	return []impl.Gate{{}, gate(0, 0), gate(1, 2), gate(-1, 2, 0), gate(-1, -1, 0), gate(3, 2, 0), gate(1, 0, 0), gate(0, impl.MaxDelay+1, 0), gate(impl.MaxDelay+1, impl.MaxDelay+1, 0), gate(impl.MaxDelay+1, impl.MaxDelay, 0),
		gate(math.MinInt64, 0, 0), gate(0, math.MinInt64, 0), gate(0, math.MaxInt64, 0), gate(math.MaxInt64, math.MaxInt64, 0),
		gate(1, 2, -1), gate(1, 2, 2), gate(1, 2, 3), gate(1, 2, 0, 2), gate(1, 2, -1, 0), gate(1, 2, 0, 0), gate(1, 2, 1, 0), gate(1, 2, 0, 1, 1), gate(1, 2, math.MinInt64), gate(1, 2, math.MaxInt64), gate(1, 2, listOf[int64](0, 5000)...)}
}

// noCircuits are circuits that are not valid.
func noCircuits() []impl.Circuit {
	list := []impl.Circuit{{}, ownCircuit(0), ownCircuit(impl.MaxRegisters + 1), {Registers: 1}, {Registers: 2, Data: []int64{0}}, {Registers: 1, Data: []int64{0, 0}}, {Registers: 0, Data: []int64{0}}, {Registers: -1, Data: []int64{0}},
		{Registers: math.MinInt64}, {Registers: math.MaxInt64, Data: []int64{0, 1}}, {Registers: 7, Data: listOf[int64](0, 6)},
		circuitOf([]int64{0, 2}), circuitOf([]int64{-1, 0}), circuitOf([]int64{0, 3}, gate(0, 0, 0)), circuitOf([]int64{math.MaxInt64}), circuitOf([]int64{math.MinInt64}),
		circuitOf([]int64{0}, listOf(gate(0, 0, 0), impl.MaxGates+1)...), circuitOf([]int64{0}, listOf(gate(0, 0, 0), 5000)...), circuitOf([]int64{0, 1}, gate(0, 0, 0), gate(0, 0, 3)), circuitOf([]int64{0, 1}, gate(0, 0, 3), gate(0, 0, 0))}
	for _, g := range noGates() {
		list = append(list, circuitOf([]int64{0, 1}, g), circuitOf([]int64{2, 1}, g, gate(0, 0, 0)))
	}
	for _, time := range []int64{math.MinInt64, -1, impl.MaxDelay + 1, math.MaxInt64} {
		list = append(list, timed(exampleCircuit(), time, 1, 1, 2), timed(exampleCircuit(), 1, time, 1, 2), timed(exampleCircuit(), 1, 1, time, time), timed(exampleCircuit(), 1, 1, 0, time), timed(exampleCircuit(), 1, 1, time, 2))
	}
	return append(list, timed(exampleCircuit(), 1, 1, 3, 2), timed(exampleCircuit(), 1, 1, impl.MaxDelay, impl.MaxDelay-1))
}

func TestCircuitLimits(t *testing.T) {
	expect(t, "limits of chapter 6", "6 10 100 100000", impl.MaxRegisters, impl.MaxGates, impl.MaxDelay, impl.MaxPeriod)
}

func TestValidCircuit(t *testing.T) {
	for _, c := range allCircuits() {
		expect(t, fmt.Sprint("ValidCircuit ", c), "true", impl.ValidCircuit(c))
	}
	for _, c := range noCircuits() {
		expect(t, fmt.Sprint("ValidCircuit ", c), "false", impl.ValidCircuit(c))
	}
	for registers := range int64(9) {
		expect(t, fmt.Sprint("registers ", registers), fmt.Sprint(registers >= 1 && registers <= 6), impl.ValidCircuit(turnCircuit(registers)))
	}
	for gates := range 13 {
		expect(t, fmt.Sprint("gates ", gates), fmt.Sprint(gates <= 10), impl.ValidCircuit(circuitOf([]int64{0}, listOf(gate(0, 0, 0), gates)...)))
	}
}

func TestValidCircuitNodes(t *testing.T) {
	for registers := int64(1); registers <= impl.MaxRegisters; registers++ {
		for gates := range int64(4) {
			c := ownCircuit(registers)
			for range gates {
				c.Gates = append(c.Gates, gate(0, 0, 0))
			}
			for node := int64(-2); node <= registers+gates+1; node++ {
				c.Data[registers-1] = node
				want := node >= 0 && node < registers+gates
				expect(t, fmt.Sprint("data ", registers, gates, node), fmt.Sprint(want), impl.ValidCircuit(c))
			}
			c.Data[registers-1] = 0
			for input := int64(-2); input <= registers+gates+1 && gates > 0; input++ {
				c.Gates[gates-1].Inputs = []int64{input}
				want := input >= 0 && input < registers+gates-1
				expect(t, fmt.Sprint("input ", registers, gates, input), fmt.Sprint(want), impl.ValidCircuit(c))
			}
		}
	}
}

func TestValidCircuitTimes(t *testing.T) {
	times := []int64{math.MinInt64, -2, -1, 0, 1, 50, 99, 100, 101, math.MaxInt64}
	for _, a := range times {
		one := a >= 0 && a <= 100
		expect(t, fmt.Sprint("Setup ", a), fmt.Sprint(one), impl.ValidCircuit(timed(exampleCircuit(), a, 0, 0, 0)))
		expect(t, fmt.Sprint("Hold ", a), fmt.Sprint(one), impl.ValidCircuit(timed(exampleCircuit(), 0, a, 0, 0)))
		for _, b := range times {
			both := fmt.Sprint(a >= 0 && a <= b && b <= 100)
			expect(t, fmt.Sprint("Least and Most ", a, b), both, impl.ValidCircuit(timed(exampleCircuit(), 0, 0, a, b)))
			expect(t, fmt.Sprint("delays ", a, b), both, impl.ValidCircuit(circuitOf([]int64{0}, gate(a, b, 0))))
		}
	}
}

// paddedOf writes what PadCircuit should return.
func paddedOf(c impl.Circuit, pads []int64) string {
	isRight := impl.ValidCircuit(c) && len(pads) == len(c.Data)
	padded := impl.Circuit{Registers: c.Registers, Gates: slices.Clone(c.Gates), Setup: c.Setup, Hold: c.Hold, Least: c.Least, Most: c.Most}
	for register := range min(len(pads), len(c.Data)) {
		pad, data := pads[register], c.Data[register]
		isRight = isRight && pad >= 0 && pad <= 100
		if pad > 0 {
			padded.Gates = append(padded.Gates, gate(pad, pad, data))
			data = c.Registers + int64(len(padded.Gates)) - 1
		}
		padded.Data = append(padded.Data, data)
	}
	if !isRight || len(padded.Gates) > 10 {
		return fmt.Sprint(impl.Circuit{}, false)
	}
	return fmt.Sprint(padded, true)
}

// somePads are lists that can be pads of some circuits, or of none.
func somePads() [][]int64 {
	list := [][]int64{nil, {1, 0}, {100, 99}, {0, 1, 2}, {-1}, {0, -1}, {101}, {0, 101}, {math.MinInt64}, {math.MaxInt64, 0}, {1, 0, 1, 0, 1, 0}, {0, 0, 0, 100, 0, 0}, {6, 5, 4, 3, 2, 1}}
	for registers := 1; registers <= impl.MaxRegisters+1; registers++ {
		list = append(list, listOf[int64](0, registers), listOf[int64](1, registers), listOf[int64](100, registers))
	}
	return list
}

func TestPadCircuit(t *testing.T) {
	for _, c := range append(allCircuits(), noCircuits()...) {
		for _, pads := range somePads() {
			expect(t, fmt.Sprint("PadCircuit ", c, pads), paddedOf(c, pads), call(impl.PadCircuit(c, pads)))
		}
	}
}

func TestPadCircuitInItsCases(t *testing.T) {
	c := circuitOf([]int64{2, 2, 0}, gate(0, 5, 2))
	expect(t, "registers with data of one node", "{3 [{0 5 [2]} {4 4 [2]} {7 7 [2]}] [4 5 0] 0 0 0 0} true", call(impl.PadCircuit(c, []int64{4, 7, 0})))
	expect(t, "a register with its own data", "{1 [{100 100 [0]}] [1] 0 0 0 0} true", call(impl.PadCircuit(ownCircuit(1), []int64{100})))
	for gates := range 11 {
		for padded := range 7 {
			c := ownCircuit(impl.MaxRegisters)
			c.Gates = listOf(gate(0, 0, 0), gates)
			pads := append(listOf[int64](1, padded), listOf[int64](0, 6-padded)...)
			_, ok := impl.PadCircuit(c, pads)
			expect(t, fmt.Sprint("gates ", gates, padded), fmt.Sprint(gates+padded <= 10), ok)
		}
	}
}

func TestPadCircuitIsSeparate(t *testing.T) {
	c := timed(circuitOf([]int64{3, 2}, gate(1, 7, 0), gate(0, 1, 0, 1, 2)), 1, 1, 1, 2)
	for _, pads := range [][]int64{{0, 0}, {1, 2}} {
		padded, _ := impl.PadCircuit(c, pads)
		got := [][]int64{padded.Data}
		for _, g := range padded.Gates {
			got = append(got, g.Inputs)
		}
		var want [][]int64
		for _, list := range got {
			want = append(want, slices.Clone(list))
		}
		checkSeparate(t, fmt.Sprint("PadCircuit ", pads), got, want)
		expect(t, "the circuit itself", "{2 [{1 7 [0]} {0 1 [0 1 2]}] [3 2] 1 1 1 2}", c)
	}
}
