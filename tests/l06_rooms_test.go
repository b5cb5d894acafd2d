package tests

import (
	"fmt"
	"math"
	"math/rand"
	"slices"
	"testing"

	"loop.example/g01153/impl"
)

// lineOf is a circuit whose register 1 gets the data of the register 0, which gets its own.
func lineOf(setup, hold, least, most int64) impl.Circuit {
	return timed(circuitOf([]int64{0, 0}), setup, hold, least, most)
}

// waysOf returns all paths of a circuit, by the registers to which they lead.
func waysOf(c impl.Circuit) [][]way {
	var all [][]way
	for to := range c.Registers {
		all = append(all, waysTo(c, to))
	}
	return all
}

// roomsOf returns the least rooms of all paths to a register.
func roomsOf(c impl.Circuit, ways []way, period int64, skews []int64, to int) (setup, hold int64) {
	setup, hold = math.MaxInt64, math.MaxInt64
	for _, w := range ways {
		setup = min(setup, period+skews[to]-skews[w.from()]-w.most-c.Setup)
		hold = min(hold, w.least+skews[w.from()]-skews[to]-c.Hold)
	}
	return setup, hold
}

// areTaken reports by the moments of edges whether each register takes the data of the edge before:
// what changes behind an edge of a register comes too late for the same edge of another one, and in time for its next one.
func areTaken(c impl.Circuit, ways [][]way, period int64, skews []int64) bool {
	for to := range ways {
		for _, w := range ways[to] {
			edge := 7*period + skews[w.from()]
			same, next := 7*period+skews[to], 8*period+skews[to]
			if edge+w.least < same+c.Hold || edge+w.most > next-c.Setup {
				return false
			}
		}
	}
	return true
}

// anySkews returns skews up to most that a source chooses.
func anySkews(source *rand.Rand, registers, most int64) []int64 {
	skews := make([]int64, registers)
	for i := range skews {
		skews[i] = source.Int63n(most + 1)
	}
	return skews
}

// someSkews are skews for so many registers, up to the greatest ones.
func someSkews(registers int64) [][]int64 {
	list := [][]int64{make([]int64, registers), listOf[int64](impl.MaxPeriod, int(registers))}
	for i := range registers {
		late := make([]int64, registers)
		late[i] = impl.MaxPeriod
		list = append(list, late)
	}
	source := rand.New(rand.NewSource(11))
	for _, most := range []int64{1, 3, 100, 1000, impl.MaxPeriod} {
		list = append(list, anySkews(source, registers, most), anySkews(source, registers, most))
	}
	return list
}

// noSkews are lists that are not skews of a circuit.
func noSkews(registers int64) [][]int64 {
	list := [][]int64{listOf[int64](0, int(registers)-1), listOf[int64](0, int(registers)+1), listOf[int64](0, 5000)}
	for _, skew := range []int64{math.MinInt64, -1, impl.MaxPeriod + 1, math.MaxInt64} {
		for i := range registers {
			skews := make([]int64, registers)
			skews[i] = skew
			list = append(list, skews)
		}
	}
	return list
}

// somePeriods are periods, and numbers that are none.
func somePeriods() []int64 {
	return []int64{math.MinInt64, -1, 0, 1, 2, 5, 10, 99, 1000, impl.MaxPeriod - 1, impl.MaxPeriod, impl.MaxPeriod + 1, math.MaxInt64}
}

func TestRooms(t *testing.T) {
	for _, c := range allCircuits() {
		ways := waysOf(c)
		for _, skews := range someSkews(c.Registers) {
			setup, hold := int64(math.MaxInt64), int64(math.MaxInt64)
			for to := range ways {
				s, h := roomsOf(c, ways[to], 0, skews, to)
				setup, hold = min(setup, s), min(hold, h)
			}
			what := fmt.Sprint(c, skews)
			expect(t, "HoldRoom "+what, call(hold, true), call(impl.HoldRoom(c, skews)))
			for _, period := range somePeriods() {
				want := "0 false"
				if period >= 1 && period <= impl.MaxPeriod {
					want = call(period+setup, true)
				}
				expect(t, fmt.Sprint("SetupRoom ", what, period), want, call(impl.SetupRoom(c, period, skews)))
			}
		}
	}
}

func TestRoomsInTheirCases(t *testing.T) {
	own := timed(ownCircuit(1), 3, 5, 2, 4)
	for _, skew := range []int64{0, 1, impl.MaxPeriod} {
		expect(t, "the setup of its own data", "3 true", call(impl.SetupRoom(own, 10, []int64{skew})))
		expect(t, "the hold of its own data", "-3 true", call(impl.HoldRoom(own, []int64{skew})))
	}
	c := lineOf(100, 100, 0, 100)
	expect(t, "the greatest room for setup", "99800 true", call(impl.SetupRoom(c, impl.MaxPeriod, []int64{0, impl.MaxPeriod})))
	expect(t, "the least room for setup", "-100199 true", call(impl.SetupRoom(c, 1, []int64{impl.MaxPeriod, 0})))
	expect(t, "the least room for hold", "-100100 true", call(impl.HoldRoom(c, []int64{0, impl.MaxPeriod})))
	expect(t, "the room for hold of its own data", "-100 true", call(impl.HoldRoom(c, []int64{impl.MaxPeriod, 0})))
	expect(t, "more setup than a period", "-199 true", call(impl.SetupRoom(c, 1, []int64{0, 0})))
	turn := timed(turnCircuit(2), 0, 0, 0, 0)
	expect(t, "rooms over both ways", "-99999 true -100000 true", call(impl.SetupRoom(turn, 1, []int64{impl.MaxPeriod, 0})), call(impl.HoldRoom(turn, []int64{impl.MaxPeriod, 0})))
}

func TestWorks(t *testing.T) {
	source := rand.New(rand.NewSource(12))
	works := map[bool]int{}
	for _, c := range allCircuits() {
		ways := waysOf(c)
		for i := range int64(20) {
			skews := anySkews(source, c.Registers, i%5)
			period := 1 + source.Int63n(10+60*(i%3))
			if least, ok := impl.LeastPeriod(c, skews); ok {
				period = max(least-i%2, 1)
			}
			want := areTaken(c, ways, period, skews)
			works[want]++
			expect(t, fmt.Sprint("Works ", c, period, skews), fmt.Sprint(want), impl.Works(c, period, skews))
		}
	}
	if works[true] < 100 || works[false] < 100 {
		t.Errorf("too few circuits work, or do not: %v", works)
	}
}

func TestWorksAtItsLimits(t *testing.T) {
	for _, period := range somePeriods() {
		want := period >= 1 && period <= impl.MaxPeriod
		expect(t, fmt.Sprint("Works with ", period), fmt.Sprint(want), impl.Works(ownCircuit(1), period, []int64{0}))
	}
	c := lineOf(1, 1, 2, 9)
	expect(t, "no room for setup that is left", "true", impl.Works(c, 10, []int64{0, 0}))
	expect(t, "too little room for setup", "false", impl.Works(c, 9, []int64{0, 0}))
	expect(t, "no room for hold that is left", "true", impl.Works(c, 10, []int64{0, 1}))
	expect(t, "too little room for hold", "false", impl.Works(c, 10, []int64{0, 2}))
	expect(t, "the greatest skews", "true", impl.Works(c, 10, []int64{impl.MaxPeriod, impl.MaxPeriod}))
	expect(t, "greater skews", "false", impl.Works(c, 10, []int64{impl.MaxPeriod + 1, impl.MaxPeriod + 1}))
	expect(t, "the greatest skew and period", "true", impl.Works(timed(circuitOf([]int64{0, 0}), 0, 0, 0, 0), impl.MaxPeriod, []int64{impl.MaxPeriod, 0}))
	expect(t, "its own data come too early", "false", impl.Works(timed(ownCircuit(1), 0, 2, 1, 1), impl.MaxPeriod, []int64{0}))
}

// leastPeriodOf writes what LeastPeriod should return: the least number that is a period and with which there is room.
func leastPeriodOf(c impl.Circuit, ways [][]way, skews []int64) string {
	period := int64(1)
	for to := range ways {
		setup, _ := roomsOf(c, ways[to], 0, skews, to)
		period = max(period, -setup)
	}
	if period > impl.MaxPeriod {
		return "0 false"
	}
	return call(period, true)
}

func TestLeastPeriod(t *testing.T) {
	found := map[bool]int{}
	for _, c := range allCircuits() {
		ways := waysOf(c)
		for _, skews := range someSkews(c.Registers) {
			expect(t, fmt.Sprint("LeastPeriod ", c, skews), leastPeriodOf(c, ways, skews), call(impl.LeastPeriod(c, skews)))
			period, ok := impl.LeastPeriod(c, skews)
			found[ok]++
			if !ok {
				period = impl.MaxPeriod
			}
			room, _ := impl.SetupRoom(c, period, skews)
			less, isPeriod := impl.SetupRoom(c, period-1, skews)
			if ok != (room >= 0) || ok && isPeriod && less >= 0 {
				t.Errorf("LeastPeriod %v %v: the room is %d with %d, and %d with less", c, skews, room, period, less)
			}
		}
	}
	if found[true] < 100 || found[false] < 100 {
		t.Errorf("too few circuits have a least period, or have none: %v", found)
	}
}

func TestLeastPeriodLimits(t *testing.T) {
	expect(t, "no delays", "1 true", call(impl.LeastPeriod(ownCircuit(1), []int64{0})))
	expect(t, "no delays, but skews", "1 true", call(impl.LeastPeriod(ownCircuit(2), []int64{0, impl.MaxPeriod})))
	expect(t, "a delay of a tick", "1 true", call(impl.LeastPeriod(timed(ownCircuit(1), 0, 0, 1, 1), []int64{0})))
	expect(t, "a delay of two ticks", "2 true", call(impl.LeastPeriod(timed(ownCircuit(1), 1, 0, 1, 1), []int64{0})))
	expect(t, "the greatest delays", "1200 true", call(impl.LeastPeriod(slowCircuit(), []int64{impl.MaxPeriod})))
	expect(t, "the greatest skew", "100000 true", call(impl.LeastPeriod(lineOf(0, 0, 0, 0), []int64{impl.MaxPeriod, 0})))
	expect(t, "the greatest skew and a tick", "0 false", call(impl.LeastPeriod(lineOf(1, 0, 0, 0), []int64{impl.MaxPeriod, 0})))
	expect(t, "the greatest period", "100000 true", call(impl.LeastPeriod(lineOf(1, 0, 0, 7), []int64{impl.MaxPeriod - 8, 0})))
	expect(t, "more than the greatest period", "0 false", call(impl.LeastPeriod(lineOf(1, 0, 0, 7), []int64{impl.MaxPeriod - 7, 0})))
	expect(t, "a skew that helps but for its own data", "8 true", call(impl.LeastPeriod(lineOf(1, 0, 0, 7), []int64{0, impl.MaxPeriod})))
}

func TestPadsOf(t *testing.T) {
	for _, c := range allCircuits() {
		ways := waysOf(c)
		for _, skews := range someSkews(c.Registers) {
			var pads []int64
			for to := range ways {
				_, hold := roomsOf(c, ways[to], 0, skews, to)
				pads = append(pads, max(-hold, 0))
			}
			expect(t, fmt.Sprint("PadsOf ", c, skews), call(pads, true), call(impl.PadsOf(c, skews)))
		}
	}
	expect(t, "its own data", "[3] true", call(impl.PadsOf(timed(ownCircuit(1), 3, 5, 2, 4), []int64{impl.MaxPeriod})))
	expect(t, "the greatest pad", "[100 100100] true", call(impl.PadsOf(lineOf(0, 100, 0, 0), []int64{0, impl.MaxPeriod})))
	expect(t, "no room that is left", "[0 0] true", call(impl.PadsOf(lineOf(0, 2, 2, 2), []int64{5, 5})))
	expect(t, "too little room", "[0 1] true", call(impl.PadsOf(lineOf(0, 2, 2, 2), []int64{5, 6})))
}

func TestPadsAreEnough(t *testing.T) {
	source := rand.New(rand.NewSource(13))
	padded := 0
	for _, c := range allCircuits() {
		skews := anySkews(source, c.Registers, 3)
		pads, _ := impl.PadsOf(c, skews)
		slow, ok := impl.PadCircuit(c, pads)
		if !ok {
			continue
		}
		if room, _ := impl.HoldRoom(slow, skews); room < 0 {
			t.Errorf("HoldRoom %v %v: %d", slow, skews, room)
		}
		for i := range pads {
			less := slices.Clone(pads)
			less[i]--
			if fast, ok := impl.PadCircuit(c, less); ok {
				padded++
				if room, _ := impl.HoldRoom(fast, skews); room >= 0 {
					t.Errorf("HoldRoom %v %v: %d, with a lesser pad", fast, skews, room)
				}
			}
		}
	}
	if padded < 100 {
		t.Errorf("too few pads: %d", padded)
	}
}

// failsForSkews checks that all functions with a circuit and skews fail.
func failsForSkews(t *testing.T, c impl.Circuit, skews []int64) {
	t.Helper()
	what := fmt.Sprint(c, skews)
	expect(t, "SetupRoom "+what, "0 false", call(impl.SetupRoom(c, 1000, skews)))
	expect(t, "HoldRoom "+what, "0 false", call(impl.HoldRoom(c, skews)))
	expect(t, "Works "+what, "false", impl.Works(c, 1000, skews))
	expect(t, "LeastPeriod "+what, "0 false", call(impl.LeastPeriod(c, skews)))
	expect(t, "PadsOf "+what, "[] false", call(impl.PadsOf(c, skews)))
}

func TestRoomsRequire(t *testing.T) {
	for _, c := range []impl.Circuit{exampleCircuit(), ownCircuit(1), ownCircuit(impl.MaxRegisters)} {
		for _, skews := range noSkews(c.Registers) {
			failsForSkews(t, c, skews)
		}
	}
	for _, c := range noCircuits() {
		for registers := range impl.MaxRegisters + 2 {
			failsForSkews(t, c, listOf[int64](0, registers))
		}
	}
}

func TestRoomExamples(t *testing.T) {
	c := exampleCircuit()
	expect(t, "LeastPeriod without skews", "10 true", call(impl.LeastPeriod(c, []int64{0, 0})))
	expect(t, "Works without skews", "true false", impl.Works(c, 10, []int64{0, 0}), impl.Works(c, 9, []int64{0, 0}))
	expect(t, "LeastPeriod with skews", "9 true", call(impl.LeastPeriod(c, []int64{0, 1})))
	expect(t, "Works with skews", "true false", impl.Works(c, 9, []int64{0, 1}), impl.Works(c, 8, []int64{0, 1}))
	expect(t, "HoldRoom with skews", "0 true", call(impl.HoldRoom(c, []int64{0, 1})))
	expect(t, "SetupRoom", "2 true", call(impl.SetupRoom(c, 12, []int64{0, 0})))
	expect(t, "PadsOf", "[0 2] true", call(impl.PadsOf(c, []int64{0, 3})))
}
