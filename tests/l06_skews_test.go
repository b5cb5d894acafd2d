package tests

import (
	"fmt"
	"math/big"
	"math/rand"
	"slices"
	"testing"

	"loop.example/g01153/impl"
)

// chainCircuit is a circuit whose register 0 gets its own data, and each other one those of the one before over two gates, with the greatest delays of gates and Setup.
func chainCircuit() impl.Circuit {
	c := timed(ownCircuit(impl.MaxRegisters), impl.MaxDelay, 0, 0, 0)
	for register := int64(1); register < c.Registers; register++ {
		last := c.Registers + int64(len(c.Gates))
		c.Gates = append(c.Gates, gate(impl.MaxDelay, impl.MaxDelay, register-1), gate(impl.MaxDelay, impl.MaxDelay, last))
		c.Data[register] = last + 1
	}
	return c
}

// heldCircuit is a circuit that works only if the clock of the register 0 comes late enough.
func heldCircuit() impl.Circuit {
	return timed(circuitOf([]int64{3, 0}, gate(100, 100, 1), gate(100, 100, 2)), 0, 100, 0, 0)
}

// extremes returns for two registers one way with the least and the greatest delay of all paths from one to the other.
func extremes(ways [][]way) [][]way {
	list := make([][]way, len(ways))
	for to := range ways {
		ends := map[int64]way{}
		for _, w := range ways[to] {
			one, known := ends[w.from()]
			if !known {
				one = w
			}
			ends[w.from()] = way{[]int64{w.from()}, min(one.least, w.least), max(one.most, w.most)}
		}
		for _, w := range ends {
			list[to] = append(list[to], w)
		}
	}
	return list
}

// raise makes the skews of a path greater where there is too little room, and reports whether it does.
func raise(c impl.Circuit, w way, to int, period int64, skews []int64) bool {
	from := w.from()
	late, early := skews[from]+w.most+c.Setup-period, skews[to]+c.Hold-w.least
	if late <= skews[to] && early <= skews[from] {
		return false
	}
	// One after the other, since a register that gets its own data is both.
	skews[to] = max(skews[to], late)
	skews[from] = max(skews[from], early)
	return true
}

// raisedSkews returns skews that are raised from 0 on no more than they must be; it fails if they get greater than all delays together.
func raisedSkews(c impl.Circuit, ways [][]way, period int64) ([]int64, bool) {
	skews := make([]int64, c.Registers)
	for again := true; again; {
		again = false
		for to := range ways {
			for _, w := range ways[to] {
				again = raise(c, w, to, period, skews) || again
			}
		}
		if slices.Max(skews) > 1200*c.Registers {
			return nil, false
		}
	}
	return skews, true
}

// tried returns the least number that each skew has in any skews up to size with which a circuit works, and none if there are no such skews.
func tried(c impl.Circuit, ways [][]way, period, size int64) []int64 {
	var least []int64
	for skews := range allSkews(int(c.Registers), size) {
		if !areTaken(c, ways, period, skews) {
			continue
		}
		if least == nil {
			least = slices.Clone(skews)
		}
		for i := range skews {
			least[i] = min(least[i], skews[i])
		}
	}
	return least
}

// allSkews yields each list of so many skews up to size.
func allSkews(registers int, size int64) func(yield func([]int64) bool) {
	return func(yield func([]int64) bool) {
		skews := make([]int64, registers)
		for {
			if !yield(skews) {
				return
			}
			i := 0
			for ; i < registers && skews[i] == size; i++ {
				skews[i] = 0
			}
			if i == registers {
				return
			}
			skews[i]++
		}
	}
}

func TestLeastSkewsOfAllSkews(t *testing.T) {
	const size = 9
	found := map[bool]int{}
	for i, c := range smallCircuits() {
		ways := extremes(waysOf(c))
		for period := int64(1); period <= 13; period += 1 + int64(i)%3 {
			got, ok := impl.LeastSkews(c, period)
			least := tried(c, ways, period, size)
			found[least != nil]++
			if ok && slices.Max(got) > size {
				got = nil
			}
			expect(t, fmt.Sprint("LeastSkews ", c, period), fmt.Sprint(least), got)
		}
	}
	if found[true] < 100 || found[false] < 100 {
		t.Errorf("too few circuits work, or do not: %v", found)
	}
}

func TestLeastSkews(t *testing.T) {
	found := map[bool]int{}
	for _, c := range append(allCircuits(), chainCircuit(), heldCircuit()) {
		ways := extremes(waysOf(c))
		least, _ := impl.LeastSkewedPeriod(c)
		for _, period := range []int64{1, 7, 40, 150, least - 1, least, least + 1, 1000, impl.MaxPeriod} {
			if period < 1 {
				continue
			}
			skews, ok := raisedSkews(c, ways, period)
			found[ok]++
			expect(t, fmt.Sprint("LeastSkews ", c, period), call(skews, ok), call(impl.LeastSkews(c, period)))
			if ok && !impl.Works(c, period, skews) {
				t.Errorf("%v does not work with %d %v", c, period, skews)
			}
		}
	}
	if found[true] < 100 || found[false] < 100 {
		t.Errorf("too few circuits work, or do not: %v", found)
	}
}

func TestLeastSkewsInTheirCases(t *testing.T) {
	expect(t, "no delays", "[0] true", call(impl.LeastSkews(ownCircuit(1), 1)))
	expect(t, "its own data in time", "[0] true", call(impl.LeastSkews(timed(ownCircuit(1), 3, 2, 2, 4), 7)))
	expect(t, "its own data too late", "[] false", call(impl.LeastSkews(timed(ownCircuit(1), 3, 2, 2, 4), 6)))
	expect(t, "its own data too early", "[] false", call(impl.LeastSkews(timed(ownCircuit(1), 3, 3, 2, 4), impl.MaxPeriod)))
	expect(t, "the own data of one of several too early", "[] false", call(impl.LeastSkews(timed(circuitOf([]int64{3, 1, 2}, gate(9, 9, 2)), 0, 3, 2, 2), impl.MaxPeriod)))
	expect(t, "skews that add up", "[0 200 400 600 800 1000] true", call(impl.LeastSkews(chainCircuit(), 100)))
	expect(t, "a period too short for its own data", "[] false", call(impl.LeastSkews(chainCircuit(), 99)))
	expect(t, "more time", "[0 1 2 3 4 5] true", call(impl.LeastSkews(chainCircuit(), 299)))
	expect(t, "time enough", "[0 0 0 0 0 0] true", call(impl.LeastSkews(chainCircuit(), 300)))
	expect(t, "a skew for hold", "[100 0] true", call(impl.LeastSkews(heldCircuit(), 100)))
	expect(t, "a skew for hold with much time", "[100 0] true", call(impl.LeastSkews(heldCircuit(), impl.MaxPeriod)))
	expect(t, "a skew for hold with too little time", "[] false", call(impl.LeastSkews(heldCircuit(), 99)))
	expect(t, "hold all around", "[] false", call(impl.LeastSkews(timed(turnCircuit(6), 0, 2, 1, 1), impl.MaxPeriod)))
	expect(t, "no hold that is left all around", "[0 0 0 0 0 0] true", call(impl.LeastSkews(timed(turnCircuit(6), 0, 1, 1, 1), 1)))
}

func TestLeastSkewsRequire(t *testing.T) {
	for _, c := range noCircuits() {
		for _, period := range []int64{0, 1, 1000, impl.MaxPeriod} {
			expect(t, fmt.Sprint("LeastSkews ", c, period), "[] false", call(impl.LeastSkews(c, period)))
		}
		expect(t, fmt.Sprint("LeastSkewedPeriod ", c), "0 false", call(impl.LeastSkewedPeriod(c)))
		expect(t, fmt.Sprint("RingPeriod ", c), "{0 0} false", call(impl.RingPeriod(c)))
	}
	for _, period := range somePeriods() {
		want := "[] false"
		if period >= 1 && period <= impl.MaxPeriod {
			want = "[0] true"
		}
		expect(t, fmt.Sprint("LeastSkews with ", period), want, call(impl.LeastSkews(ownCircuit(1), period)))
	}
}

func TestLeastSkewedPeriod(t *testing.T) {
	found := map[bool]int{}
	for _, c := range append(allCircuits(), chainCircuit(), heldCircuit()) {
		ways := extremes(waysOf(c))
		period, ok := impl.LeastSkewedPeriod(c)
		found[ok]++
		if !ok {
			expect(t, fmt.Sprint("a period that fails ", c), "0", period)
			period = impl.MaxPeriod + 1
		}
		_, longer := raisedSkews(c, ways, period)
		_, shorter := raisedSkews(c, ways, period-1)
		if ok && !longer || period > 1 && shorter {
			t.Errorf("LeastSkewedPeriod %v: %d %v, skews for it %v, skews for less %v", c, period, ok, longer, shorter)
		}
	}
	if found[true] < 100 || found[false] < 100 {
		t.Errorf("too few circuits work, or do not: %v", found)
	}
}

func TestNoSkewsAllowLess(t *testing.T) {
	for _, c := range smallCircuits() {
		period, ok := impl.LeastSkewedPeriod(c)
		if !ok {
			period = 60
		}
		for less := max(period-2, 1); less < period; less++ {
			if skews := tried(c, extremes(waysOf(c)), less, 7); skews != nil {
				t.Errorf("%v works with %d and skews of at least %v", c, less, skews)
			}
		}
	}
}

func TestLeastSkewedPeriodInItsCases(t *testing.T) {
	expect(t, "no delays", "1 true", call(impl.LeastSkewedPeriod(ownCircuit(1))))
	expect(t, "its own data", "7 true", call(impl.LeastSkewedPeriod(timed(ownCircuit(2), 3, 2, 2, 4))))
	expect(t, "its own data too early", "0 false", call(impl.LeastSkewedPeriod(timed(ownCircuit(2), 3, 3, 2, 4))))
	expect(t, "all around too early", "0 false", call(impl.LeastSkewedPeriod(timed(turnCircuit(3), 0, 2, 1, 1))))
	expect(t, "the greatest delays", "1200 true", call(impl.LeastSkewedPeriod(slowCircuit())))
	expect(t, "skews that add up", "100 true", call(impl.LeastSkewedPeriod(chainCircuit())))
	expect(t, "hold that takes time", "100 true", call(impl.LeastSkewedPeriod(heldCircuit())))
	expect(t, "no hold that takes time", "7 true", call(impl.LeastSkewedPeriod(timed(circuitOf([]int64{1, 2}, gate(7, 7, 0)), 1, 1, 2, 2))))
}

// ringShare returns the share of each path in the time of a ring over registers in this order, and fails if they are no ring.
func ringShare(c impl.Circuit, ways [][]way, registers []int64) (*big.Rat, bool) {
	time := int64(0)
	for i, from := range registers {
		to := registers[(i+1)%len(registers)]
		at := slices.IndexFunc(ways[to], func(w way) bool { return w.from() == from })
		if at < 0 {
			return nil, false
		}
		time += ways[to][at].most + c.Setup
	}
	return big.NewRat(time, int64(len(registers))), true
}

// ringPeriodOf returns the greatest share over all lists of different registers, and how many registers the first list with it has.
func ringPeriodOf(c impl.Circuit, ways [][]way) (*big.Rat, int) {
	greatest, size := big.NewRat(-1, 1), 0
	var registers []int64
	var extend func()
	extend = func() {
		if len(registers) > 0 {
			if share, ok := ringShare(c, ways, registers); ok && share.Cmp(greatest) > 0 {
				greatest, size = share, len(registers)
			}
		}
		for register := range c.Registers {
			if !slices.Contains(registers, register) {
				registers = append(registers, register)
				extend()
				registers = registers[:len(registers)-1]
			}
		}
	}
	extend()
	return greatest, size
}

// ringCircuits are circuits of which rings of each size are the slowest ones.
func ringCircuits() []impl.Circuit {
	list := append(allCircuits(), chainCircuit(), heldCircuit())
	source := rand.New(rand.NewSource(14))
	for i := range int64(60) {
		c := timed(turnCircuit(2+i%5), source.Int63n(9), 0, 0, source.Int63n(9))
		// The gates of some registers also have other inputs, which make shorter rings.
		for register, data := range c.Data {
			g := gate(0, source.Int63n(99), data)
			if other := source.Int63n(c.Registers); other > data && i%2 == 1 {
				g.Inputs = append(g.Inputs, other)
			}
			c.Gates = append(c.Gates, g)
			c.Data[register] = c.Registers + int64(register)
		}
		list = append(list, c)
	}
	return list
}

func TestRingPeriod(t *testing.T) {
	sizes := map[int]int{}
	for _, c := range ringCircuits() {
		greatest, size := ringPeriodOf(c, extremes(waysOf(c)))
		sizes[size]++
		expect(t, fmt.Sprint("RingPeriod ", c), resultOf(greatest), call(impl.RingPeriod(c)))
	}
	for size := 1; size <= impl.MaxRegisters; size++ {
		if sizes[size] == 0 {
			t.Errorf("no circuit has a slowest ring of %d registers", size)
		}
	}
}

func TestNoPeriodIsLessThanRings(t *testing.T) {
	equal := 0
	for _, c := range ringCircuits() {
		period, ok := impl.LeastSkewedPeriod(c)
		share, _ := impl.RingPeriod(c)
		if ok && period*share.Den < share.Num {
			t.Errorf("%v works with %d, less than %v", c, period, share)
		}
		if ok && period*share.Den-share.Num < share.Den {
			equal++
		}
	}
	if equal < 50 {
		t.Errorf("too few circuits have a period as small as rings allow: %d", equal)
	}
}

func TestRingPeriodInItsCases(t *testing.T) {
	expect(t, "no delays", "{0 1} true", call(impl.RingPeriod(ownCircuit(1))))
	expect(t, "its own data", "{7 1} true", call(impl.RingPeriod(timed(ownCircuit(1), 3, 3, 2, 4))))
	expect(t, "the greatest delays", "{1200 1} true", call(impl.RingPeriod(slowCircuit())))
	expect(t, "all around", "{200 1} true", call(impl.RingPeriod(timed(turnCircuit(6), 100, 100, 0, 100))))
	expect(t, "all around over one gate", "{1 6} true", call(impl.RingPeriod(circuitOf([]int64{6, 0, 1, 2, 3, 4}, gate(0, 1, 5)))))
	expect(t, "a short ring over the last registers", "{5 2} true", call(impl.RingPeriod(circuitOf([]int64{1, 0, 4, 2}, gate(5, 5, 3)))))
	expect(t, "its own data, slower than a ring", "{4 1} true", call(impl.RingPeriod(circuitOf([]int64{1, 0, 3}, gate(4, 4, 2)))))
	expect(t, "all gates and registers", "{1200 1} true", call(impl.RingPeriod(timed(fullCircuit(0, 100), 100, 0, 0, 100))))
}

func TestSkewExamples(t *testing.T) {
	c := exampleCircuit()
	expect(t, "LeastSkews", "[0 1] true", call(impl.LeastSkews(c, 9)))
	expect(t, "LeastSkews for less", "[] false", call(impl.LeastSkews(c, 8)))
	expect(t, "LeastSkewedPeriod", "9 true", call(impl.LeastSkewedPeriod(c)))
	expect(t, "RingPeriod", "{13 2} true", call(impl.RingPeriod(c)))
}
