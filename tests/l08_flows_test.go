package tests

import (
	"fmt"
	"math"
	"math/rand"
	"slices"
	"testing"

	"loop.example/g01153/impl"
)

// wire returns a wire with these fields, valid or not.
func wire(from, to, count int64) impl.Wire {
	return impl.Wire{From: from, To: to, Count: count}
}

// flowOf returns a flow with the delays and the wires, valid or not.
func flowOf(delays []int64, wires ...impl.Wire) impl.Flow {
	return impl.Flow{Delays: delays, Wires: wires}
}

// exampleFlow is the flow of the document's example.
func exampleFlow() impl.Flow {
	return flowOf([]int64{3, 4, 5}, wire(0, 1, 0), wire(1, 2, 0), wire(2, 0, 2))
}

// turnFlow is a flow of one ring over all vertices, which have one delay, with all registers on its last wire.
func turnFlow(vertices int, delay, count int64) impl.Flow {
	f := flowOf(listOf(delay, vertices))
	for vertex := range int64(vertices) {
		f.Wires = append(f.Wires, wire(vertex, (vertex+1)%int64(vertices), 0))
	}
	f.Wires[vertices-1].Count = count
	return f
}

// rowFlow is a flow whose vertices, which have one delay, are a row that no wire leads back.
func rowFlow(vertices int, delay, count int64) impl.Flow {
	f := flowOf(listOf(delay, vertices))
	for vertex := range int64(vertices) - 1 {
		f.Wires = append(f.Wires, wire(vertex, vertex+1, count))
	}
	return f
}

// anyFlow returns a flow that a source chooses; only wires that lead forward in a chosen order of vertices can have no registers.
func anyFlow(source *rand.Rand, vertices, wires int, delay, count int64) impl.Flow {
	f := flowOf(nil)
	for range vertices {
		f.Delays = append(f.Delays, source.Int63n(delay+1))
	}
	order := source.Perm(vertices)
	for range wires {
		from, to := source.Intn(vertices), source.Intn(vertices)
		least := int64(1)
		if order[from] < order[to] {
			least = 0
		}
		few := []int64{0, 1, count}[source.Intn(3)]
		f.Wires = append(f.Wires, wire(int64(from), int64(to), max(least, min(few, source.Int63n(count+1)))))
	}
	return f
}

// knotFlow returns a flow of a ring over all vertices with few registers, which a source chooses, and other wires with more of them.
func knotFlow(source *rand.Rand, vertices, others int) impl.Flow {
	f := anyFlow(source, vertices, others, impl.MaxDelay, 0)
	for i := range f.Wires {
		f.Wires[i].Count = 3 + source.Int63n(5)
	}
	ring := turnFlow(vertices, 0, 1+source.Int63n(2))
	for i := range ring.Wires {
		ring.Wires[i].Count += source.Int63n(5) / 4
	}
	f.Wires = append(f.Wires, ring.Wires...)
	source.Shuffle(len(f.Wires), func(i, j int) { f.Wires[i], f.Wires[j] = f.Wires[j], f.Wires[i] })
	return f
}

// smallFlows are flows of 1 to 4 vertices with small delays and few registers.
func smallFlows() []impl.Flow {
	list := []impl.Flow{exampleFlow(), flowOf([]int64{0}), flowOf([]int64{1}, wire(0, 0, 1)), flowOf([]int64{0, 0}, wire(0, 1, 0)), turnFlow(2, 3, 1), turnFlow(3, 0, 1), turnFlow(3, 2, 2), turnFlow(4, 1, 4), rowFlow(4, 2, 0), rowFlow(3, 1, 1)}
	source := rand.New(rand.NewSource(81))
	for i := range 500 {
		list = append(list, anyFlow(source, 1+i%4, i%9, int64(i%5), 1+int64(i%4)))
	}
	return list
}

// largeFlows are flows up to as many vertices and wires as there can be, with delays and registers up to the greatest ones.
func largeFlows() []impl.Flow {
	list := []impl.Flow{turnFlow(8, 100, 1), turnFlow(8, 100, 20), turnFlow(8, 0, 8), turnFlow(7, 99, 3), rowFlow(8, 100, 0), rowFlow(8, 100, 20), flowOf([]int64{100}, listOf(wire(0, 0, 20), 16)...), flowOf([]int64{1, 2}, listOf(wire(0, 1, 0), 16)...)}
	source := rand.New(rand.NewSource(82))
	for i := range 300 {
		list = append(list, anyFlow(source, 1+i%8, i%17, []int64{1, 7, impl.MaxDelay}[i%3], []int64{1, 2, 4, impl.MaxCount}[i%4]))
	}
	for i := range 120 {
		list = append(list, knotFlow(source, 3+i%6, i%9))
	}
	return list
}

// allFlows are the small and the large ones.
func allFlows() []impl.Flow {
	return append(smallFlows(), largeFlows()...)
}

// astrayWires are wires that no flow of two vertices has.
func astrayWires() []impl.Wire {
	return []impl.Wire{wire(-1, 0, 1), wire(0, -1, 1), wire(2, 0, 1), wire(0, 2, 1), wire(2, 2, 1), wire(-1, -1, 1), wire(0, 1, -1), wire(0, 1, 21), wire(1, 0, 1000),
		wire(math.MinInt64, 0, 1), wire(0, math.MinInt64, 1), wire(0, 1, math.MinInt64), wire(math.MaxInt64, 0, 1), wire(0, math.MaxInt64, 1), wire(0, 1, math.MaxInt64), wire(1<<32, 0, 1), wire(0, 1<<32, 1)}
}

// idleFlows have rings without registers.
func idleFlows() []impl.Flow {
	back := turnFlow(8, 1, 1)
	back.Wires = append(back.Wires, wire(3, 2, 0))
	list := []impl.Flow{flowOf([]int64{1}, wire(0, 0, 0)), flowOf([]int64{1, 2}, wire(0, 1, 1), wire(1, 1, 0)), flowOf([]int64{0}, wire(0, 0, 1), wire(0, 0, 0)), flowOf([]int64{1, 2}, wire(0, 1, 0), wire(1, 0, 3), wire(1, 0, 0)), back}
	for vertices := 1; vertices <= impl.MaxVertices; vertices++ {
		list = append(list, turnFlow(vertices, 0, 0), turnFlow(vertices, 7, 0))
	}
	return list
}

// noFlows are flows that are not valid.
func noFlows() []impl.Flow {
	list := append(idleFlows(), flowOf(nil), flowOf([]int64{}, wire(0, 0, 1)), rowFlow(9, 1, 1), rowFlow(9, 0, 0), flowOf(listOf[int64](1, 5000)), flowOf([]int64{1}, listOf(wire(0, 0, 1), 17)...), flowOf([]int64{1}, listOf(wire(0, 0, 1), 5000)...), flowOf([]int64{1}, wire(0, 1, 1)))
	for _, w := range astrayWires() {
		list = append(list, flowOf([]int64{1, 2}, w), flowOf([]int64{1, 2}, wire(0, 1, 1), w, wire(1, 0, 1)))
	}
	for _, delay := range []int64{math.MinInt64, -1, 101, math.MaxInt64} {
		list = append(list, flowOf([]int64{delay}), flowOf([]int64{1, delay, 2}, wire(0, 1, 0)), flowOf([]int64{0, 100, delay}), flowOf([]int64{delay, 0}))
	}
	return list
}

// isIdle reports whether a flow of this form has a ring without registers, by all pairs of vertices between which wires without registers lead.
func isIdle(f impl.Flow) bool {
	leads := map[[2]int64]bool{}
	for _, w := range f.Wires {
		if w.Count == 0 {
			leads[[2]int64{w.From, w.To}] = true
		}
	}
	vertices := int64(len(f.Delays))
	for middle := range vertices {
		for from := range vertices {
			for to := range vertices {
				if leads[[2]int64{from, middle}] && leads[[2]int64{middle, to}] {
					leads[[2]int64{from, to}] = true
				}
			}
		}
	}
	for vertex := range vertices {
		if leads[[2]int64{vertex, vertex}] {
			return true
		}
	}
	return false
}

func TestFlowLimits(t *testing.T) {
	expect(t, "limits of chapter 8", "8 16 20", impl.MaxVertices, impl.MaxWires, impl.MaxCount)
}

func TestValidFlow(t *testing.T) {
	for _, f := range allFlows() {
		expect(t, fmt.Sprint("ValidFlow ", f), "true", impl.ValidFlow(f))
	}
	for _, f := range noFlows() {
		expect(t, fmt.Sprint("ValidFlow ", f), "false", impl.ValidFlow(f))
	}
	for size := range 20 {
		expect(t, fmt.Sprint("vertices ", size), fmt.Sprint(size >= 1 && size <= 8), impl.ValidFlow(rowFlow(size, 1, 0)))
		expect(t, fmt.Sprint("wires ", size), fmt.Sprint(size <= 16), impl.ValidFlow(flowOf([]int64{1}, listOf(wire(0, 0, 1), size)...)))
	}
	for n := int64(-2); n <= 103; n++ {
		expect(t, fmt.Sprint("delay ", n), fmt.Sprint(n >= 0 && n <= 100), impl.ValidFlow(flowOf([]int64{3, n})))
		expect(t, fmt.Sprint("Count ", n), fmt.Sprint(n >= 0 && n <= 20), impl.ValidFlow(flowOf([]int64{1, 2}, wire(0, 1, n))))
		expect(t, fmt.Sprint("Count to the same vertex ", n), fmt.Sprint(n >= 1 && n <= 20), impl.ValidFlow(flowOf([]int64{1, 2}, wire(1, 1, n))))
	}
}

func TestValidFlowVertices(t *testing.T) {
	for vertices := 1; vertices <= impl.MaxVertices; vertices++ {
		for vertex := int64(-2); vertex <= int64(vertices)+1; vertex++ {
			want := fmt.Sprint(vertex >= 0 && vertex < int64(vertices))
			expect(t, fmt.Sprint("From ", vertices, vertex), want, impl.ValidFlow(flowOf(listOf[int64](1, vertices), wire(vertex, 0, 1))))
			expect(t, fmt.Sprint("To ", vertices, vertex), want, impl.ValidFlow(flowOf(listOf[int64](1, vertices), wire(0, vertex, 1))))
		}
	}
}

func TestValidFlowRings(t *testing.T) {
	source := rand.New(rand.NewSource(83))
	found := map[bool]int{}
	for i := range 3000 {
		f := flowOf(make([]int64, 1+i%8))
		for range i % 12 {
			f.Wires = append(f.Wires, wire(source.Int63n(int64(len(f.Delays))), source.Int63n(int64(len(f.Delays))), source.Int63n(6)/4))
		}
		idle := isIdle(f)
		found[idle]++
		expect(t, fmt.Sprint("ValidFlow ", f), fmt.Sprint(!idle), impl.ValidFlow(f))
	}
	if found[true] < 500 || found[false] < 500 {
		t.Errorf("too few flows with rings without registers, or without them: %v", found)
	}
	for vertices := 1; vertices <= impl.MaxVertices; vertices++ {
		for at := range vertices {
			f := turnFlow(vertices, 1, 0)
			f.Wires[at].Count = 1
			expect(t, fmt.Sprint("one register in a ring ", f), "true", impl.ValidFlow(f))
		}
	}
}

// freePaths returns the vertices of each path without registers, and each vertex alone.
func freePaths(f impl.Flow) [][]int64 {
	var list [][]int64
	var extend func(path []int64)
	extend = func(path []int64) {
		list = append(list, slices.Clone(path))
		for _, w := range f.Wires {
			if w.Count == 0 && w.From == path[len(path)-1] {
				extend(append(path, w.To))
			}
		}
	}
	for vertex := range f.Delays {
		extend([]int64{int64(vertex)})
	}
	return list
}

// delayOf returns the sum of the delays of all vertices of a path.
func delayOf(f impl.Flow, path []int64) int64 {
	sum := int64(0)
	for _, vertex := range path {
		sum += f.Delays[vertex]
	}
	return sum
}

// slowestOf writes what FlowPeriod and SlowestPath should return.
func slowestOf(f impl.Flow) string {
	paths := freePaths(f)
	slowest := paths[0]
	for _, path := range paths {
		more := delayOf(f, path) - delayOf(f, slowest)
		fewer := len(slowest) - len(path)
		if more > 0 || more == 0 && fewer > 0 || more == 0 && fewer == 0 && slices.Compare(path, slowest) < 0 {
			slowest = path
		}
	}
	return fmt.Sprint(delayOf(f, slowest), true, slowest, true)
}

// gotSlowest writes what FlowPeriod and SlowestPath return.
func gotSlowest(f impl.Flow) string {
	period, ok := impl.FlowPeriod(f)
	path, found := impl.SlowestPath(f)
	return fmt.Sprint(period, ok, path, found)
}

func TestFlowPeriod(t *testing.T) {
	sizes := map[int]int{}
	for _, f := range allFlows() {
		expect(t, fmt.Sprint("FlowPeriod ", f), slowestOf(f), gotSlowest(f))
		path, _ := impl.SlowestPath(f)
		sizes[len(path)]++
	}
	for size := 1; size <= 6; size++ {
		if sizes[size] < 10 {
			t.Errorf("too few flows have a slowest path of %d vertices", size)
		}
	}
	for _, f := range noFlows() {
		expect(t, fmt.Sprint("FlowPeriod ", f), "0 false [] false", gotSlowest(f))
	}
}

func TestFlowPeriodInItsCases(t *testing.T) {
	expect(t, "one vertex", "7 true [0] true", gotSlowest(flowOf([]int64{7})))
	expect(t, "one vertex without delay", "0 true [0] true", gotSlowest(flowOf([]int64{0})))
	expect(t, "a wire to the same vertex", "7 true [0] true", gotSlowest(flowOf([]int64{7}, wire(0, 0, 1))))
	expect(t, "vertices without wires", "9 true [1] true", gotSlowest(flowOf([]int64{7, 9, 8, 9})))
	expect(t, "registers everywhere", "5 true [2] true", gotSlowest(flowOf([]int64{3, 4, 5}, wire(0, 1, 1), wire(1, 2, 1), wire(2, 0, 1))))
	expect(t, "one vertex that is slower than a path", "9 true [2] true", gotSlowest(flowOf([]int64{3, 4, 9}, wire(0, 1, 0))))
	expect(t, "a path against the numbers", "7 true [1 0] true", gotSlowest(flowOf([]int64{3, 4}, wire(1, 0, 0))))
	expect(t, "one of two wires has a register", "7 true [0 1] true", gotSlowest(flowOf([]int64{3, 4}, wire(0, 1, 1), wire(0, 1, 0))))
	expect(t, "as long as there can be", "800 true [0 1 2 3 4 5 6 7] true", gotSlowest(rowFlow(8, 100, 0)))
	expect(t, "all around but for one register", "800 true [0 1 2 3 4 5 6 7] true", gotSlowest(turnFlow(8, 100, 1)))
}

func TestSlowestPathOfSeveral(t *testing.T) {
	expect(t, "no delays", "0 true [0] true", gotSlowest(rowFlow(4, 0, 0)))
	expect(t, "without the ends that have no delay", "9 true [1 2] true", gotSlowest(flowOf([]int64{0, 4, 5, 0}, wire(0, 1, 0), wire(1, 2, 0), wire(2, 3, 0))))
	expect(t, "over a vertex without delay", "9 true [0 1 2] true", gotSlowest(flowOf([]int64{4, 0, 5}, wire(0, 1, 0), wire(1, 2, 0))))
	expect(t, "around a vertex without delay", "9 true [0 2] true", gotSlowest(flowOf([]int64{4, 0, 5}, wire(0, 1, 0), wire(1, 2, 0), wire(0, 2, 0))))
	expect(t, "one vertex, not two lesser ones", "9 true [2] true", gotSlowest(flowOf([]int64{4, 5, 9}, wire(0, 1, 0))))
	expect(t, "the lesser vertex of two", "9 true [1] true", gotSlowest(flowOf([]int64{4, 9, 9})))
	expect(t, "the lesser vertex in the middle", "9 true [0 1 3] true", gotSlowest(flowOf([]int64{4, 2, 2, 3}, wire(0, 2, 0), wire(2, 3, 0), wire(0, 1, 0), wire(1, 3, 0))))
	expect(t, "the lesser vertex at the end", "7 true [0 2] true", gotSlowest(flowOf([]int64{4, 1, 3, 3}, wire(0, 3, 0), wire(0, 2, 0))))
	expect(t, "the lesser vertex at the beginning", "7 true [1 0] true", gotSlowest(flowOf([]int64{3, 4, 4}, wire(2, 0, 0), wire(1, 0, 0))))
	expect(t, "fewer vertices, though greater ones", "7 true [3 2] true", gotSlowest(flowOf([]int64{4, 0, 3, 4}, wire(0, 1, 0), wire(1, 2, 0), wire(3, 2, 0))))
}

func TestRegistersOf(t *testing.T) {
	for _, f := range allFlows() {
		sum := int64(0)
		for _, w := range f.Wires {
			sum += w.Count
		}
		expect(t, fmt.Sprint("RegistersOf ", f), fmt.Sprint(sum, true), call(impl.RegistersOf(f)))
	}
	for _, f := range noFlows() {
		expect(t, fmt.Sprint("RegistersOf ", f), "0 false", call(impl.RegistersOf(f)))
	}
	expect(t, "no wires", "0 true", call(impl.RegistersOf(flowOf([]int64{7}))))
	expect(t, "no registers", "0 true", call(impl.RegistersOf(rowFlow(8, 1, 0))))
	expect(t, "as many as there can be", "320 true", call(impl.RegistersOf(flowOf([]int64{7}, listOf(wire(0, 0, 20), 16)...))))
}

func TestFlowExamples(t *testing.T) {
	f := exampleFlow()
	expect(t, "SlowestPath", "12 true [0 1 2] true", gotSlowest(f))
	expect(t, "RegistersOf", "2 true", call(impl.RegistersOf(f)))
	expect(t, "ValidFlow", "true", impl.ValidFlow(f))
}
