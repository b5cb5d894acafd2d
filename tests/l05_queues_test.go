package tests

import (
	"fmt"
	"math"
	"math/big"
	"slices"
	"strings"
	"testing"

	"loop.example/g01153/impl"
)

// queueOf returns a queue with these fields, valid or not.
func queueOf(depth, reflected int64) impl.Queue {
	return impl.Queue{Depth: depth, Reflected: reflected}
}

// allQueues are all valid queues.
func allQueues() []impl.Queue {
	return []impl.Queue{queueOf(2, 0), queueOf(2, 1), queueOf(4, 0), queueOf(4, 1)}
}

// noQueues are queues that are not valid.
func noQueues() []impl.Queue {
	return []impl.Queue{{}, queueOf(0, 1), queueOf(1, 0), queueOf(1, 1), queueOf(3, 0), queueOf(3, 1), queueOf(5, 1), queueOf(8, 1), queueOf(-2, 1), queueOf(-4, 0), queueOf(math.MinInt64, 0), queueOf(math.MaxInt64, 1),
		queueOf(2, -1), queueOf(2, 2), queueOf(4, -1), queueOf(4, 2), queueOf(4, math.MinInt64), queueOf(2, math.MaxInt64)}
}

// heldOf returns what RunQueue should: each side knows the true count of the other one behind its own last step.
func heldOf(depth int64, order string) []int64 {
	var held []int64
	var written, read, writtenThen, readThen int64
	for _, letter := range order {
		if letter == 's' {
			if written-readThen < depth {
				written++
			}
			readThen = read
		} else {
			if writtenThen > read {
				read++
			}
			writtenThen = written
		}
		held = append(held, written-read)
	}
	return held
}

// codesOf are the codes of a queue, one for each number.
func codesOf(q impl.Queue) []int {
	codes := []int{0, 1, 2, 3, 4, 5, 6, 7}
	if q.Reflected == 1 {
		codes = []int{0, 1, 3, 2, 6, 7, 5, 4}
	}
	return codes[:2*q.Depth]
}

// queueModel is a queue with counts that grow, and the numbers of copies.
type queueModel struct {
	written, read int
	toWriter      int // the number of the writer's copy
	toReader      int
}

// mixed are the numbers that can be those of a copy of a count: each bit of its code is that of the count or of the one before.
func mixed(q impl.Queue, count int) []int {
	codes := codesOf(q)
	now := codes[count%len(codes)]
	before := now
	if count > 0 {
		before = codes[(count-1)%len(codes)]
	}
	var numbers []int
	for number, code := range codes {
		isMixed := true
		for _, bit := range []int{1, 2, 4} {
			isMixed = isMixed && (code&bit == now&bit || code&bit == before&bit)
		}
		if isMixed {
			numbers = append(numbers, number)
		}
	}
	return numbers
}

// after are the models behind a step of a queue.
func (m queueModel) after(q impl.Queue, letter byte) []queueModel {
	var next []queueModel
	depth := int(q.Depth)
	if letter == 's' {
		if (m.written-m.toWriter+1000*depth)%(2*depth) < depth {
			m.written++
		}
		for _, m.toWriter = range mixed(q, m.read) {
			next = append(next, m)
		}
		return next
	}
	if ahead := (m.toReader - m.read + 1000*depth) % (2 * depth); ahead >= 1 && ahead <= depth {
		m.read++
	}
	for _, m.toReader = range mixed(q, m.written) {
		next = append(next, m)
	}
	return next
}

// isFaulty reports whether a queue holds too few or too many words.
func (m queueModel) isFaulty(q impl.Queue) bool {
	return m.written < m.read || m.written-m.read > int(q.Depth)
}

// playQueue returns the models of a queue to which an order can lead.
func playQueue(q impl.Queue, order string) map[queueModel]bool {
	models := map[queueModel]bool{{}: true}
	for i := range len(order) {
		next := map[queueModel]bool{}
		for m := range models {
			for _, n := range m.after(q, order[i]) {
				next[n] = true
			}
		}
		models = next
	}
	return models
}

// firstQueueFault returns the first order of at most so many steps that can lead to a fault.
func firstQueueFault(q impl.Queue, most int) (string, bool) {
	for order := range ordersOf(impl.MaxOrder, most) {
		for m := range playQueue(q, order) {
			if m.isFaulty(q) {
				return order, true
			}
		}
	}
	return "", false
}

func TestValidQueue(t *testing.T) {
	for _, q := range allQueues() {
		expect(t, fmt.Sprint("ValidQueue ", q), "true", impl.ValidQueue(q))
	}
	for _, q := range noQueues() {
		expect(t, fmt.Sprint("ValidQueue ", q), "false", impl.ValidQueue(q))
	}
}

func TestRunQueue(t *testing.T) {
	for _, q := range allQueues() {
		for order := range allTexts("sr", 11) {
			expect(t, fmt.Sprint("RunQueue ", q, order), call(heldOf(q.Depth, order), true), call(impl.RunQueue(q, order)))
		}
		for _, order := range longOrders() {
			expect(t, fmt.Sprint("RunQueue ", q, order), call(heldOf(q.Depth, order), true), call(impl.RunQueue(q, order)))
		}
	}
}

func TestRunQueueInItsCases(t *testing.T) {
	for _, q := range []impl.Queue{queueOf(2, 0), queueOf(2, 1)} {
		expect(t, "no steps", "[] true", call(impl.RunQueue(q, "")))
		expect(t, "full, then empty", "[1 2 2 2 1 0] true", call(impl.RunQueue(q, "sssrrr")))
		expect(t, "nothing to read", "[0 0 0] true", call(impl.RunQueue(q, "rrr")))
		expect(t, "a reader sees a word behind its next step", "[1 1 0] true", call(impl.RunQueue(q, "srr")))
		expect(t, "a writer sees a place behind its next step", "[1 2 2 1 1 2] true", call(impl.RunQueue(q, "ssrrss")))
	}
	expect(t, "a deeper queue", "[1 2 3 4 4 4] true", call(impl.RunQueue(queueOf(4, 0), "ssssss")))
}

func TestRunQueueFails(t *testing.T) {
	for _, q := range noQueues() {
		for _, order := range []string{"", "sr", "x"} {
			expect(t, fmt.Sprint("RunQueue ", q, order), "[] false", call(impl.RunQueue(q, order)))
		}
	}
	for _, order := range noOrders() {
		for _, q := range allQueues() {
			expect(t, fmt.Sprintf("RunQueue %v %q", q, order), "[] false", call(impl.RunQueue(q, order)))
		}
	}
}

func TestQueueFault(t *testing.T) {
	for _, q := range allQueues() {
		order, isFaulty := firstQueueFault(q, 9)
		expect(t, fmt.Sprint("QueueFault ", q), call(order, isFaulty), call(impl.QueueFault(q)))
		expect(t, fmt.Sprint("IsSafeQueue ", q), fmt.Sprint(!isFaulty), impl.IsSafeQueue(q))
		expect(t, fmt.Sprint("IsSafeQueue ", q), fmt.Sprint(q.Reflected == 1), impl.IsSafeQueue(q))
	}
	for _, q := range noQueues() {
		expect(t, fmt.Sprint("QueueFault ", q), " false false", call(impl.QueueFault(q)), impl.IsSafeQueue(q))
	}
}

func TestReflectedQueuesInLongOrders(t *testing.T) {
	for _, q := range []impl.Queue{queueOf(2, 1), queueOf(4, 1)} {
		for _, order := range longOrders() {
			for m := range playQueue(q, order) {
				if m.isFaulty(q) {
					t.Errorf("%v has a fault in %s", q, order)
				}
			}
		}
	}
}

func TestQueueExamples(t *testing.T) {
	expect(t, "a queue that is not reflected", "srsrrr true", call(impl.QueueFault(queueOf(2, 0))))
	expect(t, "a reflected queue", " false", call(impl.QueueFault(queueOf(2, 1))))
	expect(t, "a deeper queue", "srsrrr true", call(impl.QueueFault(queueOf(4, 0))))
}

// power returns the product of so many numbers p.
func power(p impl.Fraction, times int64) *big.Rat {
	product := big.NewRat(1, 1)
	for range times {
		product.Mul(product, big.NewRat(p.Num, p.Den))
	}
	return product
}

func TestFailChance(t *testing.T) {
	chances := []impl.Fraction{ratio(0, 1), ratio(1, 1), ratio(1, 2), ratio(1, 10), ratio(3, 10), ratio(9, 10), ratio(1, 13), ratio(12, 13), ratio(1, 14), ratio(1, 1000000000), ratio(1, 1000000001), ratio(1, impl.MaxPart), ratio(impl.MaxPart-1, impl.MaxPart)}
	for _, p := range slices.Concat(chances, someFractions()) {
		for stages := int64(-1); stages <= 17; stages++ {
			want := "{0 0} false"
			if stages >= 0 && stages <= 16 && p.Num >= 0 && p.Num <= p.Den {
				want = resultOf(power(p, stages))
			}
			expect(t, fmt.Sprint("FailChance ", p, stages), want, call(impl.FailChance(p, stages)))
		}
	}
}

func TestFailChanceLimits(t *testing.T) {
	expect(t, "no stages", "{1 1} true {1 1} true", call(impl.FailChance(ratio(0, 1), 0)), call(impl.FailChance(ratio(1, impl.MaxPart), 0)))
	expect(t, "all stages", "{1 65536} true {1 665416609183179841} true", call(impl.FailChance(ratio(1, 2), 16)), call(impl.FailChance(ratio(1, 13), 16)))
	expect(t, "too small a chance", "{0 0} false {0 0} false", call(impl.FailChance(ratio(1, 14), 16)), call(impl.FailChance(ratio(1, impl.MaxPart), 2)))
	expect(t, "the smallest chance", "{1 1000000000000000000} true {0 0} false", call(impl.FailChance(ratio(1, 1000000000), 2)), call(impl.FailChance(ratio(1, 1000000001), 2)))
	expect(t, "a stage too many", "{0 0} false {1 1} true {0 0} false", call(impl.FailChance(ratio(1, 1), 17)), call(impl.FailChance(ratio(1, 1), 16)), call(impl.FailChance(ratio(0, 1), 17)))
	expect(t, "more than 1, and less than 0", "{0 0} false {0 0} false", call(impl.FailChance(ratio(3, 2), 1)), call(impl.FailChance(ratio(-1, 2), 2)))
	expect(t, "three stages", "{1 1000} true", call(impl.FailChance(ratio(1, 10), 3)))
	for _, stages := range []int64{math.MinInt64, -1, 17, math.MaxInt64} {
		expect(t, fmt.Sprint("FailChance with stages ", stages), "{0 0} false", call(impl.FailChance(ratio(1, 2), stages)))
	}
	for _, p := range noFractions() {
		expect(t, fmt.Sprint("FailChance ", p), strings.Repeat("{0 0} false ", 2)+"{0 0} false", call(impl.FailChance(p, 0)), call(impl.FailChance(p, 1)), call(impl.FailChance(p, 16)))
	}
}
