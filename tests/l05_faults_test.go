package tests

import (
	"fmt"
	"math"
	"strings"
	"testing"

	"loop.example/g01153/impl"
)

// orderKeeps reports whether an order keeps a ratio, from its last letters on, if it does without the last one.
func orderKeeps(order string, ratio int64) bool {
	more := int(ratio) + 1
	return !strings.HasSuffix(order, strings.Repeat("s", more)) && !strings.HasSuffix(order, strings.Repeat("r", more))
}

// ordersOf yields the orders of at most so many steps that keep a ratio, by their length and then in their order.
func ordersOf(ratio int64, most int) func(yield func(string) bool) {
	return func(yield func(string) bool) {
		for orders := []string{""}; len(orders[0]) <= most; {
			var longer []string
			for _, order := range orders {
				if !yield(order) {
					return
				}
				for _, next := range []string{order + "r", order + "s"} {
					if orderKeeps(next, ratio) {
						longer = append(longer, next)
					}
				}
			}
			orders = longer
		}
	}
}

// firstOrder returns the first one of the orders of at most so many steps behind which the model of a link is such.
func firstOrder(l impl.Link, ratio int64, most int, isSuch func(linkModel) bool) (string, bool) {
	for order := range ordersOf(ratio, most) {
		if isSuch(playLink(l, order)) {
			return order, true
		}
	}
	return "", false
}

// rest tells what can become of a link from a state on.
type rest struct {
	isSafe bool
	fewest string // the best order to all words, if the link is safe
	most   int    // how many steps there are to all words at most, if the link is safe
}

// restOf tells what can become of a link behind an order, as the best of both next steps; it keeps what it has found.
func restOf(m linkModel, turn string, ratio int64, found map[string]rest) rest {
	if m.isFaulty() || len(m.words) == int(m.link.Words) {
		return rest{isSafe: !m.isFaulty()}
	}
	key := m.key() + turn
	if r, ok := found[key]; ok {
		return r
	}
	best := rest{isSafe: true, most: -1}
	for _, letter := range []string{"r", "s"} {
		next := letter
		if strings.HasPrefix(turn, letter) {
			next = turn + letter
		}
		if !orderKeeps(next, ratio) {
			continue
		}
		r := restOf(m.step(letter[0]), next, ratio, found)
		best.isSafe = best.isSafe && r.isSafe
		// The orders with r come first, so one with s must be shorter.
		if best.most < 0 || len(r.fewest)+1 < len(best.fewest) {
			best.fewest = letter + r.fewest
		}
		best.most = max(best.most, r.most+1)
	}
	found[key] = best
	return best
}

// wantOf returns the results that FewestSteps and MostSteps should have.
func wantOf(r rest) string {
	if !r.isSafe {
		return " false 0 false"
	}
	return call(r.fewest, true) + " " + call(r.most, true)
}

// eachLink calls visit with each valid link and each ratio.
func eachLink(visit func(l impl.Link, ratio int64)) {
	for _, l := range allLinks() {
		for ratio := int64(1); ratio <= impl.MaxRatio; ratio++ {
			visit(l, ratio)
		}
	}
}

func TestFirstFault(t *testing.T) {
	faults := map[string]int{}
	eachLink(func(l impl.Link, ratio int64) {
		order, isFaulty := firstOrder(l, ratio, 8, linkModel.isFaulty)
		faults[order]++
		expect(t, fmt.Sprint("FirstFault ", l, ratio), call(order, isFaulty), call(impl.FirstFault(l, ratio)))
		expect(t, fmt.Sprint("IsSafeLink ", l, ratio), fmt.Sprint(!isFaulty), impl.IsSafeLink(l, ratio))
	})
	for _, order := range []string{"", "sr", "srr", "srsr", "srrr", "srrsr"} {
		if faults[order] == 0 {
			t.Errorf("no link has the first fault %q", order)
		}
	}
}

func TestSafeLinksInLongOrders(t *testing.T) {
	for _, order := range longOrders() {
		eachLink(func(l impl.Link, ratio int64) {
			if impl.IsOrder(order, ratio) && impl.IsSafeLink(l, ratio) && playLink(l, order).isFaulty() {
				t.Errorf("%v with the ratio %d has a fault in %s", l, ratio, order)
			}
		})
	}
}

func TestFewestAndMostSteps(t *testing.T) {
	eachLink(func(l impl.Link, ratio int64) {
		r := restOf(linkModel{link: l}, "", ratio, map[string]rest{})
		expect(t, fmt.Sprint("IsSafeLink ", l, ratio), fmt.Sprint(r.isSafe), impl.IsSafeLink(l, ratio))
		expect(t, fmt.Sprint("FewestSteps and MostSteps ", l, ratio), wantOf(r), call(impl.FewestSteps(l, ratio)), call(impl.MostSteps(l, ratio)))
	})
}

func TestFewestAndMostStepsOfAllOrders(t *testing.T) {
	eachLink(func(l impl.Link, ratio int64) {
		if !impl.IsSafeLink(l, ratio) {
			return
		}
		hasAll := func(m linkModel) bool { return int64(len(m.words)) == l.Words }
		most, _ := impl.MostSteps(l, ratio)
		fewest, _ := impl.FewestSteps(l, ratio)
		if len(fewest) <= 10 {
			order, _ := firstOrder(l, ratio, 10, hasAll)
			expect(t, fmt.Sprint("FewestSteps ", l, ratio), order, fewest)
		}
		if most > 11 {
			return
		}
		longest := int64(0)
		for order := range ordersOf(ratio, 11) {
			if !hasAll(playLink(l, order)) {
				longest = int64(len(order)) + 1
			}
		}
		expect(t, fmt.Sprint("MostSteps ", l, ratio), fmt.Sprint(longest), most)
	})
}

func TestFewestAndMostStepsOfLargeLinks(t *testing.T) {
	for ratio, want := range map[int64]string{
		1: strings.Repeat("sr", 33) + " 67",
		2: strings.Repeat("srrsrsrs", 6) + "srrsr 107",
		3: strings.Repeat("srrrss", 6) + "srrr 147",
		4: strings.Repeat("srrrss", 6) + "srrr 187",
	} {
		l := linkOf(4, 2, 0, 4)
		fewest, _ := impl.FewestSteps(l, ratio)
		most, _ := impl.MostSteps(l, ratio)
		expect(t, fmt.Sprint("steps with the ratio ", ratio), want, fewest, most)
	}
}

func TestLinksWithoutWords(t *testing.T) {
	eachLink(func(l impl.Link, ratio int64) {
		l.Words = 0
		expect(t, fmt.Sprint("a link without words ", l, ratio), "true  false  true 0 true", impl.IsSafeLink(l, ratio), call(impl.FirstFault(l, ratio)), call(impl.FewestSteps(l, ratio)), call(impl.MostSteps(l, ratio)))
	})
}

// failsForLink checks that all functions with a link and a ratio fail.
func failsForLink(t *testing.T, l impl.Link, ratio int64) {
	t.Helper()
	expect(t, fmt.Sprint("a link ", l, ratio), "false  false  false 0 false", impl.IsSafeLink(l, ratio), call(impl.FirstFault(l, ratio)), call(impl.FewestSteps(l, ratio)), call(impl.MostSteps(l, ratio)))
}

func TestLinkFunctionsFail(t *testing.T) {
	for _, l := range noLinks() {
		for ratio := range int64(6) {
			failsForLink(t, l, ratio)
		}
	}
	for _, ratio := range []int64{math.MinInt64, -1, 0, impl.MaxRatio + 1, math.MaxInt64} {
		for _, l := range allLinks() {
			failsForLink(t, l, ratio)
		}
	}
}

func TestFaultExamples(t *testing.T) {
	expect(t, "the skew 1 and the ratio 1", "sr true", call(impl.FirstFault(linkOf(4, 0, 1, 1), 1)))
	expect(t, "one stage and the skew 1", " false", call(impl.FirstFault(linkOf(4, 1, 1, 1), 1)))
	expect(t, "one stage and the skew 1", "true false", impl.IsSafeLink(linkOf(4, 1, 1, 1), 1), impl.IsSafeLink(linkOf(4, 1, 1, 1), 2))
	expect(t, "one word", "sr true", call(impl.FewestSteps(linkOf(4, 0, 0, 1), 2)))
	expect(t, "one word", "3 true", call(impl.MostSteps(linkOf(4, 0, 0, 1), 1)))
	expect(t, "not safe", " false 0 false", call(impl.FewestSteps(linkOf(4, 0, 1, 1), 1)), call(impl.MostSteps(linkOf(4, 0, 1, 1), 1)))
}
