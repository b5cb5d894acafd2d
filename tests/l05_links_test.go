package tests

import (
	"fmt"
	"math"
	"math/rand"
	"slices"
	"strings"
	"testing"

	"loop.example/g01153/impl"
)

// linkOf returns a link with these fields, valid or not.
func linkOf(phases, stages, skew, words int64) impl.Link {
	return impl.Link{Phases: phases, Stages: stages, Skew: skew, Words: words}
}

// allLinks are all valid links.
func allLinks() []impl.Link {
	var list []impl.Link
	for _, phases := range []int64{2, 4} {
		for stages := range int64(impl.MaxStages + 1) {
			for skew := range int64(impl.MaxSkew + 1) {
				for words := range int64(impl.MaxWords + 1) {
					list = append(list, linkOf(phases, stages, skew, words))
				}
			}
		}
	}
	return list
}

// noLinks are links that are not valid.
func noLinks() []impl.Link {
	return []impl.Link{{}, linkOf(0, 0, 0, 1), linkOf(1, 0, 0, 1), linkOf(3, 0, 0, 1), linkOf(5, 0, 0, 1), linkOf(6, 0, 0, 1), linkOf(-2, 0, 0, 1), linkOf(-4, 0, 0, 1), linkOf(math.MinInt64, 0, 0, 0), linkOf(math.MaxInt64, 0, 0, 0),
		linkOf(2, -1, 0, 1), linkOf(2, impl.MaxStages+1, 0, 1), linkOf(4, math.MinInt64, 0, 1), linkOf(4, math.MaxInt64, 0, 1),
		linkOf(2, 0, -1, 1), linkOf(2, 0, impl.MaxSkew+1, 1), linkOf(4, 0, math.MinInt64, 1), linkOf(4, 0, math.MaxInt64, 1),
		linkOf(2, 0, 0, -1), linkOf(2, 0, 0, impl.MaxWords+1), linkOf(4, 0, 0, math.MinInt64), linkOf(4, 0, 0, math.MaxInt64)}
}

// noOrders are texts that are no orders of steps.
func noOrders() []string {
	return []string{"a", "S", "R", "sR", "sr ", " sr", "s r", "sr\n", "s,r", "srsx", "xsrs", "01", "none", "\x00", "\xff", "é", "ｓ",
		strings.Repeat("s", impl.MaxOrder+1), strings.Repeat("rs", impl.MaxOrder/2) + "r", strings.Repeat("s", impl.MaxOrder-1) + "x"}
}

// longOrders are orders with as many steps as an order can have.
func longOrders() []string {
	list := []string{strings.Repeat("s", impl.MaxOrder), strings.Repeat("r", impl.MaxOrder), strings.Repeat("sr", impl.MaxOrder/2), strings.Repeat("rs", impl.MaxOrder/2), strings.Repeat("sssr", impl.MaxOrder/4), strings.Repeat("srrr", impl.MaxOrder/4)}
	source := rand.New(rand.NewSource(8))
	for limit := range 4 {
		for range 5 {
			list = append(list, anyOrder(source, limit+1))
		}
	}
	return list
}

// anyOrder returns an order of MaxOrder steps that a source chooses and that keeps a ratio.
func anyOrder(source *rand.Rand, ratio int) string {
	order := ""
	for len(order) < impl.MaxOrder {
		next := order + string("sr"[source.Intn(2)])
		if !strings.HasSuffix(next, strings.Repeat("s", ratio+1)) && !strings.HasSuffix(next, strings.Repeat("r", ratio+1)) {
			order = next
		}
	}
	return order
}

// linkModel tells a link by times: a side sees what the other side had set as many of its own steps before as there are stages,
// and a word is in its place from as many steps of the sender on behind the one that sent it as the skew is, unless another one was sent in between.
type linkModel struct {
	link              impl.Link
	request, answer   int64
	requests, answers []int64 // the request at each step of the receiver, and the answer at each step of the sender
	sends             []int   // the steps of the sender that sent words
	words             []int64
}

// ago returns the number so many places before the last one of a list, or 0 if there is none.
func ago(list []int64, steps int64) int64 {
	if place := len(list) - 1 - int(steps); place >= 0 {
		return list[place]
	}
	return 0
}

// placed returns the word that is in its place behind so many steps of the sender.
func (m linkModel) placed(steps int) int64 {
	for word, sent := range slices.Backward(m.sends) {
		comes := sent + int(m.link.Skew)
		isLost := word+1 < len(m.sends) && m.sends[word+1] < comes
		if comes < steps && !isLost {
			return int64(word)
		}
	}
	return -1
}

// step returns the model behind a step.
func (m linkModel) step(letter byte) linkModel {
	if letter == 's' {
		m.answers = append(slices.Clone(m.answers), m.answer)
		seen := ago(m.answers, m.link.Stages)
		sends := seen == m.request && int64(len(m.sends)) < m.link.Words
		if m.link.Phases == 4 {
			sends = sends && m.request == 0
			m.request = m.request * (1 - seen)
		}
		if sends {
			m.request = 1 - m.request
			m.sends = append(slices.Clone(m.sends), len(m.answers)-1)
		}
		return m
	}
	m.requests = append(slices.Clone(m.requests), m.request)
	seen := ago(m.requests, m.link.Stages)
	if seen != m.answer && (seen == 1 || m.link.Phases == 2) {
		m.words = append(slices.Clone(m.words), m.placed(len(m.answers)))
	}
	m.answer = seen
	return m
}

// key tells apart models with another future.
func (m linkModel) key() string {
	var tails []int64
	for stage := range m.link.Stages {
		tails = append(tails, ago(m.requests, stage), ago(m.answers, stage))
	}
	for step := range int(m.link.Skew) + 1 {
		tails = append(tails, m.placed(len(m.answers)+step))
	}
	return fmt.Sprint(m.request, m.answer, tails, len(m.sends), m.words)
}

// isFaulty reports whether the words that have been taken are not 0, 1 and so on.
func (m linkModel) isFaulty() bool {
	for i, word := range m.words {
		if int64(i) != word || word >= m.link.Words {
			return true
		}
	}
	return false
}

// playLink returns the model of a link behind an order.
func playLink(l impl.Link, order string) linkModel {
	m := linkModel{link: l}
	for i := range len(order) {
		m = m.step(order[i])
	}
	return m
}

// runLink writes the results of RunLink.
func runLink(l impl.Link, order string) string {
	words, sent, ok := impl.RunLink(l, order)
	return fmt.Sprint(words, sent, ok)
}

func TestCrossingLimits(t *testing.T) {
	expect(t, "limits", "2 2 4 4 300", impl.MaxStages, impl.MaxSkew, impl.MaxWords, impl.MaxRatio, impl.MaxOrder)
}

func TestValidLink(t *testing.T) {
	for _, l := range allLinks() {
		expect(t, fmt.Sprint("ValidLink ", l), "true", impl.ValidLink(l))
	}
	for _, l := range noLinks() {
		expect(t, fmt.Sprint("ValidLink ", l), "false", impl.ValidLink(l))
	}
}

func TestIsOrder(t *testing.T) {
	for order := range allTexts("sr", 9) {
		most := 0
		for letter := range strings.SplitSeq("s r", " ") {
			for length := 1; strings.Contains(order, strings.Repeat(letter, length)); length++ {
				most = max(most, length)
			}
		}
		for ratio := range int64(7) {
			want := ratio >= 1 && ratio <= impl.MaxRatio && int64(most) <= ratio
			expect(t, fmt.Sprint("IsOrder ", order, ratio), fmt.Sprint(want), impl.IsOrder(order, ratio))
		}
	}
	for _, ratio := range []int64{math.MinInt64, -1, 0, impl.MaxRatio + 1, 300, math.MaxInt64} {
		expect(t, fmt.Sprint("IsOrder with the ratio ", ratio), "false false", impl.IsOrder("", ratio), impl.IsOrder("sr", ratio))
	}
	for _, order := range noOrders() {
		for ratio := range int64(6) {
			expect(t, fmt.Sprintf("IsOrder %q %d", order, ratio), "false", impl.IsOrder(order, ratio))
		}
	}
}

func TestIsOrderOfLimits(t *testing.T) {
	for ratio := range int64(impl.MaxRatio) {
		block := strings.Repeat("s", int(ratio)+1) + strings.Repeat("r", int(ratio)+1)
		order := strings.Repeat(block, impl.MaxOrder)[:impl.MaxOrder]
		expect(t, "MaxOrder letters", "false true", impl.IsOrder(order, ratio), impl.IsOrder(order, ratio+1))
		more := strings.Repeat(block, impl.MaxOrder)[:impl.MaxOrder+1]
		expect(t, "a letter more", "false", impl.IsOrder(more, ratio+1))
	}
}

func TestRunLink(t *testing.T) {
	for _, l := range allLinks() {
		for order := range allTexts("sr", 9) {
			m := playLink(l, order)
			expect(t, fmt.Sprint("RunLink ", l, order), fmt.Sprint(m.words, len(m.sends), true), runLink(l, order))
		}
		for _, order := range longOrders() {
			m := playLink(l, order)
			expect(t, fmt.Sprint("RunLink ", l, order), fmt.Sprint(m.words, len(m.sends), true), runLink(l, order))
		}
	}
}

func TestRunLinkFails(t *testing.T) {
	for _, l := range noLinks() {
		for _, order := range []string{"", "sr", "x"} {
			expect(t, fmt.Sprint("RunLink ", l, order), "[] 0 false", runLink(l, order))
		}
	}
	for _, order := range noOrders() {
		for _, l := range []impl.Link{linkOf(2, 0, 0, 0), linkOf(2, 0, 0, 1), linkOf(4, 2, 2, 4)} {
			expect(t, fmt.Sprintf("RunLink %v %q", l, order), "[] 0 false", runLink(l, order))
		}
	}
}

func TestRunLinkExamples(t *testing.T) {
	expect(t, "no stages and no skew", "[0] 1 true", runLink(linkOf(4, 0, 0, 1), "sr"))
	expect(t, "the skew 1", "[-1] 1 true", runLink(linkOf(4, 0, 1, 1), "sr"))
	expect(t, "one stage", "[0] 1 true", runLink(linkOf(4, 1, 0, 1), "srr"))
	expect(t, "one stage, too early", "[] 1 true", runLink(linkOf(4, 1, 0, 1), "sr"))
}

func TestRunLinkInItsCases(t *testing.T) {
	expect(t, "no steps", "[] 0 true", runLink(linkOf(4, 0, 0, 4), ""))
	expect(t, "no words", "[] 0 true", runLink(linkOf(2, 0, 0, 0), "srsrsrssrr"))
	expect(t, "as many words as there are", "[0 1 2 3] 4 true", runLink(linkOf(2, 0, 0, 4), strings.Repeat("sr", 9)))
	expect(t, "a request stays until it is seen", "[] 1 true", runLink(linkOf(2, 0, 0, 4), "sssssss"))
	expect(t, "four phases", "[0 1] 2 true", runLink(linkOf(4, 0, 0, 4), "srsrsr"))
	expect(t, "two phases", "[0 1 2] 3 true", runLink(linkOf(2, 0, 0, 4), "srsrsr"))
	expect(t, "the skew 1 behind one step", "[0] 1 true", runLink(linkOf(2, 0, 1, 1), "ssr"))
	expect(t, "the skew 2 behind one step", "[-1] 1 true", runLink(linkOf(2, 0, 2, 1), "ssr"))
	expect(t, "the skew 2 behind two steps", "[0] 1 true", runLink(linkOf(2, 0, 2, 1), "sssr"))
	expect(t, "in the place of one that still was on its way", "[-1 1] 2 true", runLink(linkOf(2, 0, 2, 4), "srsssr"))
	expect(t, "on its way behind one that is in its place", "[-1 0] 2 true", runLink(linkOf(4, 0, 2, 4), "srsrsr"))
	expect(t, "an old word again", "[0 0] 2 true", runLink(linkOf(2, 0, 1, 4), "ssrsr"))
	expect(t, "a stage moves with steps of its own side only", "[] 1 true", runLink(linkOf(2, 2, 0, 4), "srrssssss"))
	expect(t, "a stage of the sender", "[0] 1 true", runLink(linkOf(2, 1, 0, 4), "srrs"))
	expect(t, "a stage of the sender, one step later", "[0] 2 true", runLink(linkOf(2, 1, 0, 4), "srrss"))
}
