package tests

import (
	"fmt"
	"math/big"
	"slices"
	"testing"

	"loop.example/g01153/impl"
)

// moreClocks are lists with as many clocks as there can be, or nearly so many.
func moreClocks() [][]impl.Clock {
	return [][]impl.Clock{
		{clock(2, 1), clock(3, 2), clock(4, 3), clock(5, 4), clock(6, 5), clock(7, 6)},
		{clock(2, 0), clock(3, 0), clock(4, 0), clock(5, 0), clock(6, 0), clock(7, 7)},
		{clock(2, 0), clock(3, 0), clock(4, 0), clock(5, 0), clock(6, 3), clock(7, 0)},
		{clock(1, 8), clock(1, 3), clock(2, 4), clock(1, 0), clock(1, 9), clock(3, 1)},
		{clock(9, 5), clock(6, 2), clock(12, 8), clock(4, 0), clock(8, 4)},
		{clock(9, 5), clock(6, 2), clock(12, 8), clock(4, 0), clock(8, 0)},
		{clock(10, 3), clock(15, 8), clock(6, 5), clock(25, 23)},
		{clock(5, 5), clock(5, 5), clock(5, 0), clock(5, 10), clock(5, 5), clock(5, 0)},
		{clock(5, 5), clock(5, 5), clock(5, 0), clock(5, 10), clock(5, 5), clock(5, 4)},
	}
}

// clockLists are lists of clocks with small parts.
func clockLists() [][]impl.Clock {
	lists := moreClocks()
	for _, a := range clocksTo(7, 9) {
		lists = append(lists, []impl.Clock{a})
		for _, b := range clocksTo(7, 9) {
			lists = append(lists, []impl.Clock{a, b})
		}
	}
	for _, a := range clocksTo(4, 3) {
		for _, b := range clocksTo(6, 4) {
			for _, c := range clocksTo(5, 3) {
				lists = append(lists, []impl.Clock{a, b, c})
			}
		}
	}
	return lists
}

// haveEdge reports whether all clocks have an edge at a moment.
func haveEdge(clocks []impl.Clock, moment int64) bool {
	for _, c := range clocks {
		if !isEdge(c, moment) {
			return false
		}
	}
	return true
}

// periodOfAll returns the least number that all periods divide, found one by one.
func periodOfAll(clocks []impl.Clock) int64 {
	common := int64(1)
	for slices.ContainsFunc(clocks, func(c impl.Clock) bool { return common%c.Period != 0 }) {
		common++
	}
	return common
}

func TestMeetingsOfSmallClocks(t *testing.T) {
	for _, clocks := range clockLists() {
		what := fmt.Sprint(clocks)
		common := periodOfAll(clocks)
		expect(t, "CommonPeriod "+what, fmt.Sprint(common, true), call(impl.CommonPeriod(clocks)))
		last := int64(0)
		for _, c := range clocks {
			last = max(last, c.Offset)
		}
		// Behind the last offset, all comes again after the common period.
		want := "0 false"
		for moment := last + common - 1; moment >= 0; moment-- {
			if haveEdge(clocks, moment) {
				want = fmt.Sprint(moment, true)
			}
		}
		expect(t, "FirstMeeting "+what, want, call(impl.FirstMeeting(clocks)))
	}
}

// meetingWithin returns what FirstMeeting should, by remainders of large numbers.
func meetingWithin(clocks []impl.Clock) string {
	moment, period := new(big.Int), big.NewInt(1)
	last := new(big.Int)
	for _, c := range clocks {
		by, offset := big.NewInt(c.Period), big.NewInt(c.Offset)
		common := new(big.Int).GCD(nil, nil, period, by)
		late := new(big.Int).Sub(offset, moment)
		if new(big.Int).Rem(late, common).Sign() != 0 {
			return "0 false"
		}
		turns := new(big.Int).Div(by, common)
		inverse := new(big.Int).ModInverse(new(big.Int).Div(period, common), turns)
		if turns.Cmp(big.NewInt(1)) == 0 {
			inverse = new(big.Int)
		}
		steps := new(big.Int).Mul(new(big.Int).Div(late, common), inverse)
		moment.Add(moment, steps.Mod(steps, turns).Mul(steps, period))
		period.Mul(period, turns)
		if offset.Cmp(last) > 0 {
			last = offset
		}
	}
	// The first one that is not before any offset.
	moment.Sub(moment, last)
	moment.Mod(moment, period).Add(moment, last)
	if moment.Cmp(big.NewInt(impl.MaxMoment)) > 0 {
		return "0 false"
	}
	return fmt.Sprint(moment, true)
}

// commonWithin returns what CommonPeriod should.
func commonWithin(clocks []impl.Clock) string {
	common := big.NewInt(1)
	for _, c := range clocks {
		by := big.NewInt(c.Period)
		common.Mul(common, new(big.Int).Div(by, new(big.Int).GCD(nil, nil, common, by)))
	}
	if common.Cmp(big.NewInt(impl.MaxMoment)) > 0 {
		return "0 false"
	}
	return fmt.Sprint(common, true)
}

// clocksThrough returns clocks with these periods that all have an edge at a moment, which is not before any of them.
func clocksThrough(moment int64, periods ...int64) []impl.Clock {
	var clocks []impl.Clock
	for _, period := range periods {
		clocks = append(clocks, clock(period, moment%period))
	}
	return clocks
}

// largeLists are lists of large clocks, many of which meet late or never.
func largeLists() [][]impl.Clock {
	periods := [][]int64{
		{99991, 99989, 99971, 99961, 99929, 99923}, {99991, 99989, 99971}, {99991, 99989}, {100000, 99999, 99998, 99997, 99996, 99995},
		{65536, 78125, 59049, 16807, 14641, 28561}, {90090, 30030, 60060, 100000, 72072, 98280}, {100000, 50000, 25000, 12500, 6250, 3125},
		{100000, 100000}, {100000}, {1, 1, 99991, 1, 99989, 2}, {65536, 32768, 99991, 99989, 3}, {46368, 75025, 28657}, {69307, 48581, 297}, {87790, 94139, 121},
	}
	var lists [][]impl.Clock
	for _, list := range periods {
		for _, moment := range []int64{0, 1, 99999, 100000, 100001, 4999999999, 999999999998, impl.MaxMoment - 1, impl.MaxMoment, impl.MaxMoment + 1, impl.MaxMoment + 99999, 123456789012345678} {
			clocks := clocksThrough(moment, list...)
			reversed := slices.Clone(clocks)
			slices.Reverse(reversed)
			lists = append(lists, clocks, reversed)
			for i := range clocks {
				// One clock that begins a period later, and one that is beside the meeting.
				later, beside := slices.Clone(clocks), slices.Clone(clocks)
				later[i].Offset += later[i].Period
				beside[i].Offset++
				lists = append(lists, later, beside)
			}
		}
	}
	return slices.DeleteFunc(lists, func(clocks []impl.Clock) bool {
		return slices.ContainsFunc(clocks, func(c impl.Clock) bool { return c.Offset > impl.MaxCycle })
	})
}

func TestMeetingsOfLargeClocks(t *testing.T) {
	found := map[bool]int{}
	for _, clocks := range largeLists() {
		what := fmt.Sprint(clocks)
		expect(t, "CommonPeriod "+what, commonWithin(clocks), call(impl.CommonPeriod(clocks)))
		expect(t, "FirstMeeting "+what, meetingWithin(clocks), call(impl.FirstMeeting(clocks)))
		_, ok := impl.FirstMeeting(clocks)
		found[ok]++
	}
	if found[true] < 100 || found[false] < 100 {
		t.Errorf("too few lists meet, or too many: %v", found)
	}
}

func TestMeetingsInAnyOrder(t *testing.T) {
	for _, clocks := range append(moreClocks(), largeLists()[:60]...) {
		want := call(impl.FirstMeeting(clocks))
		common := call(impl.CommonPeriod(clocks))
		for range clocks {
			clocks = append(slices.Clone(clocks[1:]), clocks[0])
			for i := 1; i < len(clocks); i++ {
				swapped := slices.Clone(clocks)
				swapped[0], swapped[i] = swapped[i], swapped[0]
				expect(t, fmt.Sprint("FirstMeeting ", swapped), want, call(impl.FirstMeeting(swapped)))
				expect(t, fmt.Sprint("CommonPeriod ", swapped), common, call(impl.CommonPeriod(swapped)))
			}
		}
	}
}

func TestLimitsOfMeetings(t *testing.T) {
	primes := []int64{99991, 99989, 99971, 99961, 99929, 99923}
	for count := 3; count <= impl.MaxClocks; count++ {
		// The product of three of the periods is greater than MaxMoment, so that there is no other meeting before.
		expect(t, "a meeting at the last moment", "1000000000000 true", call(impl.FirstMeeting(clocksThrough(impl.MaxMoment, primes[:count]...))))
		expect(t, "a meeting behind the last moment", "0 false", call(impl.FirstMeeting(clocksThrough(impl.MaxMoment+1, primes[:count]...))))
		expect(t, "a meeting at 0", "0 true", call(impl.FirstMeeting(clocksThrough(0, primes[:count]...))))
		expect(t, "a meeting at 99990", "99990 true", call(impl.FirstMeeting(clocksThrough(99990, primes[:count]...))))
		expect(t, "no common period", "0 false", call(impl.CommonPeriod(clocksThrough(0, primes[:count]...))))
	}
	// No common period is just MaxMoment, as 5 to the twelfth divides no period; these are the nearest ones.
	expect(t, "the greatest common period", "999999999999 true", call(impl.CommonPeriod(clocksThrough(0, 69307, 48581, 297))))
	expect(t, "a greater common period", "0 false", call(impl.CommonPeriod(clocksThrough(0, 87790, 94139, 121))))
	late := clocksThrough(0, 69307, 48581, 297)
	late[0].Offset = 69307
	expect(t, "one behind the greatest common period", "999999999999 true", call(impl.FirstMeeting(late)))
	late = clocksThrough(0, 87790, 94139, 121)
	late[2].Offset = 121
	expect(t, "one behind a greater common period", "0 false", call(impl.FirstMeeting(late)))
	late = clocksThrough(1, 69307, 48581, 297)
	late[0].Offset += 69307
	expect(t, "one at the last moment behind a common period", "1000000000000 true", call(impl.FirstMeeting(late)))
	late = clocksThrough(2, 69307, 48581, 297)
	late[0].Offset += 69307
	expect(t, "one behind the last moment", "0 false", call(impl.FirstMeeting(late)))
}

func TestNumbersOfClocks(t *testing.T) {
	expect(t, "CommonPeriod of none", "0 false", call(impl.CommonPeriod(nil)))
	expect(t, "FirstMeeting of none", "0 false", call(impl.FirstMeeting([]impl.Clock{})))
	most := listOf(clock(4, 3), impl.MaxClocks)
	expect(t, "CommonPeriod of 6", "4 true", call(impl.CommonPeriod(most)))
	expect(t, "FirstMeeting of 6", "3 true", call(impl.FirstMeeting(most)))
	more := listOf(clock(4, 3), impl.MaxClocks+1)
	expect(t, "CommonPeriod of 7", "0 false", call(impl.CommonPeriod(more)))
	expect(t, "FirstMeeting of 7", "0 false", call(impl.FirstMeeting(more)))
	expect(t, "CommonPeriod of one", "100000 true", call(impl.CommonPeriod([]impl.Clock{clock(impl.MaxCycle, 0)})))
	expect(t, "FirstMeeting of one", "100000 true", call(impl.FirstMeeting([]impl.Clock{clock(1, impl.MaxCycle)})))
}

func TestMeetingExamples(t *testing.T) {
	a, b, c := clock(4, 0), clock(6, 2), clock(6, 1)
	expect(t, "FirstMeeting", "8 true", call(impl.FirstMeeting([]impl.Clock{a, b})))
	expect(t, "CommonPeriod", "12 true", call(impl.CommonPeriod([]impl.Clock{a, b})))
	expect(t, "LeastGap", "0 true", call(impl.LeastGap(a, b)))
	expect(t, "FirstMeeting of clocks that never meet", "0 false", call(impl.FirstMeeting([]impl.Clock{a, c})))
	expect(t, "LeastGap of clocks that never meet", "1 true", call(impl.LeastGap(a, c)))
	expect(t, "LongestWait", "5 true", call(impl.LongestWait(a, c)))
	expect(t, "three clocks", "23 true", call(impl.FirstMeeting([]impl.Clock{clock(3, 2), clock(5, 3), clock(7, 2)})))
}
