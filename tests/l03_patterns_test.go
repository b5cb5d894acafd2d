package tests

import (
	"fmt"
	"math"
	"strings"
	"testing"

	"loop.example/g01153/impl"
)

// unevenOf returns the greatest difference of the marks of two parts of as many slots, up to a number of them.
func unevenOf(w string, longest int) int {
	forever := strings.Repeat(w, longest/len(w)+2)
	uneven := 0
	for size := 1; size <= longest; size++ {
		least, most := size, 0
		for first := range w {
			marks := strings.Count(forever[first:first+size], "1")
			least, most = min(least, marks), max(most, marks)
		}
		uneven = max(uneven, most-least)
	}
	return uneven
}

// noPatterns are texts that are no patterns.
func noPatterns() []string {
	return append(noWaves(), "", strings.Repeat("0", impl.MaxSlots+1), strings.Repeat("1", impl.MaxSlots+1), strings.Repeat("01", impl.MaxTicks/2))
}

func TestUnevenPatterns(t *testing.T) {
	for w := range allWaves(10) {
		if w == "" {
			continue
		}
		uneven := unevenOf(w, len(w))
		expect(t, "MostUneven "+w, fmt.Sprint(uneven, true), call(impl.MostUneven(w)))
		// Parts may be longer than all slots.
		expect(t, "IsEvenPattern "+w, fmt.Sprint(unevenOf(w, 3*len(w)) <= 1), impl.IsEvenPattern(w))
	}
}

func TestPatternsGoOn(t *testing.T) {
	expect(t, "two marks side by side, last and first", "2 true", call(impl.MostUneven("1001")))
	expect(t, "two marks side by side, last and first", "false", impl.IsEvenPattern("1001"))
	expect(t, "two gaps side by side, last and first", "2 true", call(impl.MostUneven("0110")))
	expect(t, "two gaps side by side, last and first", "false", impl.IsEvenPattern("0110"))
	expect(t, "even only as it goes on", "true", impl.IsEvenPattern("0101"))
	expect(t, "one slot", "0 true", call(impl.MostUneven("1")))
	expect(t, "one slot", "true true", impl.IsEvenPattern("0"), impl.IsEvenPattern("1"))
	expect(t, "half of all slots", "32 true", call(impl.MostUneven(strings.Repeat("0", 32)+strings.Repeat("1", 32))))
	expect(t, "half of all slots, in the middle", "32 true", call(impl.MostUneven(strings.Repeat("1", 16)+strings.Repeat("0", 32)+strings.Repeat("1", 16))))
	long := "1" + strings.Repeat("0", impl.MaxSlots-2) + "1"
	expect(t, "as many slots as there can be", "2 true false", call(impl.MostUneven(long)), impl.IsEvenPattern(long))
	expect(t, "as many slots as there can be", "true", impl.IsEvenPattern(strings.Repeat("01", impl.MaxSlots/2)))
}

func TestPatternsRequire(t *testing.T) {
	for _, w := range noPatterns() {
		expect(t, fmt.Sprintf("MostUneven %q", w), "0 false", call(impl.MostUneven(w)))
		expect(t, fmt.Sprintf("IsEvenPattern %q", w), "false", impl.IsEvenPattern(w))
	}
}

// evenOf returns the pattern with marks at the slots at which one finds them when one goes from mark to mark.
func evenOf(slots, marks int) string {
	pattern := strings.Split(strings.Repeat("0", slots), "")
	for mark := 1; mark <= marks; mark++ {
		pattern[(mark*slots+marks-1)/marks-1] = "1"
	}
	return strings.Join(pattern, "")
}

func TestEvenPattern(t *testing.T) {
	for slots := 1; slots <= impl.MaxSlots; slots++ {
		for marks := 0; marks <= slots; marks++ {
			what := fmt.Sprint("EvenPattern ", slots, marks)
			w, ok := impl.EvenPattern(int64(slots), int64(marks))
			expect(t, what, evenOf(slots, marks)+" true", call(w, ok))
			expect(t, "marks of "+what, fmt.Sprint(marks, true), strings.Count(w, "1"), impl.IsEvenPattern(w))
		}
	}
	expect(t, "the ratio 1", "1111 true", call(impl.EvenPattern(4, 4)))
	expect(t, "no marks", "0000 true", call(impl.EvenPattern(4, 0)))
	expect(t, "a mark at the end", "0001 true", call(impl.EvenPattern(4, 1)))
}

func TestEvenPatternRequires(t *testing.T) {
	for _, slots := range []int64{math.MinInt64, -1, 0, impl.MaxSlots + 1, math.MaxInt64} {
		for _, marks := range []int64{-1, 0, 1, slots} {
			expect(t, fmt.Sprint("EvenPattern ", slots, marks), " false", call(impl.EvenPattern(slots, marks)))
		}
	}
	for _, slots := range []int64{1, 5, impl.MaxSlots} {
		for _, marks := range []int64{math.MinInt64, -1, slots + 1, math.MaxInt64} {
			expect(t, fmt.Sprint("EvenPattern ", slots, marks), " false", call(impl.EvenPattern(slots, marks)))
		}
	}
}
