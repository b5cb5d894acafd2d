package tests

import (
	"fmt"
	"math"
	"math/big"
	"testing"

	"loop.example/g01153/impl"
)

// maxGoal is the greatest Den of a goal.
const maxGoal = 1000000

// smallGoals are all goals up to 3 with a small Den.
func smallGoals() []impl.Fraction {
	var list []impl.Fraction
	for den := int64(1); den <= 40; den++ {
		for num := range 3*den + 1 {
			if f := ratio(num, den); isValid(f) {
				list = append(list, f)
			}
		}
	}
	return list
}

// largeGoals are goals at the limits, between neighbours, and far from all fractions with small Den.
func largeGoals() []impl.Fraction {
	return []impl.Fraction{ratio(0, 1), ratio(1, 2), ratio(1000, 1), ratio(1, maxGoal), ratio(maxGoal-1, maxGoal), ratio(999999999, maxGoal), ratio(999999, 1000), ratio(3141593, maxGoal),
		ratio(2718281, maxGoal), ratio(514229, 832040), ratio(832040, 514229), ratio(355, 113), ratio(1, 20000), ratio(3, 20000), ratio(1, 10000), ratio(1, 9999), ratio(1, 10001), ratio(1, 19998),
		ratio(9999, 10000), ratio(10000, 10001), ratio(500000, 999999), ratio(333333, maxGoal), ratio(666667, maxGoal), ratio(999999001, maxGoal), ratio(577215, 999983)}
}

// noGoals are fractions that are no goals.
func noGoals() []impl.Fraction {
	return append(noFractions(), ratio(-1, 1), ratio(-1, 2), ratio(-1, maxGoal), ratio(1, maxGoal+1), ratio(maxGoal, maxGoal+1), ratio(1001, 1), ratio(1000000001, maxGoal), ratio(2001, 2),
		ratio(impl.MaxPart, 1), ratio(1, impl.MaxPart), ratio(-impl.MaxPart, 1), ratio(impl.MaxPart-1, impl.MaxPart))
}

// distanceOf returns how far two fractions are from each other.
func distanceOf(f, g impl.Fraction) *big.Rat {
	distance := new(big.Rat).Sub(big.NewRat(f.Num, f.Den), big.NewRat(g.Num, g.Den))
	return distance.Abs(distance)
}

// nearestOf returns the first one of all fractions with Den up to most that is nearest to a goal, the least Den first, and of these the least one first.
func nearestOf(goal impl.Fraction, most int64) impl.Fraction {
	best := ratio(0, 1)
	for den := int64(1); den <= most; den++ {
		for num := range 4*den + 1 {
			if f := ratio(num, den); distanceOf(f, goal).Cmp(distanceOf(best, goal)) < 0 {
				best = f
			}
		}
	}
	return best
}

// betweenOf returns the greatest fraction up to a goal and the least one from it on with Den up to most, by the tree of all fractions.
func betweenOf(goal impl.Fraction, most int64) (low, high impl.Fraction) {
	whole := goal.Num / goal.Den
	low, high = ratio(whole, 1), ratio(whole+1, 1)
	for low.Den+high.Den <= most {
		middle := ratio(low.Num+high.Num, low.Den+high.Den)
		if middle.Num*goal.Den <= goal.Num*middle.Den {
			low = middle
		} else {
			high = middle
		}
	}
	return low, high
}

// nearerOf returns the one of two fractions, the lesser one first, that is nearer to a goal, or has the lesser Den.
func nearerOf(goal, low, high impl.Fraction) impl.Fraction {
	switch distanceOf(high, goal).Cmp(distanceOf(low, goal)) {
	case -1:
		return high
	case 0:
		if high.Den < low.Den {
			return high
		}
	}
	return low
}

func TestBestRatio(t *testing.T) {
	for _, goal := range smallGoals() {
		for _, most := range []int64{1, 2, 3, 5, 8, 9} {
			expect(t, fmt.Sprint("BestRatio ", goal, most), fmt.Sprint(nearestOf(goal, most), true), call(impl.BestRatio(goal, most)))
		}
		for _, most := range []int64{40, 41, impl.MaxDenominator} {
			expect(t, fmt.Sprint("BestRatio can reach ", goal, most), fmt.Sprint(goal, true), call(impl.BestRatio(goal, most)))
		}
	}
}

func TestBestRatioOfLargeGoals(t *testing.T) {
	for _, goal := range append(smallGoals(), largeGoals()...) {
		for _, most := range []int64{1, 2, 7, 10, 100, 999, 1000, impl.MaxDenominator - 1, impl.MaxDenominator} {
			low, high := betweenOf(goal, most)
			want := fmt.Sprint(nearerOf(goal, low, high), true)
			expect(t, fmt.Sprint("BestRatio ", goal, most), want, call(impl.BestRatio(goal, most)))
		}
	}
}

func TestBestRatioOfSeveral(t *testing.T) {
	expect(t, "as near, and with the same Den", "{0 1} true", call(impl.BestRatio(ratio(1, 2), 1)))
	expect(t, "as near, and with the same Den", "{2 1} true", call(impl.BestRatio(ratio(5, 2), 1)))
	expect(t, "as near, and the lesser one has the lesser Den", "{0 1} true", call(impl.BestRatio(ratio(1, 4), 2)))
	expect(t, "as near, and the greater one has the lesser Den", "{1 1} true", call(impl.BestRatio(ratio(3, 4), 2)))
	expect(t, "as near, and the greater one has the lesser Den", "{1 2} true", call(impl.BestRatio(ratio(5, 12), 3)))
	expect(t, "half of the least one", "{0 1} true", call(impl.BestRatio(ratio(1, 20000), impl.MaxDenominator)))
	expect(t, "nearer to the least one", "{1 10000} true", call(impl.BestRatio(ratio(1, 19999), impl.MaxDenominator)))
	expect(t, "the greatest goal", "{1000 1} true", call(impl.BestRatio(ratio(1000, 1), impl.MaxDenominator)))
	expect(t, "0", "{0 1} true", call(impl.BestRatio(ratio(0, 1), 1)))
}

func TestRatiosRequire(t *testing.T) {
	for _, goal := range noGoals() {
		expect(t, fmt.Sprint("BestRatio ", goal), "{0 0} false", call(impl.BestRatio(goal, 10)))
		expect(t, fmt.Sprint("RatioSteps ", goal), "[] false", call(impl.RatioSteps(goal)))
	}
	for _, most := range []int64{math.MinInt64, -1, 0, impl.MaxDenominator + 1, math.MaxInt64} {
		expect(t, fmt.Sprint("BestRatio ", most), "{0 0} false", call(impl.BestRatio(ratio(1, 2), most)))
	}
}

// foldOf returns the number with these steps, from the last one on.
func foldOf(steps []int64) *big.Rat {
	last := len(steps) - 1
	number := big.NewRat(steps[last], 1)
	for i := last - 1; i >= 0; i-- {
		number.Inv(number)
		number.Add(number, big.NewRat(steps[i], 1))
	}
	return number
}

func TestRatioSteps(t *testing.T) {
	for _, goal := range append(smallGoals(), largeGoals()...) {
		what := fmt.Sprint("RatioSteps ", goal)
		steps, ok := impl.RatioSteps(goal)
		if !ok || len(steps) == 0 {
			t.Errorf("%s: %v %v", what, steps, ok)
			continue
		}
		expect(t, what, fmt.Sprint(goal.Num, "/", goal.Den), foldOf(steps))
		for i, step := range steps[1:] {
			// The rest is less than 1, and the last one is 1 divided by a number from 2 on.
			if step < 1 || i == len(steps)-2 && step < 2 {
				t.Errorf("%s: %v", what, steps)
			}
		}
	}
	expect(t, "0", "[0] true", call(impl.RatioSteps(ratio(0, 1))))
	expect(t, "1", "[1] true", call(impl.RatioSteps(ratio(1, 1))))
	expect(t, "less than 1", "[0 1 2] true", call(impl.RatioSteps(ratio(2, 3))))
	expect(t, "the greatest Den", "[0 1000000] true", call(impl.RatioSteps(ratio(1, maxGoal))))
	expect(t, "the greatest one", "[1000] true", call(impl.RatioSteps(ratio(1000, 1))))
	steps, _ := impl.RatioSteps(ratio(514229, 832040))
	expect(t, "the most steps", "29", len(steps))
}

func TestRatioExamples(t *testing.T) {
	expect(t, "BestRatio", "{22 7} true", call(impl.BestRatio(ratio(355, 113), 10)))
	expect(t, "RatioSteps", "[3 7 16] true", call(impl.RatioSteps(ratio(355, 113))))
}
