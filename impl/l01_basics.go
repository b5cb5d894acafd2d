package impl

import (
	"cmp"
	"iter"
	"math/bits"
	"slices"
	"strconv"
	"strings"
)

// Limits of chapter 1.
const (
	MaxTicks  = 400
	MaxValue  = 1000000000000000
	MaxPart   = 1000000000000000000
	MaxItems  = 64
	CheckSize = 64901
)

// The longest name, and the text of what is empty.
const (
	maxName   = 10
	emptyText = "none"
)

// Fraction is the number Num / Den.
type Fraction struct {
	Num int64
	Den int64
}

// within reports whether x is from least to most.
func within[T cmp.Ordered](x, least, most T) bool {
	return least <= x && x <= most
}

// isIncreasing reports whether each item is greater than the one before it.
func isIncreasing[T cmp.Ordered](list []T) bool {
	for i := 1; i < len(list); i++ {
		if list[i-1] >= list[i] {
			return false
		}
	}
	return true
}

// isSet reports whether list is a set of numbers from least to most.
func isSet(list []int64, least, most int64) bool {
	if len(list) == 0 {
		return true
	}
	return isIncreasing(list) && list[0] >= least && list[len(list)-1] <= most
}

// IsName reports whether s is a name.
func IsName(s string) bool {
	if !within(len(s), 1, maxName) {
		return false
	}
	for _, letter := range s {
		if !within(letter, 'a', 'z') {
			return false
		}
	}
	return true
}

// Decimal returns n in decimal.
func Decimal(n int64) string {
	return strconv.FormatInt(n, 10)
}

// readDecimal returns the number from -most to most whose Decimal is s.
func readDecimal(s string, most int64) (int64, bool) {
	n, err := strconv.ParseInt(s, 10, 64)
	// ParseInt also reads a plus sign, leading zeros and -0, which Decimal never writes.
	if err != nil || !within(n, -most, most) || Decimal(n) != s {
		return 0, false
	}
	return n, true
}

// ReadDecimal returns the number with the given decimal text.
func ReadDecimal(s string) (int64, bool) {
	return readDecimal(s, MaxValue)
}

// IsWave reports whether w is a wave.
func IsWave(w string) bool {
	if len(w) > MaxTicks {
		return false
	}
	for _, level := range w {
		if level != '0' && level != '1' {
			return false
		}
	}
	return true
}

// edgesOf yields each tick at which a wave goes up or down, with its new level.
func edgesOf(w string) iter.Seq2[int64, rune] {
	return func(yield func(int64, rune) bool) {
		before := '0'
		for tick, level := range w {
			if level != before && !yield(int64(tick), level) {
				return
			}
			before = level
		}
	}
}

// edgesTo returns the ticks at which a wave changes to a level.
func edgesTo(goal rune, w string) ([]int64, bool) {
	if !IsWave(w) {
		return nil, false
	}
	var ticks []int64
	for tick, level := range edgesOf(w) {
		if level == goal {
			ticks = append(ticks, tick)
		}
	}
	return ticks, true
}

// UpsOf returns the ticks at which a wave goes up.
func UpsOf(w string) ([]int64, bool) {
	return edgesTo('1', w)
}

// DownsOf returns the ticks at which a wave goes down.
func DownsOf(w string) ([]int64, bool) {
	return edgesTo('0', w)
}

// runsOf yields the level and the length of each longest part of equal levels of a wave.
func runsOf(w string) iter.Seq2[rune, int64] {
	return func(yield func(rune, int64) bool) {
		start, level := int64(0), '0'
		for tick, next := range edgesOf(w) {
			// A wave that goes up at the tick 0 has no part with the level 0 in front.
			if tick > start && !yield(level, tick-start) {
				return
			}
			start, level = tick, next
		}
		if end := int64(len(w)); end > start {
			yield(level, end-start)
		}
	}
}

// PulsesOf returns the lengths of pulses.
func PulsesOf(w string) ([]int64, bool) {
	if !IsWave(w) {
		return nil, false
	}
	var pulses []int64
	for level, length := range runsOf(w) {
		if level == '1' {
			pulses = append(pulses, length)
		}
	}
	return pulses, true
}

// GapsOf returns the lengths of gaps.
func GapsOf(w string) ([]int64, bool) {
	ups, ok := UpsOf(w)
	downs, _ := DownsOf(w)
	var gaps []int64
	for i := 1; i < len(ups); i++ {
		gaps = append(gaps, ups[i]-downs[i-1])
	}
	return gaps, ok
}

// DutyOf returns the share of the levels 1.
func DutyOf(w string) (Fraction, bool) {
	if !IsWave(w) || w == "" {
		return Fraction{}, false
	}
	return MakeFraction(int64(strings.Count(w, "1")), int64(len(w)))
}

// WavePeriod returns the least period.
func WavePeriod(w string) (int64, bool) {
	if !IsWave(w) {
		return 0, false
	}
	// Each level is that of p ticks before exactly if the wave without its first p ticks begins the wave.
	for less := range len(w) {
		period := less + 1
		if strings.HasPrefix(w, w[period:]) {
			return int64(period), true
		}
	}
	return 1, true
}

// DelayWave returns a wave that comes later.
func DelayWave(w string, ticks int64) (string, bool) {
	if !IsWave(w) || !within(ticks, 0, MaxTicks) {
		return "", false
	}
	late := min(int(ticks), len(w))
	return strings.Repeat("0", late) + w[:len(w)-late], true
}

// RepeatWave returns a wave several times.
func RepeatWave(w string, times int64) (string, bool) {
	if !IsWave(w) || !within(times, 0, MaxTicks) || int64(len(w))*times > MaxTicks {
		return "", false
	}
	return strings.Repeat(w, int(times)), true
}

// levelOf returns the level of a tick that is on or off.
func levelOf(on bool) rune {
	if on {
		return '1'
	}
	return '0'
}

// areWaves reports whether these are waves of as many ticks.
func areWaves(list ...string) bool {
	return !slices.ContainsFunc(list, func(w string) bool {
		return !IsWave(w) || len(w) != len(list[0])
	})
}

// isJoined reports whether two levels, on or off, make the level 1 by an op.
func isJoined(op int64, a, b bool) bool {
	switch op {
	case 0:
		return a && b
	case 1:
		return a || b
	case 2:
		return a != b
	}
	return a && !b
}

// joinedWave returns the wave with the levels that join makes of those of two waves with as many ticks, one tick after another.
func joinedWave(a, b string, join func(a, b bool) bool) string {
	var joined strings.Builder
	for tick := range len(a) {
		joined.WriteRune(levelOf(join(a[tick] == '1', b[tick] == '1')))
	}
	return joined.String()
}

// JoinWaves returns the levels that both waves make.
func JoinWaves(op int64, a, b string) (string, bool) {
	if !within(op, 0, 3) || !areWaves(a, b) {
		return "", false
	}
	return joinedWave(a, b, func(a, b bool) bool {
		return isJoined(op, a, b)
	}), true
}

// NotWave returns the other levels.
func NotWave(w string) (string, bool) {
	if !IsWave(w) {
		return "", false
	}
	var other strings.Builder
	for _, level := range w {
		other.WriteRune(levelOf(level == '0'))
	}
	return other.String(), true
}

// WaveFrom returns the wave with some edges.
func WaveFrom(ups, downs []int64, ticks int64) (string, bool) {
	if !within(ticks, 0, MaxTicks) || !isSet(ups, 0, ticks-1) || !isSet(downs, 0, ticks-1) {
		return "", false
	}
	var wave strings.Builder
	level := '0'
	for tick := range ticks {
		_, up := slices.BinarySearch(ups, tick)
		_, down := slices.BinarySearch(downs, tick)
		// A wave can't go to the level that it has; of both edges at one tick, one would do that.
		if up && level == '1' || down && level == '0' {
			return "", false
		}
		if up || down {
			level = levelOf(up)
		}
		wave.WriteRune(level)
	}
	return wave.String(), true
}

// RunsOf returns the text of runs.
func RunsOf(w string) (string, bool) {
	if !IsWave(w) {
		return "", false
	}
	if w == "" {
		return emptyText, true
	}
	var text strings.Builder
	for level, length := range runsOf(w) {
		if text.Len() > 0 {
			text.WriteRune(' ')
		}
		text.WriteRune(level)
		text.WriteRune('x')
		text.WriteString(Decimal(length))
	}
	return text.String(), true
}

// ReadRuns returns the wave with the given text of runs.
func ReadRuns(s string) (string, bool) {
	if s == emptyText {
		return "", true
	}
	var wave strings.Builder
	for run := range strings.SplitSeq(s, " ") {
		level, digits, _ := strings.Cut(run, "x")
		length, ok := ReadDecimal(digits)
		if !ok || level != "0" && level != "1" || !within(length, 1, int64(MaxTicks-wave.Len())) {
			return "", false
		}
		wave.WriteString(strings.Repeat(level, int(length)))
	}
	// Runs of one level that are neighbours, or that are written in another way, are found here.
	w := wave.String()
	if text, ok := RunsOf(w); !ok || text != s {
		return "", false
	}
	return w, true
}

// gcd returns the greatest common divisor of two numbers that are not negative; gcd(0, b) is b.
func gcd(a, b int64) int64 {
	for b != 0 {
		a, b = b, a%b
	}
	return a
}

// sizeOf returns n without its sign, for an n whose size is an int64.
func sizeOf(n int64) int64 {
	if n < 0 {
		return -n
	}
	return n
}

// wide is a number of at most 128 bits and a sign: products of two parts of fractions need so many.
type wide struct {
	negative  bool
	high, low uint64
}

// product returns a times b.
func product(a, b int64) wide {
	high, low := bits.Mul64(uint64(sizeOf(a)), uint64(sizeOf(b)))
	return wide{(a < 0) != (b < 0), high, low}
}

// isSmaller reports whether a is less than b without their signs.
func (a wide) isSmaller(b wide) bool {
	return a.high < b.high || a.high == b.high && a.low < b.low
}

// plus returns a + b, of which the size has at most 128 bits.
func (a wide) plus(b wide) wide {
	if a.isSmaller(b) {
		a, b = b, a
	}
	var high, low, carry uint64
	if a.negative == b.negative {
		low, carry = bits.Add64(a.low, b.low, 0)
		high, _ = bits.Add64(a.high, b.high, carry)
	} else {
		low, carry = bits.Sub64(a.low, b.low, 0)
		high, _ = bits.Sub64(a.high, b.high, carry)
	}
	return wide{a.negative, high, low}
}

// sign returns -1, 0 or 1 for a number less than, equal to or greater than 0.
func (a wide) sign() int64 {
	switch {
	case a.high == 0 && a.low == 0:
		return 0
	case a.negative:
		return -1
	}
	return 1
}

// rest returns the remainder of a without its sign, divided by by.
func (a wide) rest(by int64) int64 {
	return int64(bits.Rem64(a.high, a.low, uint64(by)))
}

// over returns a / by, rounded towards 0, and fails if it is not from -MaxPart to MaxPart.
func (a wide) over(by int64) (int64, bool) {
	// Div64 requires that the quotient has at most 64 bits.
	if a.high >= uint64(by) {
		return 0, false
	}
	size, _ := bits.Div64(a.high, a.low, uint64(by))
	if size > MaxPart {
		return 0, false
	}
	if a.negative {
		return -int64(size), true
	}
	return int64(size), true
}

// GcdOf returns the greatest common divisor.
func GcdOf(a, b int64) (int64, bool) {
	if !within(a, 1, MaxValue) || !within(b, 1, MaxValue) {
		return 0, false
	}
	return gcd(a, b), true
}

// LcmOf returns the least common multiple.
func LcmOf(a, b int64) (int64, bool) {
	common, ok := GcdOf(a, b)
	if !ok {
		return 0, false
	}
	return product(a, b).over(common)
}

// ValidFraction reports whether f is valid.
func ValidFraction(f Fraction) bool {
	if !within(f.Num, -MaxPart, MaxPart) || !within(f.Den, 1, MaxPart) {
		return false
	}
	return gcd(sizeOf(f.Num), f.Den) == 1
}

// MakeFraction returns n / d in lowest terms.
func MakeFraction(n, d int64) (Fraction, bool) {
	if d == 0 || !within(n, -MaxPart, MaxPart) || !within(d, -MaxPart, MaxPart) {
		return Fraction{}, false
	}
	if d < 0 {
		n, d = -n, -d
	}
	common := gcd(sizeOf(n), d)
	return Fraction{n / common, d / common}, true
}

// AddFractions returns a sum.
func AddFractions(f, g Fraction) (Fraction, bool) {
	if !ValidFraction(f) || !ValidFraction(g) {
		return Fraction{}, false
	}
	common := gcd(f.Den, g.Den)
	sum := product(f.Num, g.Den/common).plus(product(g.Num, f.Den/common))
	// Both fractions are in lowest terms, so the sum shares with its denominator only what it shares with common.
	shared := gcd(sum.rest(common), common)
	num, small := sum.over(shared)
	den, ok := product(f.Den/common, g.Den).over(shared)
	if !small || !ok {
		return Fraction{}, false
	}
	return Fraction{num, den}, true
}

// SubFractions returns a difference.
func SubFractions(f, g Fraction) (Fraction, bool) {
	if !ValidFraction(g) {
		return Fraction{}, false
	}
	return AddFractions(f, Fraction{-g.Num, g.Den})
}

// MulFractions returns a product.
func MulFractions(f, g Fraction) (Fraction, bool) {
	if !ValidFraction(f) || !ValidFraction(g) {
		return Fraction{}, false
	}
	first := gcd(sizeOf(f.Num), g.Den)
	second := gcd(sizeOf(g.Num), f.Den)
	num, small := product(f.Num/first, g.Num/second).over(1)
	den, ok := product(f.Den/second, g.Den/first).over(1)
	if !small || !ok {
		return Fraction{}, false
	}
	return Fraction{num, den}, true
}

// DivFractions returns a quotient.
func DivFractions(f, g Fraction) (Fraction, bool) {
	if !ValidFraction(g) || g.Num == 0 {
		return Fraction{}, false
	}
	if g.Num < 0 {
		return MulFractions(f, Fraction{-g.Den, -g.Num})
	}
	return MulFractions(f, Fraction{g.Den, g.Num})
}

// CompareFractions compares two fractions.
func CompareFractions(f, g Fraction) (int64, bool) {
	if !ValidFraction(f) || !ValidFraction(g) {
		return 0, false
	}
	return product(f.Num, g.Den).plus(product(-g.Num, f.Den)).sign(), true
}

// SumFractions returns the sum of a list.
func SumFractions(list []Fraction) (Fraction, bool) {
	if len(list) > MaxItems {
		return Fraction{}, false
	}
	sum := Fraction{0, 1}
	for _, f := range list {
		next, ok := AddFractions(sum, f)
		if !ok {
			return Fraction{}, false
		}
		sum = next
	}
	return sum, true
}

// FractionText returns the text of a fraction.
func FractionText(f Fraction) (string, bool) {
	if !ValidFraction(f) {
		return "", false
	}
	if f.Den == 1 {
		return Decimal(f.Num), true
	}
	return Decimal(f.Num) + "/" + Decimal(f.Den), true
}

// ReadFraction returns the fraction with the given text.
func ReadFraction(s string) (Fraction, bool) {
	over, under, divided := strings.Cut(s, "/")
	if !divided {
		under = "1"
	}
	// Parts of fractions can be greater than MaxValue, which limits ReadDecimal.
	num, first := readDecimal(over, MaxPart)
	den, second := readDecimal(under, MaxPart)
	f := Fraction{num, den}
	if text, ok := FractionText(f); !first || !second || !ok || text != s {
		return Fraction{}, false
	}
	return f, true
}

// ListText returns the text of a list.
func ListText(list []int64) (string, bool) {
	if len(list) > MaxItems {
		return "", false
	}
	if len(list) == 0 {
		return emptyText, true
	}
	texts := make([]string, len(list))
	for i, n := range list {
		if !within(n, -MaxValue, MaxValue) {
			return "", false
		}
		texts[i] = Decimal(n)
	}
	return strings.Join(texts, ","), true
}

// ReadList returns the list with the given text.
func ReadList(s string) ([]int64, bool) {
	if s == emptyText {
		return nil, true
	}
	var list []int64
	for text := range strings.SplitSeq(s, ",") {
		n, ok := ReadDecimal(text)
		if !ok || len(list) == MaxItems {
			return nil, false
		}
		list = append(list, n)
	}
	return list, true
}

// CheckOf returns the check number of a text.
func CheckOf(start int64, s string) (int64, bool) {
	if !within(start, 0, CheckSize-1) {
		return 0, false
	}
	check := start
	for i := range len(s) {
		check = (check*307 + int64(s[i]) + 13) % CheckSize
	}
	return check, true
}
