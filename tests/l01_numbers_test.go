package tests

import (
	"fmt"
	"math"
	"math/big"
	"regexp"
	"strings"
	"testing"

	"loop.example/g01153/impl"
)

func TestIsName(t *testing.T) {
	name := regexp.MustCompile(`^[a-z]{1,10}\z`)
	for b := range 256 {
		for _, s := range []string{string([]byte{byte(b)}), string([]byte{'a', byte(b)}), string([]byte{byte(b), 'z'})} {
			expect(t, fmt.Sprintf("IsName %q", s), fmt.Sprint(name.MatchString(s)), impl.IsName(s))
		}
	}
	for s, want := range map[string]bool{"": false, "clock": true, "abcdefghij": true, "abcdefghijk": false, "é": false, "aé": false, "a b": false} {
		expect(t, fmt.Sprintf("IsName %q", s), fmt.Sprint(want), impl.IsName(s))
	}
	expect(t, "ten z", "true", impl.IsName(strings.Repeat("z", 10)))
	expect(t, "eleven z", "false", impl.IsName(strings.Repeat("z", 11)))
}

// someNumbers are numbers of all sizes, limits and their neighbours among them.
func someNumbers() []int64 {
	numbers := []int64{math.MinInt64, math.MinInt64 + 1, math.MaxInt64 - 1, math.MaxInt64}
	for _, middle := range []int64{-impl.MaxPart, -impl.MaxValue, -100, -10, 0, 10, 100, impl.MaxValue, impl.MaxPart} {
		for n := middle - 2; n <= middle+2; n++ {
			numbers = append(numbers, n)
		}
	}
	return numbers
}

func TestDecimal(t *testing.T) {
	for _, n := range someNumbers() {
		text := fmt.Sprint(n)
		expect(t, "Decimal", text, impl.Decimal(n))
		want := text + " true"
		if n < -impl.MaxValue || n > impl.MaxValue {
			want = "0 false"
		}
		expect(t, "ReadDecimal "+text, want, call(impl.ReadDecimal(text)))
	}
}

func TestReadDecimalOfAllTexts(t *testing.T) {
	form := regexp.MustCompile(`^(0|-?[1-9][0-9]*)\z`)
	for s := range allTexts("019-+ _.", 5) {
		n, ok := impl.ReadDecimal(s)
		if ok != form.MatchString(s) || ok && fmt.Sprint(n) != s || !ok && n != 0 {
			t.Errorf("ReadDecimal %q: got %d, %v", s, n, ok)
		}
	}
	for _, s := range []string{"0x1", "1e3", "1\n", "\xff", "٣", "9223372036854775808", "-9223372036854775809", strings.Repeat("9", 10000), strings.Repeat("0", 10000)} {
		expect(t, "ReadDecimal "+s, "0 false", call(impl.ReadDecimal(s)))
	}
}

func TestGcdAndLcm(t *testing.T) {
	numbers := []int64{1, 2, 3, 4, 5, 6, 7, 8, 9, 10, 12, 18, 360, 101, 9901, 1000001, 999999000001, 1 << 18, 3814697265625, 1 << 49,
		999999999999998, 999999999999999, impl.MaxValue}
	for _, a := range numbers {
		for _, b := range numbers {
			divisor := new(big.Int).GCD(nil, nil, big.NewInt(a), big.NewInt(b))
			multiple := new(big.Int).Mul(big.NewInt(a), big.NewInt(b))
			multiple.Div(multiple, divisor)
			expect(t, fmt.Sprint("GcdOf ", a, b), fmt.Sprint(divisor, true), call(impl.GcdOf(a, b)))
			want := fmt.Sprint(multiple, true)
			if multiple.Cmp(big.NewInt(impl.MaxPart)) > 0 {
				want = "0 false"
			}
			expect(t, fmt.Sprint("LcmOf ", a, b), want, call(impl.LcmOf(a, b)))
		}
	}
}

func TestLimitsOfGcdAndLcm(t *testing.T) {
	expect(t, "greatest numbers", "1000000000000000 true", call(impl.GcdOf(impl.MaxValue, impl.MaxValue)))
	expect(t, "multiple at the limit", "1000000000000000000 true", call(impl.LcmOf(1<<18, 3814697265625)))
	expect(t, "multiple past the limit by 1", "0 false", call(impl.LcmOf(1000001, 999999000001)))
	expect(t, "multiple far past the limit", "0 false", call(impl.LcmOf(impl.MaxValue, impl.MaxValue-1)))
	for _, n := range []int64{math.MinInt64, -12, -1, 0, impl.MaxValue + 1, math.MaxInt64} {
		expect(t, fmt.Sprint("GcdOf ", n, 12), "0 false", call(impl.GcdOf(n, 12)))
		expect(t, fmt.Sprint("GcdOf ", 12, n), "0 false", call(impl.GcdOf(12, n)))
		expect(t, fmt.Sprint("GcdOf twice ", n), "0 false", call(impl.GcdOf(n, n)))
		expect(t, fmt.Sprint("LcmOf ", n, 12), "0 false", call(impl.LcmOf(n, 12)))
		expect(t, fmt.Sprint("LcmOf ", 12, n), "0 false", call(impl.LcmOf(12, n)))
		expect(t, fmt.Sprint("LcmOf twice ", n), "0 false", call(impl.LcmOf(n, n)))
	}
}

func TestLists(t *testing.T) {
	full := listOf[int64](-impl.MaxValue, impl.MaxItems)
	fullText := strings.Repeat(",-1000000000000000", impl.MaxItems)[1:]
	lists := map[string][]int64{"none": nil, "0": {0}, "-1": {-1}, "3,1,2": {3, 1, 2}, "7,7": {7, 7}, "1000000000000000,-1000000000000000": {impl.MaxValue, -impl.MaxValue}, fullText: full}
	for text, list := range lists {
		expect(t, "ListText", text+" true", call(impl.ListText(list)))
		expect(t, "ReadList "+text, fmt.Sprint(list, true), call(impl.ReadList(text)))
	}
	expect(t, "empty list", "none true", call(impl.ListText([]int64{})))
	expect(t, "a number too many", " false", call(impl.ListText(append(full, 1))))
	expect(t, "a text with a number too many", "[] false", call(impl.ReadList(fullText+",1")))
	for _, n := range []int64{math.MinInt64, -impl.MaxValue - 1, impl.MaxValue + 1, math.MaxInt64} {
		expect(t, fmt.Sprint("ListText with ", n), " false", call(impl.ListText([]int64{1, n})))
		expect(t, fmt.Sprint("ReadList with ", n), "[] false", call(impl.ReadList(fmt.Sprint("1,", n))))
	}
}

func TestReadListOfAllTexts(t *testing.T) {
	form := regexp.MustCompile(`^(0|-?[12]+[012]*)(,(0|-?[12]+[012]*))*\z`)
	for s := range allTexts("012-, ", 6) {
		list, ok := impl.ReadList(s)
		if ok != form.MatchString(s) || !ok && len(list) > 0 {
			t.Fatalf("ReadList %q: got %v, %v", s, list, ok)
		}
		if text := strings.ReplaceAll(strings.Trim(fmt.Sprint(list), "[]"), " ", ","); ok && text != s {
			t.Fatalf("ReadList %q: got %v", s, list)
		}
	}
	for _, s := range []string{"None", "none,1", "1,none", "none ", "1;2", "1,2\n"} {
		expect(t, "ReadList "+s, "[] false", call(impl.ReadList(s)))
	}
}

// checkOf returns the check number by its definition.
func checkOf(start int64, s string) int64 {
	check := big.NewInt(start)
	for _, b := range []byte(s) {
		check.Mul(check, big.NewInt(307)).Add(check, big.NewInt(int64(b)+13))
		check.Mod(check, big.NewInt(64901))
	}
	return check.Int64()
}

func TestCheckOf(t *testing.T) {
	var bytes []byte
	for b := range 256 {
		bytes = append(bytes, byte(b))
	}
	texts := []string{"", "a", "ab", "ba", "\x00", "\xff", "é", "set a 01\n", string(bytes), strings.Repeat("\xff", 5000)}
	for _, start := range []int64{0, 1, 13, 110, 64899, 64900} {
		for _, s := range texts {
			expect(t, fmt.Sprintf("CheckOf %d %q", start, s), fmt.Sprint(checkOf(start, s), true), call(impl.CheckOf(start, s)))
		}
	}
	expect(t, "example", "110 true", call(impl.CheckOf(0, "a")))
	expect(t, "no bytes keep the greatest start", "64900 true", call(impl.CheckOf(impl.CheckSize-1, "")))
	first, _ := impl.CheckOf(7, "set ")
	expect(t, "in two parts", call(impl.CheckOf(7, "set a")), call(impl.CheckOf(first, "a")))
	for _, start := range []int64{math.MinInt64, -1, impl.CheckSize, math.MaxInt64} {
		expect(t, fmt.Sprint("start ", start), "0 false", call(impl.CheckOf(start, "a")))
		expect(t, fmt.Sprint("start ", start, " without bytes"), "0 false", call(impl.CheckOf(start, "")))
	}
}
