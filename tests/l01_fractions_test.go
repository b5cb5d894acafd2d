package tests

import (
	"fmt"
	"math"
	"math/big"
	"testing"

	"loop.example/g01153/impl"
)

// someParts are numerators and denominators of all sizes: limits, their neighbours and divisors, and powers of primes.
func someParts() []int64 {
	return []int64{1, 2, 3, 4, 5, 6, 7, 12, 101, 1000000000, 1000000001, 1 << 31, 1 << 32, 1 << 59, 4052555153018976267, 450283905890997363,
		999999999999999989, impl.MaxPart / 3, impl.MaxPart / 2, impl.MaxPart - 2, impl.MaxPart - 1, impl.MaxPart, 9900990099009901}
}

// isValid reports by its definition whether a fraction is valid.
func isValid(f impl.Fraction) bool {
	if f.Num < -impl.MaxPart || f.Num > impl.MaxPart || f.Den < 1 || f.Den > impl.MaxPart {
		return false
	}
	r := big.NewRat(f.Num, f.Den)
	return r.Num().Int64() == f.Num && r.Denom().Int64() == f.Den
}

// someFractions are valid fractions with the parts of someParts.
func someFractions() []impl.Fraction {
	list := []impl.Fraction{ratio(0, 1)}
	for _, num := range someParts() {
		for _, den := range someParts() {
			if f := ratio(num, den); isValid(f) {
				list = append(list, f, ratio(-num, den))
			}
		}
	}
	return list
}

// noFractions are fractions that are not valid.
func noFractions() []impl.Fraction {
	return []impl.Fraction{{}, ratio(0, 2), ratio(0, -1), ratio(0, impl.MaxPart), ratio(1, 0), ratio(1, -1), ratio(2, 4), ratio(-2, 4), ratio(-1, -2), ratio(1, -2), ratio(6, 3), ratio(5, 5),
		ratio(impl.MaxPart+1, 1), ratio(-impl.MaxPart-1, 1),
		ratio(1, impl.MaxPart+1), ratio(impl.MaxPart, impl.MaxPart), ratio(math.MinInt64, 1), ratio(1, math.MinInt64), ratio(math.MinInt64, math.MinInt64), ratio(math.MaxInt64, 1), ratio(1, math.MaxInt64)}
}

// resultOf is what a function returns whose exact result is r.
func resultOf(r *big.Rat) string {
	most := big.NewInt(impl.MaxPart)
	if r.Num().CmpAbs(most) > 0 || r.Denom().Cmp(most) > 0 {
		return "{0 0} false"
	}
	return fmt.Sprintf("{%v %v} true", r.Num(), r.Denom())
}

func TestValidFraction(t *testing.T) {
	for _, f := range someFractions() {
		expect(t, fmt.Sprint("ValidFraction ", f), "true", impl.ValidFraction(f))
	}
	for _, f := range noFractions() {
		expect(t, fmt.Sprint("ValidFraction ", f), "false", impl.ValidFraction(f))
	}
	for num := int64(-12); num <= 12; num++ {
		for den := int64(-12); den <= 12; den++ {
			f := ratio(num, den)
			expect(t, fmt.Sprint("ValidFraction ", f), fmt.Sprint(isValid(f)), impl.ValidFraction(f))
		}
	}
}

func TestMakeFraction(t *testing.T) {
	parts := append([]int64{0}, someParts()...)
	for _, part := range someParts() {
		parts = append(parts, -part)
	}
	for _, n := range parts {
		for _, d := range parts {
			want := "{0 0} false"
			inside := max(n, -n) <= impl.MaxPart && max(d, -d) <= impl.MaxPart
			if d != 0 && inside {
				want = resultOf(big.NewRat(n, d))
			}
			expect(t, fmt.Sprint("MakeFraction ", n, d), want, call(impl.MakeFraction(n, d)))
		}
	}
	expect(t, "0 of 0", "{0 0} false", call(impl.MakeFraction(0, 0)))
	expect(t, "both greatest", "{1 1} true", call(impl.MakeFraction(impl.MaxPart, impl.MaxPart)))
	expect(t, "both least", "{1 1} true", call(impl.MakeFraction(-impl.MaxPart, -impl.MaxPart)))
	expect(t, "0 over the least", "{0 1} true", call(impl.MakeFraction(0, -impl.MaxPart)))
	for _, n := range []int64{math.MinInt64, -impl.MaxPart - 1, impl.MaxPart + 1, math.MaxInt64} {
		expect(t, fmt.Sprint("MakeFraction ", n, " over 2"), "{0 0} false", call(impl.MakeFraction(n, 2)))
		expect(t, fmt.Sprint("MakeFraction 2 over ", n), "{0 0} false", call(impl.MakeFraction(2, n)))
		expect(t, fmt.Sprint("MakeFraction twice ", n), "{0 0} false", call(impl.MakeFraction(n, n)))
	}
}

func TestFractionsAreExact(t *testing.T) {
	list := someFractions()
	exact := make([]*big.Rat, len(list))
	for i, f := range list {
		exact[i] = big.NewRat(f.Num, f.Den)
	}
	for i, f := range list {
		for j, g := range list {
			a, b := exact[i], exact[j]
			what := fmt.Sprint(f, g)
			expect(t, "AddFractions "+what, resultOf(new(big.Rat).Add(a, b)), call(impl.AddFractions(f, g)))
			expect(t, "SubFractions "+what, resultOf(new(big.Rat).Sub(a, b)), call(impl.SubFractions(f, g)))
			expect(t, "MulFractions "+what, resultOf(new(big.Rat).Mul(a, b)), call(impl.MulFractions(f, g)))
			expect(t, "CompareFractions "+what, fmt.Sprint(a.Cmp(b), true), call(impl.CompareFractions(f, g)))
			quotient := "{0 0} false"
			if g.Num != 0 {
				quotient = resultOf(new(big.Rat).Quo(a, b))
			}
			expect(t, "DivFractions "+what, quotient, call(impl.DivFractions(f, g)))
		}
	}
}

func TestLimitsOfFractions(t *testing.T) {
	whole := func(n int64) impl.Fraction { return ratio(n, 1) }
	part := func(d int64) impl.Fraction { return ratio(1, d) }
	expect(t, "sum at the limit", "{1000000000000000000 1} true", call(impl.AddFractions(whole(impl.MaxPart-1), whole(1))))
	expect(t, "sum past the limit", "{0 0} false", call(impl.AddFractions(whole(impl.MaxPart), whole(1))))
	expect(t, "difference at the limit", "{-1000000000000000000 1} true", call(impl.SubFractions(whole(-impl.MaxPart), whole(0))))
	expect(t, "difference past the limit", "{0 0} false", call(impl.SubFractions(whole(-impl.MaxPart), whole(1))))
	expect(t, "difference of the ends", "{0 1} true", call(impl.SubFractions(whole(-impl.MaxPart), whole(-impl.MaxPart))))
	expect(t, "product at the limit", "{1 1000000000000000000} true", call(impl.MulFractions(part(1000000000), part(1000000000))))
	expect(t, "product past the limit by 1", "{0 0} false", call(impl.MulFractions(part(101), part(9900990099009901))))
	expect(t, "greatest product past the limit by 1", "{0 0} false", call(impl.MulFractions(whole(101), whole(9900990099009901))))
	expect(t, "least product past the limit by 1", "{0 0} false", call(impl.MulFractions(whole(-101), whole(9900990099009901))))
	expect(t, "quotient at the limit", "{-1 1000000000000000000} true", call(impl.DivFractions(whole(1), whole(-impl.MaxPart))))
	expect(t, "quotient past the limit", "{0 0} false", call(impl.DivFractions(part(2), whole(impl.MaxPart))))
	expect(t, "greatest quotient", "{1000000000000000000 1} true", call(impl.DivFractions(whole(1), part(impl.MaxPart))))
	expect(t, "large in between", "{1 1} true", call(impl.AddFractions(ratio(impl.MaxPart-1, impl.MaxPart), part(impl.MaxPart))))
	expect(t, "neighbours", "-1 true", call(impl.CompareFractions(ratio(impl.MaxPart-2, impl.MaxPart-1), ratio(impl.MaxPart-1, impl.MaxPart))))
}

func TestFunctionsRequireFractions(t *testing.T) {
	half := ratio(1, 2)
	for _, f := range noFractions() {
		what := fmt.Sprint(f)
		for _, pair := range [][2]impl.Fraction{{f, half}, {half, f}, {f, f}} {
			expect(t, "AddFractions "+what, "{0 0} false", call(impl.AddFractions(pair[0], pair[1])))
			expect(t, "SubFractions "+what, "{0 0} false", call(impl.SubFractions(pair[0], pair[1])))
			expect(t, "MulFractions "+what, "{0 0} false", call(impl.MulFractions(pair[0], pair[1])))
			expect(t, "DivFractions "+what, "{0 0} false", call(impl.DivFractions(pair[0], pair[1])))
			expect(t, "CompareFractions "+what, "0 false", call(impl.CompareFractions(pair[0], pair[1])))
		}
		expect(t, "SumFractions "+what, "{0 0} false", call(impl.SumFractions([]impl.Fraction{f})))
		expect(t, "SumFractions at the end "+what, "{0 0} false", call(impl.SumFractions([]impl.Fraction{half, f})))
		expect(t, "FractionText "+what, " false", call(impl.FractionText(f)))
		expect(t, "ReadFraction "+what, "{0 0} false", call(impl.ReadFraction(fmt.Sprint(f.Num, "/", f.Den))))
	}
	for _, f := range []impl.Fraction{ratio(0, 1), half, ratio(-3, 1)} {
		expect(t, fmt.Sprint("divided by 0: ", f), "{0 0} false", call(impl.DivFractions(f, ratio(0, 1))))
	}
}

func TestSumFractions(t *testing.T) {
	full := listOf(ratio(1, impl.MaxItems), impl.MaxItems)
	expect(t, "none", "{0 1} true", call(impl.SumFractions(nil)))
	expect(t, "one", "{-2 3} true", call(impl.SumFractions([]impl.Fraction{ratio(-2, 3)})))
	expect(t, "several", "{1 1} true", call(impl.SumFractions([]impl.Fraction{ratio(1, 2), ratio(1, 3), ratio(1, 6)})))
	expect(t, "as many as there can be", "{1 1} true", call(impl.SumFractions(full)))
	expect(t, "one too many", "{0 0} false", call(impl.SumFractions(append(full, ratio(0, 1)))))
	expect(t, "up to the limit", "{1000000000000000000 1} true", call(impl.SumFractions([]impl.Fraction{ratio(impl.MaxPart, 1), ratio(-1, 1), ratio(1, 1)})))
	expect(t, "past the limit and back", "{0 0} false", call(impl.SumFractions([]impl.Fraction{ratio(impl.MaxPart, 1), ratio(1, 1), ratio(-1, 1)})))
	expect(t, "denominators past the limit and back", "{0 0} false", call(impl.SumFractions([]impl.Fraction{ratio(1, 1000000007), ratio(1, 1000000009), ratio(-1, 1000000007)})))
}

func TestFractionTexts(t *testing.T) {
	for _, f := range append(someFractions(), ratio(-7, 1), ratio(22, 7)) {
		text := big.NewRat(f.Num, f.Den).RatString()
		expect(t, fmt.Sprint("FractionText ", f), text+" true", call(impl.FractionText(f)))
		expect(t, "ReadFraction "+text, fmt.Sprint(f, true), call(impl.ReadFraction(text)))
	}
	expect(t, "0", "0 true", call(impl.FractionText(ratio(0, 1))))
	expect(t, "greatest", "1000000000000000000/999999999999999999 true", call(impl.FractionText(ratio(impl.MaxPart, impl.MaxPart-1))))
	for _, s := range []string{"", "/", "1/", "/2", "3/1", "0/1", "0/2", "2/4", "-0", "-0/1", "+1", "01", "1/02", "1/-2", "-1/-2", "1/0", "1//2", "1/2/3", "1/2/", " 1/2", "1 /2",
		"1/2\n", "1.5", "none", "1000000000000000001", "-1000000000000000001", "1/1000000000000000001", "9223372036854775808", "1/9223372036854775808"} {
		expect(t, "ReadFraction "+s, "{0 0} false", call(impl.ReadFraction(s)))
	}
}

func TestReadFractionOfAllTexts(t *testing.T) {
	for s := range allTexts("012-/ ", 6) {
		f, ok := impl.ReadFraction(s)
		r, readable := new(big.Rat).SetString(s)
		canonical := readable && r.RatString() == s
		if ok != canonical || ok && (f.Num != r.Num().Int64() || f.Den != r.Denom().Int64()) || !ok && f != (impl.Fraction{}) {
			t.Errorf("ReadFraction %q: got %v, %v", s, f, ok)
		}
	}
}
