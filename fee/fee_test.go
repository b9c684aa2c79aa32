package fee_test

import (
	"math"
	"math/big"
	"math/rand"
	"slices"
	"testing"

	"backhaul/api"
	"backhaul/fee"
)

const most = 1000000000000

// amounts lie around the limits of amounts, around what 64 bits hold, around halves, and around 0.
var amounts = []int{
	math.MinInt, math.MinInt + 1, math.MinInt + most, -1 << 62, -1 << 32, -most - 1, -most, -most + 1, -10000, -2, -1,
	0, 1, 2, 3, 5, 15, 25, 1004, 1005, 1006, 4999, 5000, 5001, 9999, 10000, 10001, 15000, 25000, 999999,
	math.MaxInt32, math.MaxInt32 + 1, 1 << 32, most/2 - 1, most / 2, most/2 + 1,
	most - 10000, most - 5001, most - 5000, most - 4999, most - 2, most - 1, most, most + 1, most + 2, most + 10000,
	2 * most, 1 << 62, math.MaxInt - most, math.MaxInt - 1, math.MaxInt,
}

// bases lie around the limits of basis points, around their half, and where a number of fewer bits wraps around into them.
var bases = []int{
	math.MinInt, math.MinInt + 1, -1 << 62, -most, -1 << 32, 5000 - 1<<32, 5000 - 1<<16, -10001, -10000, -9999, -2, -1,
	0, 1, 2, 3, 500, 1000, 3333, 4999, 5000, 5001, 6667, 9998, 9999, 10000, 10001, 10002, 20000,
	1 << 16, 5000 + 1<<16, 1 << 32, 5000 + 1<<32, most, most + 1, 1 << 62, math.MaxInt - 1, math.MaxInt,
}

// grades lie around the grades that there are, and where a number of fewer bits wraps around into them.
var grades = []int{math.MinInt, math.MinInt + 1, -1 << 32, 1 - 1<<32, -4, -3, -2, -1, 0, 1, 2, 3, 4, 5, 8, 1<<8 + 1, 1<<16 + 1, 1 << 32, 1<<32 + 1, most, math.MaxInt - 1, math.MaxInt}

func isBasis(n int) bool { return 0 <= n && n <= 10000 }

func isTaken(n int) bool { return 0 <= n && n <= most }

// checkOf is the definition of Check.
func checkOf(fees []int) api.Errno {
	if len(fees) != 4 {
		return api.ErrRules
	}
	for i, f := range fees {
		if !isBasis(f) || i > 0 && f < fees[i-1] {
			return api.ErrRules
		}
	}
	return api.OK
}

// nearest is the whole number nearest to amount times basis divided by 10000, the greater one of two; the product is no greater than 10^16.
func nearest(amount, basis int) int {
	return (2*amount*basis + 10000) / 20000
}

// feeOf is the definition of Of.
func feeOf(amount, basis int) (int, api.Errno) {
	switch {
	case !isBasis(basis):
		return 0, api.ErrArg
	case !isTaken(amount):
		return 0, api.ErrOver
	}
	return nearest(amount, basis), api.OK
}

// lessOf is the definition of Less.
func lessOf(amount, basis int) (int, api.Errno) {
	n, e := feeOf(amount, basis)
	if e != api.OK {
		return 0, e
	}
	return amount - n, api.OK
}

// gradeOf is the definition of Grade.
func gradeOf(amount int, fees []int, grade int) (int, api.Errno) {
	if e := checkOf(fees); e != api.OK {
		return 0, e
	}
	if grade < 0 || grade > 3 {
		return 0, api.ErrArg
	}
	return lessOf(amount, fees[grade])
}

// allOf is the definition of All.
func allOf(amount int, fees []int) ([4]int, api.Errno) {
	if e := checkOf(fees); e != api.OK {
		return [4]int{}, e
	}
	if !isTaken(amount) {
		return [4]int{}, api.ErrOver
	}
	var all [4]int
	for i, f := range fees {
		all[i] = amount - nearest(amount, f)
	}
	return all, api.OK
}

// compare compares Of and Less with their definitions.
func compare(t *testing.T, amount, basis int) {
	t.Helper()
	want, code := feeOf(amount, basis)
	if got, e := fee.Of(amount, basis); got != want || e != code {
		t.Errorf("Of(%d, %d) = %d, %d, want %d, %d", amount, basis, got, int(e), want, int(code))
	}
	want, code = lessOf(amount, basis)
	if got, e := fee.Less(amount, basis); got != want || e != code {
		t.Errorf("Less(%d, %d) = %d, %d, want %d, %d", amount, basis, got, int(e), want, int(code))
	}
}

// compareLists compares Check, Grade and All with their definitions.
func compareLists(t *testing.T, amount int, fees []int) {
	t.Helper()
	before := slices.Clone(fees)
	if got, want := fee.Check(fees), checkOf(fees); got != want {
		t.Errorf("Check(%v) = %d, want %d", fees, int(got), int(want))
	}
	for _, grade := range grades {
		want, code := gradeOf(amount, fees, grade)
		if got, e := fee.Grade(amount, fees, grade); got != want || e != code {
			t.Errorf("Grade(%d, %v, %d) = %d, %d, want %d, %d", amount, fees, grade, got, int(e), want, int(code))
		}
	}
	want, code := allOf(amount, fees)
	if got, e := fee.All(amount, fees); got != want || e != code {
		t.Errorf("All(%d, %v) = %v, %d, want %v, %d", amount, fees, got, int(e), want, int(code))
	}
	if !slices.Equal(fees, before) {
		t.Fatalf("%v has been changed into %v", before, fees)
	}
}

// lists calls f with each list of n of the numbers.
func lists(n int, numbers []int, f func(l []int)) {
	if n == 0 {
		f(nil)
		return
	}
	lists(n-1, numbers, func(l []int) {
		for _, x := range numbers {
			f(append(slices.Clone(l), x))
		}
	})
}

// randomAmount returns a non-negative amount, of each length in digits as often as of each other.
func randomAmount(r *rand.Rand) int {
	top := 1
	for range r.Intn(13) {
		top *= 10
	}
	return r.Intn(top + 1)
}

// randomFees returns fees, some of which are equal.
func randomFees(r *rand.Rand) []int {
	l := []int{r.Intn(10001), r.Intn(10001), r.Intn(10001), r.Intn(10001)}
	if r.Intn(3) == 0 {
		l[r.Intn(4)] = l[r.Intn(4)]
	}
	if r.Intn(3) == 0 {
		l[r.Intn(4)] = 10000 * r.Intn(2)
	}
	slices.Sort(l)
	return l
}

func TestTheLimits(t *testing.T) {
	if api.MaxCents != most || api.MaxBasis != 10000 || api.Grades != 4 {
		t.Errorf("MaxCents %d, MaxBasis %d, Grades %d", api.MaxCents, api.MaxBasis, api.Grades)
	}
}

// P4.1

// allowed are fees.
var allowed = [][]int{
	{0, 0, 0, 0}, {0, 500, 500, 10000}, {0, 1, 2, 3}, {1, 1, 1, 1}, {5, 5, 5, 6}, {5, 5, 6, 6}, {5, 6, 6, 6},
	{0, 0, 0, 10000}, {0, 0, 10000, 10000}, {0, 10000, 10000, 10000}, {10000, 10000, 10000, 10000},
	{9999, 9999, 9999, 9999}, {9999, 10000, 10000, 10000}, {9997, 9998, 9999, 10000}, {0, 1, 9999, 10000}, {0, 1000, 2500, 5000},
}

// refused are no fees.
var refused = [][]int{
	nil, {}, {0}, {10000}, {0, 0}, {0, 0, 0}, {0, 500, 1000}, {10000, 10000, 10000},
	{0, 0, 0, 0, 0}, {0, 500, 500, 10000, 10000}, {1, 2, 3, 4, 5}, {0, 0, 0, 0, 0, 0, 0, 0}, make([]int, 1000), make([]int, 100000),
	// The first four, or the last four, are no fees either.
	{-1, 0, 0, 0, 0}, {0, 0, 0, 0, 10001}, {0, 0, 0, 0, -1}, {4, 3, 2, 1, 0}, {-1, 0, 0}, {0, 0, 10001}, {1, 0, 0}, {0, -1, 0},
	// One of them is out of range.
	{-1, 0, 0, 0}, {-1, -1, -1, -1}, {-1, 0, 10000, 10001}, {-10000, 0, 0, 0}, {math.MinInt, 0, 0, 0}, {math.MinInt, math.MinInt, math.MinInt, math.MinInt},
	{0, 0, 0, 10001}, {10001, 10001, 10001, 10001}, {0, 10001, 10001, 10001}, {0, 0, 10001, 10001}, {0, 0, 0, math.MaxInt}, {math.MaxInt, math.MaxInt, math.MaxInt, math.MaxInt},
	{math.MinInt, 0, 0, math.MaxInt}, {0, 0, 0, 1 << 16}, {0, 0, 0, 1 << 32}, {-1 << 32, 0, 0, 0},
	{0, -1, 0, 0}, {0, 0, -1, 0}, {0, 0, 0, -1}, {10001, 0, 0, 0}, {0, 10001, 0, 0}, {0, 0, 10001, 0}, {0, math.MaxInt, math.MinInt, 0},
	// One of them is less than the one before it.
	{5, 4, 5, 5}, {5, 5, 4, 5}, {5, 5, 5, 4}, {5, 4, 4, 4}, {5, 5, 4, 4}, {5, 4, 6, 7}, {1, 0, 0, 0}, {1, 1, 0, 0}, {1, 1, 1, 0}, {1, 0, 1, 1}, {1, 1, 0, 1},
	{10000, 9999, 10000, 10000}, {10000, 10000, 9999, 10000}, {10000, 10000, 10000, 9999}, {9999, 9998, 10000, 10000}, {0, 9999, 9998, 10000}, {0, 0, 10000, 9999},
	{3, 2, 1, 0}, {10000, 500, 500, 0}, {10000, 0, 0, 0}, {10000, 0, 0, 10000}, {0, 10000, 0, 10000}, {0, 500, 499, 500}, {2, 3, 1, 4},
}

func TestCheckTakesFees(t *testing.T) {
	for _, l := range allowed {
		if e := fee.Check(l); e != api.OK {
			t.Errorf("Check(%v) = %d, want OK", l, int(e))
		}
	}
}

func TestCheckRefuses(t *testing.T) {
	for _, l := range refused {
		if e := fee.Check(l); e != api.ErrRules {
			t.Errorf("Check of %d: %.8v = %d, want ErrRules", len(l), l, int(e))
		}
	}
}

func TestCheckOfFeesThatFallByOne(t *testing.T) {
	for _, basis := range []int{1, 2, 500, 5000, 9999, 10000} {
		for place := range 4 {
			l := slices.Repeat([]int{basis}, 4)
			l[place]--
			want := api.ErrRules
			if place == 0 {
				want = api.OK
			}
			if e := fee.Check(l); e != want {
				t.Errorf("Check(%v) = %d, want %d", l, int(e), int(want))
			}
		}
	}
}

func TestListsByTheirDefinitions(t *testing.T) {
	for n := range 6 {
		lists(n, []int{-1, 0, 1, 9999, 10000, 10001}, func(l []int) { compareLists(t, 1005, l) })
	}
	lists(4, []int{math.MinInt, 0, 3333, 3334, 5000, math.MaxInt}, func(l []int) {
		compareLists(t, most, l)
		compareLists(t, most+1, l)
	})
}

// P4.2

func TestOfAndLessOfSomeAmounts(t *testing.T) {
	for _, x := range []struct{ amount, basis, fee, less int }{
		{1005, 1000, 101, 904},
		{0, 0, 0, 0},
		{0, 1, 0, 0},
		{0, 10000, 0, 0},
		{1, 0, 0, 1},
		{1, 1, 0, 1},
		{1, 9999, 1, 0},
		{1, 10000, 1, 0},
		{200, 0, 0, 200},
		{200, 500, 10, 190},
		{200, 10000, 200, 0},
		{55, 1000, 6, 49},
		{37, 5000, 19, 18},
		{9999, 1, 1, 9998},
		{10000, 1, 1, 9999},
		{10000, 9999, 9999, 1},
		{10000, 10000, 10000, 0},
		{10000, 3333, 3333, 6667},
		{100, 3333, 33, 67},
		{100, 6667, 67, 33},
		{1999, 1500, 300, 1699},
		{most, 0, 0, most},
		{most, 1, 100000000, 999900000000},
		{most, 5000, 500000000000, 500000000000},
		{most, 9999, 999900000000, 100000000},
		{most, 10000, most, 0},
		{most - 1, 0, 0, most - 1},
		{most - 1, 1, 100000000, 999899999999},
		{most - 1, 9999, 999899999999, 100000000},
		{most - 1, 10000, most - 1, 0},
	} {
		if got, e := fee.Of(x.amount, x.basis); got != x.fee || e != api.OK {
			t.Errorf("Of(%d, %d) = %d, %d, want %d", x.amount, x.basis, got, int(e), x.fee)
		}
		if got, e := fee.Less(x.amount, x.basis); got != x.less || e != api.OK {
			t.Errorf("Less(%d, %d) = %d, %d, want %d", x.amount, x.basis, got, int(e), x.less)
		}
	}
}

func TestHalvesAreRoundedUp(t *testing.T) {
	for _, x := range []struct{ amount, basis, fee int }{
		{1004, 1000, 100}, {1005, 1000, 101}, {1006, 1000, 101}, {1014, 1000, 101}, {1015, 1000, 102}, {1016, 1000, 102},
		{1, 4999, 0}, {1, 5000, 1}, {1, 5001, 1},
		{3, 4999, 1}, {3, 5000, 2}, {3, 5001, 2},
		{5, 4999, 2}, {5, 5000, 3}, {5, 5001, 3},
		{7, 5000, 4}, {9, 5000, 5}, {5, 1000, 1}, {15, 1000, 2}, {25, 1000, 3}, {35, 1000, 4},
		{4999, 1, 0}, {5000, 1, 1}, {5001, 1, 1},
		{14999, 1, 1}, {15000, 1, 2}, {15001, 1, 2},
		{24999, 1, 2}, {25000, 1, 3}, {25001, 1, 3},
		{5000, 9999, 5000}, {4999, 9999, 4999}, {5001, 9999, 5000}, {15000, 9999, 14999}, {15001, 9999, 14999},
		{most - 1, 5000, 500000000000}, {most - 3, 5000, 499999999999},
		{most - 5001, 1, 99999999}, {most - 5000, 1, 100000000}, {most - 4999, 1, 100000000},
		{most - 5001, 9999, 999899995000}, {most - 5000, 9999, 999899995001}, {most - 4999, 9999, 999899995001},
	} {
		if got, e := fee.Of(x.amount, x.basis); got != x.fee || e != api.OK {
			t.Errorf("Of(%d, %d) = %d, %d, want %d", x.amount, x.basis, got, int(e), x.fee)
		}
		if got, e := fee.Less(x.amount, x.basis); got != x.amount-x.fee || e != api.OK {
			t.Errorf("Less(%d, %d) = %d, %d, want %d", x.amount, x.basis, got, int(e), x.amount-x.fee)
		}
	}
}

// The error of the basis comes before that of the amount.
func TestOfAndLessRefuse(t *testing.T) {
	for _, x := range []struct {
		amount, basis int
		e             api.Errno
	}{
		{0, -1, api.ErrArg},
		{0, 10001, api.ErrArg},
		{1, -1, api.ErrArg},
		{1, 10001, api.ErrArg},
		{most, -1, api.ErrArg},
		{most, 10001, api.ErrArg},
		{100, math.MinInt, api.ErrArg},
		{100, math.MaxInt, api.ErrArg},
		{-1, 0, api.ErrOver},
		{-1, 10000, api.ErrOver},
		{-most, 5000, api.ErrOver},
		{most + 1, 0, api.ErrOver},
		{most + 1, 1, api.ErrOver},
		{most + 1, 10000, api.ErrOver},
		{math.MinInt, 0, api.ErrOver},
		{math.MinInt, 10000, api.ErrOver},
		{math.MaxInt, 0, api.ErrOver},
		{math.MaxInt, 10000, api.ErrOver},
		{-1, -1, api.ErrArg},
		{-1, 10001, api.ErrArg},
		{most + 1, -1, api.ErrArg},
		{most + 1, 10001, api.ErrArg},
		{math.MinInt, math.MinInt, api.ErrArg},
		{math.MaxInt, math.MaxInt, api.ErrArg},
		{math.MinInt, math.MaxInt, api.ErrArg},
		{math.MaxInt, math.MinInt, api.ErrArg},
	} {
		if got, e := fee.Of(x.amount, x.basis); got != 0 || e != x.e {
			t.Errorf("Of(%d, %d) = %d, %d, want 0, %d", x.amount, x.basis, got, int(e), int(x.e))
		}
		if got, e := fee.Less(x.amount, x.basis); got != 0 || e != x.e {
			t.Errorf("Less(%d, %d) = %d, %d, want 0, %d", x.amount, x.basis, got, int(e), int(x.e))
		}
	}
}

func TestOfAndLessByTheirDefinitions(t *testing.T) {
	for _, amount := range amounts {
		for _, basis := range bases {
			compare(t, amount, basis)
		}
	}
	for amount := -1; amount <= 60; amount++ {
		for basis := -1; basis <= 10001; basis++ {
			compare(t, amount, basis)
		}
	}
	for _, basis := range []int{1, 2, 3, 7, 3333, 4999, 5000, 5001, 9998, 9999} {
		for n := range 20001 {
			compare(t, n, basis)
			compare(t, most+1-n, basis)
		}
	}
}

// That is so by whole numbers of any length, too, and not only by those of 64 bits.
func TestOfIsTheNearestWholeNumber(t *testing.T) {
	r := rand.New(rand.NewSource(1))
	for range 20000 {
		amount, basis := randomAmount(r), r.Intn(10001)
		twice := new(big.Int).Mul(big.NewInt(int64(2*amount)), big.NewInt(int64(basis)))
		want := twice.Div(twice.Add(twice, big.NewInt(10000)), big.NewInt(20000))
		if got, e := fee.Of(amount, basis); want.Cmp(big.NewInt(int64(got))) != 0 || e != api.OK {
			t.Errorf("Of(%d, %d) = %d, %d, want %s", amount, basis, got, int(e), want)
		}
		compare(t, amount, basis)
	}
}

// P4.3

func TestGradeAndAllOfSomeFees(t *testing.T) {
	for _, x := range []struct {
		amount int
		fees   []int
		want   [4]int
	}{
		{200, []int{0, 500, 500, 10000}, [4]int{200, 190, 190, 0}},
		{200, []int{0, 0, 0, 0}, [4]int{200, 200, 200, 200}},
		{200, []int{10000, 10000, 10000, 10000}, [4]int{}},
		{200, []int{1, 50, 9999, 10000}, [4]int{200, 199, 0, 0}},
		{1005, []int{0, 1000, 2000, 3000}, [4]int{1005, 904, 804, 703}},
		{1000, []int{0, 1000, 2500, 5000}, [4]int{1000, 900, 750, 500}},
		{10000, []int{0, 1, 9999, 10000}, [4]int{10000, 9999, 1, 0}},
		{10000, []int{1, 2, 3, 4}, [4]int{9999, 9998, 9997, 9996}},
		{1, []int{4999, 5000, 5001, 10000}, [4]int{1, 0, 0, 0}},
		{3, []int{0, 1666, 1667, 5000}, [4]int{3, 3, 2, 1}},
		{0, []int{0, 500, 500, 10000}, [4]int{}},
		{most, []int{0, 1, 9999, 10000}, [4]int{most, 999900000000, 100000000, 0}},
		{most - 1, []int{0, 1, 9999, 10000}, [4]int{most - 1, 999899999999, 100000000, 0}},
	} {
		if got, e := fee.All(x.amount, x.fees); got != x.want || e != api.OK {
			t.Errorf("All(%d, %v) = %v, %d, want %v", x.amount, x.fees, got, int(e), x.want)
		}
		for grade, want := range x.want {
			if got, e := fee.Grade(x.amount, x.fees, grade); got != want || e != api.OK {
				t.Errorf("Grade(%d, %v, %d) = %d, %d, want %d", x.amount, x.fees, grade, got, int(e), want)
			}
		}
	}
}

// The error of the fees comes before those of the grade and of the amount.
func TestGradeAndAllRefuseWhatAreNoFees(t *testing.T) {
	for _, l := range refused {
		for _, amount := range amounts {
			if got, e := fee.All(amount, l); got != [4]int{} || e != api.ErrRules {
				t.Errorf("All(%d, %.8v) = %v, %d, want zeros, ErrRules", amount, l, got, int(e))
			}
			for _, grade := range grades {
				if got, e := fee.Grade(amount, l, grade); got != 0 || e != api.ErrRules {
					t.Errorf("Grade(%d, %.8v, %d) = %d, %d, want 0, ErrRules", amount, l, grade, got, int(e))
				}
			}
		}
	}
}

// The error of the grade comes before that of the amount.
func TestGradeRefusesGrades(t *testing.T) {
	refusals := 0
	for _, l := range allowed {
		for _, amount := range amounts {
			for _, grade := range grades {
				if grade >= 0 && grade < 4 {
					continue
				}
				refusals++
				if got, e := fee.Grade(amount, l, grade); got != 0 || e != api.ErrArg {
					t.Errorf("Grade(%d, %v, %d) = %d, %d, want 0, ErrArg", amount, l, grade, got, int(e))
				}
			}
		}
	}
	if want := len(allowed) * len(amounts) * (len(grades) - 4); refusals != want {
		t.Errorf("%d refusals, want %d", refusals, want)
	}
}

func TestGradeAndAllRefuseAmounts(t *testing.T) {
	for _, l := range allowed {
		for _, amount := range []int{-1, -2, -10000, -most, -most - 1, most + 1, most + 2, 2 * most, math.MinInt, math.MinInt + 1, math.MaxInt - 1, math.MaxInt} {
			if got, e := fee.All(amount, l); got != [4]int{} || e != api.ErrOver {
				t.Errorf("All(%d, %v) = %v, %d, want zeros, ErrOver", amount, l, got, int(e))
			}
			for grade := range 4 {
				if got, e := fee.Grade(amount, l, grade); got != 0 || e != api.ErrOver {
					t.Errorf("Grade(%d, %v, %d) = %d, %d, want 0, ErrOver", amount, l, grade, got, int(e))
				}
			}
		}
	}
}

func TestGradeAndAllByTheirDefinitions(t *testing.T) {
	for _, l := range allowed {
		for _, amount := range amounts {
			compareLists(t, amount, l)
		}
	}
	r := rand.New(rand.NewSource(2))
	for range 5000 {
		compareLists(t, randomAmount(r), randomFees(r))
	}
}

// P4.4

func TestFeesAreFromZeroToTheAmount(t *testing.T) {
	check := func(amount, basis int) {
		taken, e := fee.Of(amount, basis)
		left, f := fee.Less(amount, basis)
		if e != api.OK || f != api.OK || taken < 0 || taken > amount || left < 0 || left > amount || taken+left != amount {
			t.Errorf("of %d with %d: %d, %d and %d, %d", amount, basis, taken, int(e), left, int(f))
		}
		if basis == 0 && taken != 0 || basis == 10000 && taken != amount {
			t.Errorf("Of(%d, %d) = %d", amount, basis, taken)
		}
	}
	r := rand.New(rand.NewSource(3))
	for basis := range 10001 {
		for _, amount := range []int{0, 1, 2, 9999, 10000, randomAmount(r), randomAmount(r), most - r.Intn(20000), most - 1, most} {
			check(amount, basis)
		}
	}
	for range 10000 {
		amount := randomAmount(r)
		check(amount, 0)
		check(amount, 10000)
	}
}

// P4.5

// steps calls f with each number from the first one to the last one, and checks that its results never fall, and how often they rise.
func steps(t *testing.T, first, last, rises int, f func(n int) (int, api.Errno)) {
	t.Helper()
	previous, e := f(first)
	risen := 0
	for n := first + 1; n <= last && e == api.OK; n++ {
		var result int
		if result, e = f(n); result < previous {
			t.Errorf("%d after %d at %d", result, previous, n)
		} else if result > previous {
			risen++
		}
		previous = result
	}
	if e != api.OK || risen != rises {
		t.Errorf("from %d to %d: %d rises, error %d; want %d rises", first, last, risen, int(e), rises)
	}
}

func TestMoreBasisPointsNeverMakeTheFeeSmaller(t *testing.T) {
	for amount, rises := range map[int]int{0: 0, 1: 1, 2: 2, 3: 3, 7: 7, 100: 100, 1005: 1005, 9999: 9999, 10000: 10000, 12345: 10000, most - 1: 10000, most: 10000} {
		steps(t, 0, 10000, rises, func(basis int) (int, api.Errno) { return fee.Of(amount, basis) })
	}
}

func TestAGreaterAmountNeverMakesTheFeeSmaller(t *testing.T) {
	for basis, rises := range map[int]int{0: 0, 1: 2, 2: 4, 100: 200, 3333: 6666, 4999: 9998, 5000: 10000, 5001: 10002, 9999: 19998, 10000: 20000} {
		of := func(amount int) (int, api.Errno) { return fee.Of(amount, basis) }
		steps(t, 0, 20000, rises, of)
		steps(t, most-20000, most, rises, of)
	}
	r := rand.New(rand.NewSource(4))
	for range 10000 {
		small, great, basis := randomAmount(r), randomAmount(r), r.Intn(10001)
		if small > great {
			small, great = great, small
		}
		less, _ := fee.Of(small, basis)
		if more, e := fee.Of(great, basis); more < less || e != api.OK {
			t.Errorf("with %d: %d of %d, but %d of %d, %d", basis, less, small, more, great, int(e))
		}
	}
}

func TestAWorseGradeNeverLeavesMore(t *testing.T) {
	r := rand.New(rand.NewSource(5))
	fell := 0
	for range 10000 {
		amount, fees := randomAmount(r), randomFees(r)
		all, e := fee.All(amount, fees)
		if e != api.OK {
			t.Fatalf("All(%d, %v): %d", amount, fees, int(e))
		}
		for grade := range 3 {
			better, _ := fee.Grade(amount, fees, grade)
			worse, e := fee.Grade(amount, fees, grade+1)
			if all[grade] < all[grade+1] || better < worse || e != api.OK {
				t.Errorf("All(%d, %v) = %v; Grade %d: %d, and %d: %d", amount, fees, all, grade, better, grade+1, worse)
			}
			if all[grade] > all[grade+1] {
				fell++
			}
		}
	}
	if fell < 10000 {
		t.Errorf("a worse grade left less only %d times", fell)
	}
}

// The general rules

func TestFeesAndWhatIsBehindThemStay(t *testing.T) {
	for _, memory := range [][]int{{0, 500, 500, 10000, 7, 3}, {4, 3, 2, 1, 0, 0}, {-1, 0, 10001, 5, 6, 7}, {0, 0, 0, 0, 0, 0}} {
		before := slices.Clone(memory)
		for n := range len(memory) + 1 {
			fees := memory[:n]
			fee.Check(fees)
			for _, amount := range []int{-1, 0, 200, most, most + 1} {
				fee.All(amount, fees)
				for grade := -1; grade < 5; grade++ {
					fee.Grade(amount, fees, grade)
				}
			}
			if !slices.Equal(memory, before) {
				t.Fatalf("after calls with %d fees %v has become %v", n, before, memory)
			}
		}
	}
}

// What lies behind a list's length counts as little as if it were not there.
func TestFeesEndAtTheirLength(t *testing.T) {
	memory := []int{0, 500, 500, 10000, -1, 20000}
	for n := range len(memory) + 1 {
		want := api.ErrRules
		if n == 4 {
			want = api.OK
		}
		if e := fee.Check(memory[:n]); e != want {
			t.Errorf("Check of the first %d of %v = %d, want %d", n, memory, int(e), int(want))
		}
		if _, e := fee.All(200, memory[:n]); e != want {
			t.Errorf("All of the first %d of %v: %d, want %d", n, memory, int(e), int(want))
		}
		if _, e := fee.Grade(200, memory[:n], 0); e != want {
			t.Errorf("Grade of the first %d of %v: %d, want %d", n, memory, int(e), int(want))
		}
	}
}

func TestCallsDoNotDependOnWhatWasCalledBefore(t *testing.T) {
	fees := []int{0, 500, 500, 10000}
	for range 3 {
		compareLists(t, 200, fees)
		compareLists(t, -1, fees)
		compareLists(t, most, []int{1, 2, 3, 4})
		compareLists(t, 200, []int{1, 0, 3, 4})
		compare(t, 1005, 1000)
		compare(t, 1005, -1)
	}
	// The same memory holds other fees now.
	fees[1] = 400
	compareLists(t, 200, fees)
}
