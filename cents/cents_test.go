package cents_test

import (
	"math"
	"math/big"
	"math/rand"
	"slices"
	"testing"

	"backhaul/api"
	"backhaul/cents"
)

const most = 1000000000000

// edges lie around the limits, around what 64 bits hold, and around 0.
var edges = []int{
	math.MinInt, math.MinInt + 1, math.MinInt + most, -1 << 62, math.MinInt32 - 1, math.MinInt32,
	-2*most - 1, -2 * most, -most - 2, -most - 1, -most, -most + 1, -most / 2, -most/2 - 1, -1000000, -7, -3, -2, -1,
	0, 1, 2, 3, 7, 60, 999999, 1000000, 1000001, math.MaxInt32, math.MaxInt32 + 1, 1 << 32,
	most/2 - 1, most / 2, most/2 + 1, most - 2, most - 1, most, most + 1, most + 2, 2*most - 1, 2 * most, 2*most + 1,
	1 << 62, math.MaxInt - most, math.MaxInt - 1, math.MaxInt,
}

func whole(n int) *big.Int { return big.NewInt(int64(n)) }

// isAmount is the definition of an amount, on whole numbers.
func isAmount(n *big.Int) bool { return new(big.Int).Abs(n).Cmp(whole(most)) <= 0 }

// amountOf is a result that has to be an amount.
func amountOf(n *big.Int) (int, api.Errno) {
	if !isAmount(n) {
		return 0, api.ErrOver
	}
	return int(n.Int64()), api.OK
}

// addOf is the definition of Add: each beginning of the list is summed anew.
func addOf(l []int) (int, api.Errno) {
	sum := new(big.Int)
	for end := range l {
		sum = new(big.Int)
		for _, n := range l[:end+1] {
			sum.Add(sum, whole(n))
		}
		if !isAmount(whole(l[end])) || !isAmount(sum) {
			return 0, api.ErrOver
		}
	}
	return amountOf(sum)
}

// subOf is the definition of Sub.
func subOf(a, b int) (int, api.Errno) {
	if !isAmount(whole(a)) || !isAmount(whole(b)) {
		return 0, api.ErrOver
	}
	return amountOf(new(big.Int).Sub(whole(a), whole(b)))
}

// timesOf is the definition of Times.
func timesOf(a, n int) (int, api.Errno) {
	if !isAmount(whole(a)) || !isAmount(whole(n)) {
		return 0, api.ErrOver
	}
	return amountOf(new(big.Int).Mul(whole(a), whole(n)))
}

type division func(a, b, c int) (int, api.Errno)

// divisionOf is the definition of what Floor, Half and Rest have in common; result computes from the product, c, the quotient and the remainder.
func divisionOf(result func(product, c, quotient, rest *big.Int) (int, api.Errno)) division {
	return func(a, b, c int) (int, api.Errno) {
		if c < 1 {
			return 0, api.ErrArg
		}
		for _, n := range []int{a, b, c} {
			if n < 0 || n > most {
				return 0, api.ErrOver
			}
		}
		product := new(big.Int).Mul(whole(a), whole(b))
		quotient, rest := new(big.Int).DivMod(product, whole(c), new(big.Int))
		if !isAmount(quotient) {
			return 0, api.ErrOver
		}
		return result(product, whole(c), quotient, rest)
	}
}

func floorOf(product, c, quotient, rest *big.Int) (int, api.Errno) { return amountOf(quotient) }

func restOf(product, c, quotient, rest *big.Int) (int, api.Errno) { return amountOf(rest) }

// halfOf rounds half up as the quotient of twice the product and c by twice c, rounded down.
func halfOf(product, c, quotient, rest *big.Int) (int, api.Errno) {
	twice := new(big.Int).Add(product, product)
	return amountOf(twice.Add(twice, c).Div(twice, new(big.Int).Add(c, c)))
}

// divisions are the three calls, each with its definition.
var divisions = []struct {
	name       string
	call, want division
}{
	{"Floor", cents.Floor, divisionOf(floorOf)},
	{"Half", cents.Half, divisionOf(halfOf)},
	{"Rest", cents.Rest, divisionOf(restOf)},
}

// compareDivisions compares the three calls with their definitions.
func compareDivisions(t *testing.T, a, b, c int) {
	t.Helper()
	for _, d := range divisions {
		want, code := d.want(a, b, c)
		if got, e := d.call(a, b, c); got != want || e != code {
			t.Errorf("%s(%d, %d, %d) = %d, %d, want %d, %d", d.name, a, b, c, got, int(e), want, int(code))
		}
	}
}

// randomAmount returns a non-negative amount, of each length in digits as often as of each other.
func randomAmount(r *rand.Rand) int {
	limit := 1
	for range r.Intn(13) {
		limit *= 10
	}
	return r.Intn(limit + 1)
}

// randomSigned returns an amount, or a number somewhat beyond one.
func randomSigned(r *rand.Rand) int {
	n := randomAmount(r)
	if r.Intn(20) == 0 {
		n = most - 2 + r.Intn(5)
	}
	return n * (1 - 2*r.Intn(2))
}

// P2.1

func TestInAtTheLimits(t *testing.T) {
	for n, want := range map[int]bool{
		0: true, 1: true, -1: true, 42: true, -42: true,
		most: true, most - 1: true, most + 1: false, most + 2: false, 2 * most: false,
		-most: true, -most + 1: true, -most - 1: false, -most - 2: false, -2 * most: false,
		1 << 62: false, -1 << 62: false,
		math.MaxInt: false, math.MaxInt - 1: false, math.MinInt: false, math.MinInt + 1: false,
		1<<40 - 1: false, 1 << 39: true, -1 << 39: true, math.MaxInt32: true, math.MinInt32: true,
	} {
		if got := cents.In(n); got != want {
			t.Errorf("In(%d) = %t, want %t", n, got, want)
		}
	}
}

func TestInOfManyNumbers(t *testing.T) {
	r := rand.New(rand.NewSource(1))
	numbers := slices.Clone(edges)
	for range 10000 {
		numbers = append(numbers, randomSigned(r), int(r.Uint64()), int(r.Uint64()>>uint(r.Intn(64))))
	}
	for _, n := range numbers {
		if got := cents.In(n); got != isAmount(whole(n)) {
			t.Errorf("In(%d) = %t", n, got)
		}
	}
}

func TestLimitOfAmounts(t *testing.T) {
	if api.MaxCents != most {
		t.Errorf("MaxCents is %d, want 10^12", api.MaxCents)
	}
}

// P2.2

func TestAddOfSomeLists(t *testing.T) {
	for _, x := range []struct {
		l    []int
		want int
		e    api.Errno
	}{
		{nil, 0, api.OK},
		{[]int{}, 0, api.OK},
		{[]int{0}, 0, api.OK},
		{[]int{5}, 5, api.OK},
		{[]int{-5}, -5, api.OK},
		{[]int{1, 2, 3, 4}, 10, api.OK},
		{[]int{1, -2, 3, -4}, -2, api.OK},
		{[]int{most}, most, api.OK},
		{[]int{-most}, -most, api.OK},
		{[]int{most, 0}, most, api.OK},
		{[]int{most - 1, 1}, most, api.OK},
		{[]int{1 - most, -1}, -most, api.OK},
		{[]int{most / 2, most / 2}, most, api.OK},
		{[]int{most, -1, 1}, most, api.OK},
		{[]int{most, -most, most}, most, api.OK},
		{[]int{most, -most, -most, most}, 0, api.OK},
		{[]int{-most, 1, -1}, -most, api.OK},
		{[]int{most, 1, -1}, 0, api.ErrOver},
		{[]int{1, most, -1}, 0, api.ErrOver},
		{[]int{-1, -most, 1}, 0, api.ErrOver},
		{[]int{most, most, -most}, 0, api.ErrOver},
		{[]int{1, most}, 0, api.ErrOver},
		{[]int{-most, -1}, 0, api.ErrOver},
		{[]int{most, most}, 0, api.ErrOver},
		{[]int{-most, -most}, 0, api.ErrOver},
		{[]int{most + 1}, 0, api.ErrOver},
		{[]int{-most - 1}, 0, api.ErrOver},
		{[]int{-1, most + 1}, 0, api.ErrOver},
		{[]int{1, -most - 1}, 0, api.ErrOver},
		{[]int{most + 1, -1}, 0, api.ErrOver},
		{[]int{-most - 1, 1}, 0, api.ErrOver},
		{[]int{1, 2, 3, most + 1}, 0, api.ErrOver},
		{[]int{-most, most + 1}, 0, api.ErrOver},
		{[]int{most, -most - 1}, 0, api.ErrOver},
		{[]int{math.MaxInt}, 0, api.ErrOver},
		{[]int{math.MinInt}, 0, api.ErrOver},
		{[]int{math.MaxInt, math.MinInt}, 0, api.ErrOver},
		{[]int{math.MinInt, math.MaxInt}, 0, api.ErrOver},
		{[]int{math.MinInt, math.MinInt}, 0, api.ErrOver},
		{[]int{math.MaxInt, 1}, 0, api.ErrOver},
		{[]int{1, math.MaxInt}, 0, api.ErrOver},
		{[]int{-1, math.MinInt}, 0, api.ErrOver},
		{[]int{1, math.MaxInt, 1 << 62, 1 << 62, -1}, 0, api.ErrOver},
	} {
		if got, e := cents.Add(x.l...); got != x.want || e != x.e {
			t.Errorf("Add(%v) = %d, %d, want %d, %d", x.l, got, int(e), x.want, int(x.e))
		}
	}
}

func TestAddTakesEachAmountAsAnArgument(t *testing.T) {
	if got, e := cents.Add(); got != 0 || e != api.OK {
		t.Errorf("Add() = %d, %d, want 0", got, int(e))
	}
	if got, e := cents.Add(api.MaxCents, 1, -1); got != 0 || e != api.ErrOver {
		t.Errorf("Add(MaxCents, 1, -1) = %d, %d, want ErrOver", got, int(e))
	}
	if got, e := cents.Add(api.MaxCents, -1, 1); got != api.MaxCents || e != api.OK {
		t.Errorf("Add(MaxCents, -1, 1) = %d, %d, want MaxCents", got, int(e))
	}
}

func TestAddOfAllPairsAndTriplesOfEdges(t *testing.T) {
	check := func(l ...int) {
		want, code := addOf(l)
		if got, e := cents.Add(l...); got != want || e != code {
			t.Errorf("Add(%v) = %d, %d, want %d, %d", l, got, int(e), want, int(code))
		}
	}
	for _, a := range edges {
		check(a)
		for _, b := range edges {
			check(a, b)
			for _, c := range edges {
				check(a, b, c)
			}
		}
	}
}

func TestAddOfManyLists(t *testing.T) {
	r := rand.New(rand.NewSource(2))
	for range 5000 {
		l := make([]int, r.Intn(12))
		for i := range l {
			l[i] = randomSigned(r)
		}
		before := slices.Clone(l)
		want, code := addOf(l)
		if got, e := cents.Add(l...); got != want || e != code {
			t.Errorf("Add(%v) = %d, %d, want %d, %d", l, got, int(e), want, int(code))
		}
		if !slices.Equal(l, before) {
			t.Fatalf("Add changed %v into %v", before, l)
		}
	}
}

func TestAddOfALongList(t *testing.T) {
	l := slices.Repeat([]int{1}, 100000)
	if got, e := cents.Add(l...); got != 100000 || e != api.OK {
		t.Errorf("Add of 100000 ones = %d, %d", got, int(e))
	}
	// Without a test on the way, the sum would return to an amount by wrapping around.
	if got, e := cents.Add(slices.Repeat([]int{1 << 39}, 1<<17)...); got != 0 || e != api.ErrOver {
		t.Errorf("Add of a list whose sum is 2^56 = %d, %d, want ErrOver", got, int(e))
	}
}

func TestAddLeavesTheMemoryBehindItsArguments(t *testing.T) {
	l := []int{1, 2, 3, 4}
	if got, e := cents.Add(l[:2]...); got != 3 || e != api.OK || !slices.Equal(l, []int{1, 2, 3, 4}) {
		t.Errorf("Add = %d, %d, and the list is now %v", got, int(e), l)
	}
}

func TestSubOfSomeAmounts(t *testing.T) {
	for _, x := range []struct {
		a, b, want int
		e          api.Errno
	}{
		{0, 0, 0, api.OK},
		{5, 3, 2, api.OK},
		{3, 5, -2, api.OK},
		{-3, 5, -8, api.OK},
		{3, -5, 8, api.OK},
		{-3, -5, 2, api.OK},
		{most, most, 0, api.OK},
		{-most, -most, 0, api.OK},
		{most, 0, most, api.OK},
		{0, most, -most, api.OK},
		{0, -most, most, api.OK},
		{-most, 0, -most, api.OK},
		{most - 1, -1, most, api.OK},
		{1 - most, 1, -most, api.OK},
		{most, -1, 0, api.ErrOver},
		{-most, 1, 0, api.ErrOver},
		{1, -most, 0, api.ErrOver},
		{-1, most, 0, api.ErrOver},
		{most, -most, 0, api.ErrOver},
		{-most, most, 0, api.ErrOver},
		{most + 1, 1, 0, api.ErrOver},
		{-most - 1, -1, 0, api.ErrOver},
		{1, most + 1, 0, api.ErrOver},
		{-1, -most - 1, 0, api.ErrOver},
		{most + 1, most + 1, 0, api.ErrOver},
		{-most - 1, -most - 1, 0, api.ErrOver},
		{math.MaxInt, math.MaxInt, 0, api.ErrOver},
		{math.MinInt, math.MinInt, 0, api.ErrOver},
		{math.MinInt, 1, 0, api.ErrOver},
		{math.MinInt, math.MaxInt, 0, api.ErrOver},
		{math.MaxInt, math.MinInt, 0, api.ErrOver},
		{0, math.MinInt, 0, api.ErrOver},
		{0, math.MaxInt, 0, api.ErrOver},
		{math.MaxInt, -1, 0, api.ErrOver},
		{-1, math.MinInt, 0, api.ErrOver},
	} {
		if got, e := cents.Sub(x.a, x.b); got != x.want || e != x.e {
			t.Errorf("Sub(%d, %d) = %d, %d, want %d, %d", x.a, x.b, got, int(e), x.want, int(x.e))
		}
	}
}

func TestTimesOfSomeAmounts(t *testing.T) {
	for _, x := range []struct {
		a, n, want int
		e          api.Errno
	}{
		{0, 0, 0, api.OK},
		{6, 7, 42, api.OK},
		{-6, 7, -42, api.OK},
		{6, -7, -42, api.OK},
		{-6, -7, 42, api.OK},
		{0, -7, 0, api.OK},
		{most, 0, 0, api.OK},
		{0, most, 0, api.OK},
		{0, -most, 0, api.OK},
		{-most, 0, 0, api.OK},
		{most, 1, most, api.OK},
		{1, most, most, api.OK},
		{most, -1, -most, api.OK},
		{-most, 1, -most, api.OK},
		{-most, -1, most, api.OK},
		{-1, -most, most, api.OK},
		{-1, most, -most, api.OK},
		{1000000, 1000000, most, api.OK},
		{-1000000, 1000000, -most, api.OK},
		{1000000, -1000000, -most, api.OK},
		{-1000000, -1000000, most, api.OK},
		{999999, 1000001, most - 1, api.OK},
		{most / 2, 2, most, api.OK},
		{most/2 + 1, 2, 0, api.ErrOver},
		{2, -most/2 - 1, 0, api.ErrOver},
		{1000001, 1000000, 0, api.ErrOver},
		{-1000000, 1000001, 0, api.ErrOver},
		{1000001, -1000000, 0, api.ErrOver},
		{-1000001, -1000000, 0, api.ErrOver},
		{most, 2, 0, api.ErrOver},
		{most, -2, 0, api.ErrOver},
		{most, most, 0, api.ErrOver},
		{most, -most, 0, api.ErrOver},
		{-most, -most, 0, api.ErrOver},
		{0, most + 1, 0, api.ErrOver},
		{0, -most - 1, 0, api.ErrOver},
		{most + 1, 0, 0, api.ErrOver},
		{-most - 1, 0, 0, api.ErrOver},
		{most + 1, 1, 0, api.ErrOver},
		{1, most + 1, 0, api.ErrOver},
		{1, -most - 1, 0, api.ErrOver},
		{0, math.MaxInt, 0, api.ErrOver},
		{0, math.MinInt, 0, api.ErrOver},
		{math.MaxInt, 0, 0, api.ErrOver},
		{math.MinInt, 0, 0, api.ErrOver},
		{math.MinInt, -1, 0, api.ErrOver},
		{-1, math.MinInt, 0, api.ErrOver},
		{math.MaxInt, math.MaxInt, 0, api.ErrOver},
		{math.MinInt, math.MinInt, 0, api.ErrOver},
		// What 64 bits would keep of these products is an amount: 0, 0, 0, 2, -4, 21.
		{1 << 32, 1 << 32, 0, api.ErrOver},
		{1 << 39, -1 << 25, 0, api.ErrOver},
		{-1 << 38, -1 << 30, 0, api.ErrOver},
		{77158673929, 239075442, 0, api.ErrOver},
		{-2147549185, 8589672452, 0, api.ErrOver},
		{-61836419, -298315206023, 0, api.ErrOver},
	} {
		if got, e := cents.Times(x.a, x.n); got != x.want || e != x.e {
			t.Errorf("Times(%d, %d) = %d, %d, want %d, %d", x.a, x.n, got, int(e), x.want, int(x.e))
		}
	}
}

func TestTimesOfNothingBeyondTheLimit(t *testing.T) {
	if got, e := cents.Times(0, api.MaxCents+1); got != 0 || e != api.ErrOver {
		t.Errorf("Times(0, MaxCents + 1) = %d, %d, want ErrOver", got, int(e))
	}
}

func TestSubAndTimesOfManyPairs(t *testing.T) {
	check := func(a, b int) {
		want, code := subOf(a, b)
		if got, e := cents.Sub(a, b); got != want || e != code {
			t.Errorf("Sub(%d, %d) = %d, %d, want %d, %d", a, b, got, int(e), want, int(code))
		}
		want, code = timesOf(a, b)
		if got, e := cents.Times(a, b); got != want || e != code {
			t.Errorf("Times(%d, %d) = %d, %d, want %d, %d", a, b, got, int(e), want, int(code))
		}
	}
	for _, a := range edges {
		for _, b := range edges {
			check(a, b)
		}
	}
	r := rand.New(rand.NewSource(3))
	for range 20000 {
		a, b := randomSigned(r), randomSigned(r)
		check(a, b)
		if a != 0 {
			near := most/a + r.Intn(5) - 2
			check(a, near)
			check(a, -near)
		}
		check(int(r.Uint64()), int(r.Uint64()))
	}
}

// P2.3

func TestExamplesOfDivisions(t *testing.T) {
	if got, e := cents.Floor(5, 1, 2); got != 2 || e != api.OK {
		t.Errorf("Floor(5, 1, 2) = %d, %d, want 2", got, int(e))
	}
	if got, e := cents.Half(5, 1, 2); got != 3 || e != api.OK {
		t.Errorf("Half(5, 1, 2) = %d, %d, want 3", got, int(e))
	}
	if got, e := cents.Rest(5, 1, 2); got != 1 || e != api.OK {
		t.Errorf("Rest(5, 1, 2) = %d, %d, want 1", got, int(e))
	}
	if got, e := cents.Floor(1000000000000, 1000000, 1000000); got != 1000000000000 || e != api.OK {
		t.Errorf("Floor(10^12, 10^6, 10^6) = %d, %d, want 10^12", got, int(e))
	}
}

func TestDivisionsOfSomeAmounts(t *testing.T) {
	for _, x := range []struct{ a, b, c, floor, half, rest int }{
		{0, 0, 1, 0, 0, 0},
		{0, most, most, 0, 0, 0},
		{1, 1, 1, 1, 1, 0},
		{6, 7, 2, 21, 21, 0},
		{7, 1, 4, 1, 2, 3},
		{5, 1, 4, 1, 1, 1},
		{6, 1, 4, 1, 2, 2},
		{1, 1, 2, 0, 1, 1},
		{1, 1, 3, 0, 0, 1},
		{2, 1, 3, 0, 1, 2},
		{5, 1, 10, 0, 1, 5},
		{4, 1, 9, 0, 0, 4},
		{5, 1, 9, 0, 1, 5},
		{1999, 825, 10000, 164, 165, 9175},
		{most, 1, 1, most, most, 0},
		{1, most, 1, most, most, 0},
		{1, 1, most, 0, 0, 1},
		{1, most / 2, most, 0, 1, most / 2},
		{1, most/2 - 1, most, 0, 0, most/2 - 1},
		{most - 1, 1, most, 0, 1, most - 1},
		// The following products do not fit into 64 bits.
		{most, most, most, most, most, 0},
		{most, 1000000000, 1000000000, most, most, 0},
		{most - 1, most - 1, most, most - 2, most - 2, 1},
		{most - 1, most, most, most - 1, most - 1, 0},
		{most, most - 1, most - 1, most, most, 0},
		{most - 1, most - 1, most - 1, most - 1, most - 1, 0},
		{most, 10000001, 10000002, 999999900000, 999999900000, 200000},
		{1 << 39, 1 << 39, 1 << 39, 1 << 39, 1 << 39, 0},
		{1 << 39, 1 << 39, 1<<39 + 1, 1<<39 - 1, 1<<39 - 1, 1},
		{77158673929, 239075442, 77158673929, 239075442, 239075442, 0},
		{77158673929, 239075442, 1 << 32, 1 << 32, 1 << 32, 2},
	} {
		for i, want := range []int{x.floor, x.half, x.rest} {
			if got, e := divisions[i].call(x.a, x.b, x.c); got != want || e != api.OK {
				t.Errorf("%s(%d, %d, %d) = %d, %d, want %d", divisions[i].name, x.a, x.b, x.c, got, int(e), want)
			}
		}
	}
}

func TestDivisionsRefuse(t *testing.T) {
	for _, x := range []struct {
		a, b, c int
		e       api.Errno
	}{
		{1, 1, 0, api.ErrArg},
		{1, 1, -1, api.ErrArg},
		{0, 0, 0, api.ErrArg},
		{0, 0, -most, api.ErrArg},
		{1, 1, -most - 1, api.ErrArg},
		{1, 1, math.MinInt, api.ErrArg},
		{-1, 1, 0, api.ErrArg},
		{1, -1, -1, api.ErrArg},
		{most + 1, 1, 0, api.ErrArg},
		{1, math.MaxInt, 0, api.ErrArg},
		{math.MinInt, math.MinInt, math.MinInt, api.ErrArg},
		{math.MaxInt, math.MaxInt, 0, api.ErrArg},
		{most, most, 0, api.ErrArg},
		{1, 1, most + 1, api.ErrOver},
		{0, 0, most + 1, api.ErrOver},
		{1, 1, math.MaxInt, api.ErrOver},
		{-1, 1, 1, api.ErrOver},
		{1, -1, 1, api.ErrOver},
		{-1, -1, 1, api.ErrOver},
		{-1, 0, 1, api.ErrOver},
		{0, -1, 1, api.ErrOver},
		{-most, 1, most, api.ErrOver},
		{-most - 1, 1, most, api.ErrOver},
		{0, most + 1, 1, api.ErrOver},
		{most + 1, 0, 1, api.ErrOver},
		{most + 1, 1, 2, api.ErrOver},
		{1, most + 1, 2, api.ErrOver},
		{math.MinInt, 0, 1, api.ErrOver},
		{0, math.MinInt, 1, api.ErrOver},
		{math.MaxInt, 0, 1, api.ErrOver},
		{0, math.MaxInt, 1, api.ErrOver},
		{math.MinInt, math.MinInt, 1, api.ErrOver},
		{math.MaxInt, math.MaxInt, math.MaxInt, api.ErrOver},
		// Here the quotient is too great.
		{most, 2, 1, api.ErrOver},
		{2, most, 1, api.ErrOver},
		{1000001, 1000000, 1, api.ErrOver},
		{most, 3, 2, api.ErrOver},
		{most, most, 1, api.ErrOver},
		{most, most, 2, api.ErrOver},
		{most, most, 54210, api.ErrOver},
		{most, most, 1000000, api.ErrOver},
		{most, most, most - 1, api.ErrOver},
		{1 << 39, 1 << 39, 1, api.ErrOver},
		{1 << 32, 1 << 32, 1, api.ErrOver},
		{1 << 32, 1 << 32, 7, api.ErrOver},
		{77158673929, 239075442, 1, api.ErrOver},
		{61836419, 298315206023, 21, api.ErrOver},
		{1 << 32, 1 << 32, 1 << 24, api.ErrOver},
	} {
		for _, d := range divisions {
			if got, e := d.call(x.a, x.b, x.c); got != 0 || e != x.e {
				t.Errorf("%s(%d, %d, %d) = %d, %d, want 0, %d", d.name, x.a, x.b, x.c, got, int(e), int(x.e))
			}
		}
	}
}

// At the limit, Half alone refuses what it rounds up to more than an amount; Floor and Rest still have their results.
func TestHalfRoundsUpBeyondTheLimit(t *testing.T) {
	for _, x := range []struct {
		a, b, c, half, rest int
		e                   api.Errno
	}{
		{666666666667, 3, 2, 0, 1, api.ErrOver},
		{most - 1, 500000000001, 500000000000, 0, 499999999999, api.ErrOver},
		{most - 1, 666666666667, 666666666666, 0, 333333333333, api.ErrOver},
		{most - 1, 666666666668, 666666666667, most, 333333333332, api.OK},
		{most - 1, most - 1, most - 2, most, 1, api.OK},
	} {
		if got, e := cents.Floor(x.a, x.b, x.c); got != most || e != api.OK {
			t.Errorf("Floor(%d, %d, %d) = %d, %d, want 10^12", x.a, x.b, x.c, got, int(e))
		}
		if got, e := cents.Half(x.a, x.b, x.c); got != x.half || e != x.e {
			t.Errorf("Half(%d, %d, %d) = %d, %d, want %d, %d", x.a, x.b, x.c, got, int(e), x.half, int(x.e))
		}
		if got, e := cents.Rest(x.a, x.b, x.c); got != x.rest || e != api.OK {
			t.Errorf("Rest(%d, %d, %d) = %d, %d, want %d", x.a, x.b, x.c, got, int(e), x.rest)
		}
	}
}

func TestDivisionsOfEdges(t *testing.T) {
	for _, a := range edges {
		for _, b := range edges {
			for _, c := range edges {
				compareDivisions(t, a, b, c)
			}
		}
	}
}

func TestDivisionsOfSmallNumbers(t *testing.T) {
	for a := -1; a < 30; a++ {
		for b := -1; b < 30; b++ {
			for c := -1; c < 30; c++ {
				compareDivisions(t, a, b, c)
			}
		}
	}
}

func TestDivisionsOfManyAmounts(t *testing.T) {
	r := rand.New(rand.NewSource(4))
	for range 50000 {
		a, b, c := randomAmount(r), randomAmount(r), randomAmount(r)
		compareDivisions(t, a, b, c)
		compareDivisions(t, randomSigned(r), randomSigned(r), randomSigned(r))
		compareDivisions(t, int(r.Uint64()), int(r.Uint64()), int(r.Uint64()))
	}
}

func TestDivisionsOfProductsBeyond64Bits(t *testing.T) {
	r := rand.New(rand.NewSource(5))
	for range 50000 {
		a, b := most-r.Intn(most/100), most-r.Intn(most/100)
		c := most - r.Intn(most/50)
		compareDivisions(t, a, b, c)
		compareDivisions(t, a, 1<<30+r.Intn(1<<20), 1<<30+r.Intn(1<<20))
	}
}

// quotientAtTheLimit returns a and b whose product by c has the quotient 10^12, or hardly more.
func quotientAtTheLimit(c int) (a, b int) { return most - most/(c+1), c + 1 }

func TestDivisionsWithQuotientsAtTheLimit(t *testing.T) {
	r := rand.New(rand.NewSource(6))
	kept, rounded := 0, 0
	for range 50000 {
		c := 1 + randomAmount(r)%(most-1)
		a, b := quotientAtTheLimit(c)
		for near := -1; near <= 1; near++ {
			compareDivisions(t, a+near, b, c)
		}
		floor, _ := cents.Floor(a, b, c)
		half, _ := cents.Half(a, b, c)
		if floor == most && half == most {
			kept++
		}
		if floor == most && half == 0 {
			rounded++
		}
	}
	if kept < 1000 || rounded < 1000 {
		t.Errorf("too few cases at the limit: %d, %d", kept, rounded)
	}
}

// P2.4

func TestWhatIsAddedCanBeSubtracted(t *testing.T) {
	r := rand.New(rand.NewSource(7))
	pairs := 0
	check := func(a, b int) {
		sum, e := cents.Add(a, b)
		if e != api.OK {
			return
		}
		pairs++
		if back, e := cents.Sub(sum, b); back != a || e != api.OK {
			t.Errorf("Sub(Add(%d, %d), %d) = %d, %d", a, b, b, back, int(e))
		}
		if back, e := cents.Sub(sum, a); back != b || e != api.OK {
			t.Errorf("Sub(Add(%d, %d), %d) = %d, %d", a, b, a, back, int(e))
		}
	}
	for _, a := range edges {
		for _, b := range edges {
			check(a, b)
		}
	}
	for range 20000 {
		check(randomSigned(r), randomSigned(r))
	}
	if pairs < 10000 {
		t.Errorf("only %d pairs have a sum", pairs)
	}
}

func TestTheOrderOfNonNegativeAmountsDoesNotMatter(t *testing.T) {
	r := rand.New(rand.NewSource(8))
	seen := map[api.Errno]int{}
	for range 5000 {
		l := make([]int, 1+r.Intn(8))
		for i := range l {
			l[i] = randomAmount(r)
		}
		// Half of the lists have a sum at the limit or one beyond it.
		if sum, e := cents.Add(l...); e == api.OK && r.Intn(2) == 0 {
			l = append(l, min(most, most-sum+r.Intn(2)))
		}
		want, code := cents.Add(l...)
		seen[code]++
		for range 10 {
			r.Shuffle(len(l), func(i, j int) { l[i], l[j] = l[j], l[i] })
			if got, e := cents.Add(l...); got != want || e != code {
				t.Errorf("Add(%v) = %d, %d, but in another order %d, %d", l, got, int(e), want, int(code))
			}
		}
	}
	if seen[api.OK] < 500 || seen[api.ErrOver] < 500 {
		t.Errorf("too few cases: %v", seen)
	}
}

// P2.5

func TestFloorAndRestMakeTheProduct(t *testing.T) {
	r := rand.New(rand.NewSource(9))
	products := 0
	check := func(a, b, c int) {
		product, e := cents.Times(a, b)
		if e != api.OK || min(a, b) < 0 || c < 1 || c > most {
			return
		}
		products++
		floor, e1 := cents.Floor(a, b, c)
		rest, e2 := cents.Rest(a, b, c)
		divided, e3 := cents.Times(floor, c)
		sum, e4 := cents.Add(divided, rest)
		if sum != product || e1 != api.OK || e2 != api.OK || e3 != api.OK || e4 != api.OK {
			t.Errorf("%d times %d by %d: %d times %d plus %d is %d, want %d", a, b, c, floor, c, rest, sum, product)
		}
		if rest < 0 || rest >= c {
			t.Errorf("Rest(%d, %d, %d) = %d", a, b, c, rest)
		}
	}
	for _, a := range edges {
		for _, b := range edges {
			for _, c := range edges {
				check(a, b, c)
			}
		}
	}
	for range 50000 {
		check(randomAmount(r), randomAmount(r), randomAmount(r))
	}
	if products < 10000 {
		t.Errorf("only %d products are amounts", products)
	}
}

func TestHalfIsTheNearer(t *testing.T) {
	r := rand.New(rand.NewSource(10))
	up, down := 0, 0
	for range 50000 {
		a, b, c := randomAmount(r), randomAmount(r), 1+randomAmount(r)%most
		half, e := cents.Half(a, b, c)
		if e != api.OK {
			continue
		}
		floor, _ := cents.Floor(a, b, c)
		rest, _ := cents.Rest(a, b, c)
		below, above := rest, c-rest
		switch {
		case half == floor && below < above:
			down++
		case half == floor+1 && above <= below:
			up++
		default:
			t.Errorf("Half(%d, %d, %d) = %d, where %d is left above %d", a, b, c, half, rest, floor)
		}
	}
	if up < 1000 || down < 1000 {
		t.Errorf("too few cases: %d, %d", up, down)
	}
}

func TestCallsDoNotDependOnWhatWasCalledBefore(t *testing.T) {
	for range 3 {
		compareDivisions(t, most, most, most)
		compareDivisions(t, 5, 1, 2)
		compareDivisions(t, most, most, 0)
		if got, e := cents.Add(1, 2, 3); got != 6 || e != api.OK {
			t.Errorf("Add(1, 2, 3) = %d, %d", got, int(e))
		}
		if got, e := cents.Add(most, 1); got != 0 || e != api.ErrOver {
			t.Errorf("Add(10^12, 1) = %d, %d", got, int(e))
		}
	}
}
