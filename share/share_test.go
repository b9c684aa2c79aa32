package share_test

import (
	"math"
	"math/big"
	"math/rand"
	"slices"
	"testing"

	"backhaul/api"
	"backhaul/share"
)

const most = 1000000000000

// edges lie around the limits of amounts, around what 64 bits hold, and around 0.
var edges = []int{
	math.MinInt, math.MinInt + 1, -1 << 62, -most - 1, -most, -most + 1, -2, -1,
	0, 1, 2, 3, 7, 199, 200, 201, most / 3, most/2 - 1, most / 2, most/2 + 1, most - 2, most - 1, most, most + 1, most + 2,
	1 << 62, math.MaxInt - 1, math.MaxInt,
}

// equal returns n equal weights.
func equal(n, weight int) []int { return slices.Repeat([]int{weight}, n) }

// with returns n weights of 0, but for one at the end.
func with(n, last int) []int { return append(equal(n-1, 0), last) }

func isShared(n int) bool { return 0 <= n && n <= most }

// wholeOf is the definition of Whole, on whole numbers.
func wholeOf(weights []int) (int, api.Errno) {
	if len(weights) == 0 || len(weights) > 200 {
		return 0, api.ErrArg
	}
	sum := new(big.Int)
	for _, w := range weights {
		if !isShared(w) {
			return 0, api.ErrOver
		}
		sum.Add(sum, big.NewInt(int64(w)))
	}
	if sum.Cmp(big.NewInt(most)) > 0 {
		return 0, api.ErrOver
	}
	if sum.Sign() == 0 {
		return len(weights), api.OK
	}
	return int(sum.Int64()), api.OK
}

// exact returns the proportion of the total for each weight, as a fraction.
func exact(total int, weights []int) []*big.Rat {
	whole, _ := wholeOf(weights)
	all := make([]*big.Rat, len(weights))
	for i, w := range weights {
		if slices.Max(weights) == 0 {
			w = 1
		}
		all[i] = big.NewRat(int64(w), int64(whole))
		all[i].Mul(all[i], new(big.Rat).SetInt64(int64(total)))
	}
	return all
}

func floor(r *big.Rat) int { return int(new(big.Int).Div(r.Num(), r.Denom()).Int64()) }

// outOf is the definition of Out: what remains goes, one by one, to the first of the weights with the greatest fraction that has got none of it.
func outOf(total int, weights []int) ([]int, api.Errno) {
	if _, e := wholeOf(weights); e != api.OK {
		return nil, e
	}
	if !isShared(total) {
		return nil, api.ErrOver
	}
	fractions := exact(total, weights)
	shares := make([]int, len(weights))
	left := total
	for i, f := range fractions {
		shares[i] = floor(f)
		left -= shares[i]
		f.Sub(f, new(big.Rat).SetInt64(int64(shares[i])))
	}
	for ; left > 0; left-- {
		first := 0
		for i, f := range fractions {
			if f.Cmp(fractions[first]) > 0 {
				first = i
			}
		}
		shares[first]++
		fractions[first].SetInt64(-1)
	}
	return shares, api.OK
}

// compare compares Whole, Out and Place with their definitions.
func compare(t *testing.T, total int, weights []int) {
	t.Helper()
	before := slices.Clone(weights)
	whole, wholeCode := wholeOf(weights)
	if got, e := share.Whole(weights); got != whole || e != wholeCode {
		t.Errorf("Whole(%v) = %d, %d, want %d, %d", weights, got, int(e), whole, int(wholeCode))
	}
	want, code := outOf(total, weights)
	got, e := share.Out(total, weights)
	if !slices.Equal(got, want) || e != code {
		t.Errorf("Out(%d, %v) = %v, %d, want %v, %d", total, weights, got, int(e), want, int(code))
	}
	for i := -1; i <= len(weights); i++ {
		wantAt, codeAt := 0, code
		if code == api.OK && (i < 0 || i == len(weights)) {
			codeAt = api.ErrArg
		} else if code == api.OK {
			wantAt = want[i]
		}
		if got, e := share.Place(total, weights, i); got != wantAt || e != codeAt {
			t.Errorf("Place(%d, %v, %d) = %d, %d, want %d, %d", total, weights, i, got, int(e), wantAt, int(codeAt))
		}
	}
	if !slices.Equal(weights, before) {
		t.Fatalf("%v has been changed into %v", before, weights)
	}
}

// randomAmount returns a non-negative amount, of each length in digits as often as of each other.
func randomAmount(r *rand.Rand, limit int) int {
	top := 1
	for range r.Intn(13) {
		top *= 10
	}
	return r.Intn(min(top, limit) + 1)
}

// randomWeights returns weights, many of which are equal, or 0; sometimes their sum is the greatest one.
func randomWeights(r *rand.Rand) []int {
	l := make([]int, 1+r.Intn(12))
	if r.Intn(10) == 0 {
		l = make([]int, 1+r.Intn(200))
	}
	left := most
	for i := range l {
		switch r.Intn(4) {
		case 0:
			l[i] = min(r.Intn(4), left)
		case 1:
			l[i] = min(l[r.Intn(len(l))], left)
		default:
			l[i] = randomAmount(r, left/2)
		}
		left -= l[i]
	}
	if r.Intn(4) == 0 {
		l[r.Intn(len(l))] += left
	}
	return l
}

// manyShares calls f with totals and weights that have shares.
func manyShares(seed int64, count int, f func(total int, weights []int)) {
	r := rand.New(rand.NewSource(seed))
	for range count {
		weights := randomWeights(r)
		f(randomAmount(r, most), weights)
		f(most-r.Intn(3), weights)
		f(r.Intn(3*len(weights)), weights)
	}
}

// smallLists calls f with each list of n of the numbers.
func smallLists(n int, numbers []int, f func(l []int)) {
	if n == 0 {
		f(nil)
		return
	}
	smallLists(n-1, numbers, func(l []int) {
		for _, x := range numbers {
			f(append(slices.Clone(l), x))
		}
	})
}

// P3.1

func TestWholeOfSomeWeights(t *testing.T) {
	for _, x := range []struct {
		weights []int
		want    int
	}{
		{[]int{1, 1, 1}, 3},
		{[]int{1, 2}, 3},
		{[]int{3, 3, 4}, 10},
		{[]int{5}, 5},
		{[]int{1}, 1},
		{[]int{0}, 1},
		{[]int{0, 0}, 2},
		{[]int{0, 0, 0, 0, 0}, 5},
		{[]int{0, 1, 0}, 1},
		{[]int{0, 0, 7}, 7},
		{[]int{most}, most},
		{[]int{0, most}, most},
		{[]int{most, 0, 0}, most},
		{[]int{most - 1}, most - 1},
		{[]int{most - 1, 1}, most},
		{[]int{1, most - 1}, most},
		{[]int{most / 2, most / 2}, most},
		{equal(200, 0), 200},
		{equal(199, 0), 199},
		{equal(200, 1), 200},
		{equal(200, most/200), most},
		{with(200, 1), 1},
		{with(200, most), most},
	} {
		if got, e := share.Whole(x.weights); got != x.want || e != api.OK {
			t.Errorf("Whole(%v) = %d, %d, want %d", x.weights, got, int(e), x.want)
		}
	}
}

// refused are no weights.
var refused = []struct {
	weights []int
	e       api.Errno
}{
	{nil, api.ErrArg},
	{[]int{}, api.ErrArg},
	{equal(201, 0), api.ErrArg},
	{equal(201, 1), api.ErrArg},
	{equal(202, 1), api.ErrArg},
	{equal(1000, 1), api.ErrArg},
	{equal(100000, 1), api.ErrArg},
	// The number of the weights is examined before the weights are.
	{equal(201, -1), api.ErrArg},
	{equal(201, most), api.ErrArg},
	{equal(201, math.MaxInt), api.ErrArg},
	{equal(201, math.MinInt), api.ErrArg},
	{[]int{-1}, api.ErrOver},
	{[]int{-most}, api.ErrOver},
	{[]int{-most - 1}, api.ErrOver},
	{[]int{most + 1}, api.ErrOver},
	{[]int{math.MinInt}, api.ErrOver},
	{[]int{math.MaxInt}, api.ErrOver},
	{[]int{0, -1}, api.ErrOver},
	{[]int{-1, 0}, api.ErrOver},
	{[]int{1, -1}, api.ErrOver},
	{[]int{-1, 1}, api.ErrOver},
	{[]int{5, -1, 5}, api.ErrOver},
	{[]int{most, -1}, api.ErrOver},
	{[]int{-1, most}, api.ErrOver},
	{[]int{-1, most, 1}, api.ErrOver},
	{[]int{most, 1}, api.ErrOver},
	{[]int{1, most}, api.ErrOver},
	{[]int{most - 1, 2}, api.ErrOver},
	{[]int{most, 0, 1, 0}, api.ErrOver},
	{[]int{most / 2, most/2 + 1}, api.ErrOver},
	{[]int{most, most}, api.ErrOver},
	{[]int{most, 1, -1}, api.ErrOver},
	{[]int{0, most + 1}, api.ErrOver},
	{[]int{math.MaxInt, math.MinInt}, api.ErrOver},
	{[]int{math.MinInt, math.MaxInt, 1}, api.ErrOver},
	{[]int{math.MinInt, math.MinInt}, api.ErrOver},
	// Their sum wraps around, to 0 and to 5.
	{[]int{math.MaxInt, math.MaxInt, 2}, api.ErrOver},
	{[]int{1 << 62, 1 << 62, 1 << 62, 1 << 62, 5}, api.ErrOver},
	{with(200, -1), api.ErrOver},
	{with(200, most+1), api.ErrOver},
	{append(equal(199, most/200), most/200+1), api.ErrOver},
	{equal(200, most), api.ErrOver},
	{equal(200, math.MaxInt), api.ErrOver},
}

func TestWholeRefuses(t *testing.T) {
	for _, x := range refused {
		if got, e := share.Whole(x.weights); got != 0 || e != x.e {
			t.Errorf("Whole(%v) = %d, %d, want 0, %d", x.weights, got, int(e), int(x.e))
		}
	}
}

// P3.2

func TestOutAndPlaceOfSomeWeights(t *testing.T) {
	for _, x := range []struct {
		total   int
		weights []int
		want    []int
	}{
		{100, []int{1, 1, 1}, []int{34, 33, 33}},
		{5, []int{3, 3, 4}, []int{2, 1, 2}},
		{10, []int{1, 2}, []int{3, 7}},
		{0, []int{1, 2, 3}, []int{0, 0, 0}},
		{0, []int{0, 0}, []int{0, 0}},
		{0, []int{most}, []int{0}},
		{7, []int{3}, []int{7}},
		{7, []int{0}, []int{7}},
		{7, []int{0, 0}, []int{4, 3}},
		{1, []int{0, 0, 0}, []int{1, 0, 0}},
		{8, []int{0, 0, 0}, []int{3, 3, 2}},
		{7, []int{0, 1}, []int{0, 7}},
		{7, []int{1, 0}, []int{7, 0}},
		{1, []int{0, 1, 0, 1}, []int{0, 1, 0, 0}},
		{2, []int{0, 1, 0, 1, 0, 1}, []int{0, 1, 0, 1, 0, 0}},
		{1, []int{1, 2}, []int{0, 1}},
		{2, []int{1, 2}, []int{1, 1}},
		{1, []int{2, 1}, []int{1, 0}},
		{2, []int{1, 3, 1}, []int{1, 1, 0}},
		{3, []int{1, 5, 2, 2}, []int{0, 1, 1, 1}},
		{100, []int{1, 2, 3}, []int{17, 33, 50}},
		{101, []int{1, 2, 3}, []int{17, 34, 50}},
		{99, []int{50, 30, 20}, []int{49, 30, 20}},
		{1, []int{49, 51}, []int{0, 1}},
		{1, []int{50, 50}, []int{1, 0}},
		{3, []int{1, 1}, []int{2, 1}},
		{most, []int{1}, []int{most}},
		{most, []int{most}, []int{most}},
		{1, []int{most}, []int{1}},
		{most, []int{0, most, 0}, []int{0, most, 0}},
		{most, []int{0, 0, 0}, []int{most/3 + 1, most / 3, most / 3}},
		{most, []int{1, 1, 1}, []int{most/3 + 1, most / 3, most / 3}},
		{most, []int{1, 2}, []int{most / 3, most - most/3}},
		{most, []int{most - 1, 1}, []int{most - 1, 1}},
		{most - 1, []int{1, most - 1}, []int{1, most - 2}},
		{most - 1, []int{most / 2, most / 2}, []int{most / 2, most/2 - 1}},
		{1, []int{most - 1, 1}, []int{1, 0}},
		{most / 2, []int{1, most - 1}, []int{1, most/2 - 1}},
		{most/2 - 1, []int{1, most - 1}, []int{0, most/2 - 1}},
	} {
		got, e := share.Out(x.total, x.weights)
		if !slices.Equal(got, x.want) || e != api.OK {
			t.Errorf("Out(%d, %v) = %v, %d, want %v", x.total, x.weights, got, int(e), x.want)
		}
		for i, want := range x.want {
			if got, e := share.Place(x.total, x.weights, i); got != want || e != api.OK {
				t.Errorf("Place(%d, %v, %d) = %d, %d, want %d", x.total, x.weights, i, got, int(e), want)
			}
		}
	}
}

// checkRefused checks that Out and Place return an error, and nothing with it.
func checkRefused(t *testing.T, total int, weights []int, want api.Errno) {
	t.Helper()
	if got, e := share.Out(total, weights); len(got) != 0 || e != want {
		t.Errorf("Out(%d, %v) = %v, %d, want nothing, %d", total, weights, got, int(e), int(want))
	}
	for _, i := range []int{0, 1, -1, len(weights) - 1, len(weights), 200, math.MinInt, math.MaxInt} {
		if got, e := share.Place(total, weights, i); got != 0 || e != want {
			t.Errorf("Place(%d, %v, %d) = %d, %d, want 0, %d", total, weights, i, got, int(e), int(want))
		}
	}
}

// The error of the weights comes before that of the total, and both before that of the index.
func TestOutAndPlaceRefuseWhatAreNoWeights(t *testing.T) {
	for _, x := range refused {
		for _, total := range edges {
			checkRefused(t, total, x.weights, x.e)
		}
	}
}

func TestOutAndPlaceRefuseTotals(t *testing.T) {
	lists := [][]int{{0}, {1}, {most}, {1, 1, 1}, {0, 0, 0}, {1, most - 1}, equal(200, 0), equal(200, most/200)}
	refusals := 0
	for _, weights := range lists {
		for _, total := range edges {
			if total < 0 || total > most {
				refusals++
				checkRefused(t, total, weights, api.ErrOver)
			} else if got, e := share.Out(total, weights); len(got) != len(weights) || e != api.OK {
				t.Errorf("Out(%d, %v) = %v, %d", total, weights, got, int(e))
			}
		}
	}
	if want := 13 * len(lists); refusals != want {
		t.Errorf("%d refusals, want %d", refusals, want)
	}
}

func TestPlaceRefusesIndices(t *testing.T) {
	for _, weights := range [][]int{{1}, {0}, {1, 1, 1}, {0, 0}, equal(200, 1)} {
		n := len(weights)
		for _, i := range []int{-1, -2, -n, n, n + 1, 201, 1 << 32, -1 << 32, math.MinInt, math.MinInt + 1, math.MaxInt} {
			if got, e := share.Place(100, weights, i); got != 0 || e != api.ErrArg {
				t.Errorf("Place(100, %v, %d) = %d, %d, want 0, ErrArg", weights, i, got, int(e))
			}
		}
		if got, e := share.Place(n, weights, n-1); got != 1 || e != api.OK {
			t.Errorf("Place(%d, %v, %d) = %d, %d, want 1", n, weights, n-1, got, int(e))
		}
	}
}

func TestOutOf200Weights(t *testing.T) {
	weights := make([]int, 200)
	for i := range weights {
		weights[i] = i % 7
	}
	for _, l := range [][]int{weights, equal(200, 0), equal(200, 1), equal(200, most/200), with(200, 1), with(200, most)} {
		for _, total := range []int{0, 1, 199, 200, 201, 12345, most - 1, most} {
			compare(t, total, l)
		}
	}
	got, e := share.Out(300, equal(200, 3))
	if want := append(equal(100, 2), equal(100, 1)...); !slices.Equal(got, want) || e != api.OK {
		t.Errorf("Out of 300 by 200 equal weights = %v, %d", got, int(e))
	}
}

func TestCallsByTheirDefinitionsAtTheEdges(t *testing.T) {
	for n := range 3 {
		smallLists(n, edges, func(l []int) {
			for _, total := range edges {
				compare(t, total, l)
			}
		})
	}
}

func TestCallsByTheirDefinitionsOfSmallWeights(t *testing.T) {
	for n := range 5 {
		smallLists(n, []int{-1, 0, 1, 2, 3, 5}, func(l []int) {
			for total := -1; total < 20; total++ {
				compare(t, total, l)
			}
		})
	}
}

func TestCallsByTheirDefinitionsOfManyWeights(t *testing.T) {
	manyShares(1, 1500, func(total int, weights []int) { compare(t, total, weights) })
}

// The remainders differ by 1 alone, far beyond what a float would tell apart.
func TestOutTellsGreatRemaindersApart(t *testing.T) {
	for _, x := range []struct {
		total         int
		weights, want []int
	}{
		{1, []int{most/2 - 1, most/2 + 1}, []int{0, 1}},
		{1, []int{most / 2, most/2 - 1}, []int{1, 0}},
		{1, []int{most/2 - 1, most / 2}, []int{0, 1}},
		{2, []int{333333333332, 333333333333, 333333333334}, []int{0, 1, 1}},
		{1, []int{333333333333, 333333333333, 333333333334}, []int{0, 0, 1}},
		{most - 1, []int{333333333334, 333333333333, 333333333333}, []int{333333333333, 333333333333, 333333333333}},
	} {
		if got, e := share.Out(x.total, x.weights); !slices.Equal(got, x.want) || e != api.OK {
			t.Errorf("Out(%d, %v) = %v, %d, want %v", x.total, x.weights, got, int(e), x.want)
		}
		compare(t, x.total, x.weights)
	}
}

// P3.3

func TestEvenlyOfSomeTotals(t *testing.T) {
	for _, x := range []struct {
		total, n int
		want     []int
	}{
		{10, 4, []int{3, 3, 2, 2}},
		{100, 3, []int{34, 33, 33}},
		{0, 1, []int{0}},
		{7, 1, []int{7}},
		{most, 1, []int{most}},
		{0, 3, []int{0, 0, 0}},
		{1, 3, []int{1, 0, 0}},
		{2, 3, []int{1, 1, 0}},
		{3, 3, []int{1, 1, 1}},
		{most, 3, []int{most/3 + 1, most / 3, most / 3}},
		{most - 1, 2, []int{most / 2, most/2 - 1}},
		{0, 200, equal(200, 0)},
		{1, 200, append([]int{1}, equal(199, 0)...)},
		{199, 200, append(equal(199, 1), 0)},
		{200, 200, equal(200, 1)},
		{201, 200, append([]int{2}, equal(199, 1)...)},
		{most, 200, equal(200, most/200)},
		{most - 1, 200, append(equal(199, most/200), most/200-1)},
	} {
		if got, e := share.Evenly(x.total, x.n); !slices.Equal(got, x.want) || e != api.OK {
			t.Errorf("Evenly(%d, %d) = %v, %d, want %v", x.total, x.n, got, int(e), x.want)
		}
	}
}

// The error of the number comes before that of the total.
func TestEvenlyRefuses(t *testing.T) {
	for _, n := range []int{0, -1, -200, 201, 202, 1 << 31, 1 << 32, 1<<32 + 1, most, math.MinInt, math.MinInt + 1, math.MaxInt} {
		for _, total := range edges {
			if got, e := share.Evenly(total, n); len(got) != 0 || e != api.ErrArg {
				t.Errorf("Evenly(%d, %d) = %v, %d, want nothing, ErrArg", total, n, got, int(e))
			}
		}
	}
	for _, n := range []int{1, 2, 199, 200} {
		for _, total := range edges {
			want := api.ErrOver
			if isShared(total) {
				want = api.OK
			}
			if got, e := share.Evenly(total, n); e != want || e != api.OK && len(got) != 0 {
				t.Errorf("Evenly(%d, %d) = %v, %d, want %d", total, n, got, int(e), int(want))
			}
		}
	}
}

func TestEvenlyIsOutByEqualWeights(t *testing.T) {
	r := rand.New(rand.NewSource(2))
	for n := 1; n <= 200; n++ {
		for _, total := range []int{0, 1, n - 1, n, n + 1, 2*n - 1, r.Intn(10 * n), randomAmount(r, most), most - 1, most} {
			got, e := share.Evenly(total, n)
			if want, _ := outOf(total, equal(n, 1)); !slices.Equal(got, want) || e != api.OK {
				t.Errorf("Evenly(%d, %d) = %v, %d, want %v", total, n, got, int(e), want)
			}
			for _, weight := range []int{0, 1, 5, most / n} {
				if out, e := share.Out(total, equal(n, weight)); !slices.Equal(got, out) || e != api.OK {
					t.Errorf("Evenly(%d, %d) = %v, but Out by weights of %d = %v", total, n, got, weight, out)
				}
			}
		}
	}
}

// P3.4

func TestTheSumOfTheSharesIsTheTotal(t *testing.T) {
	manyShares(3, 5000, func(total int, weights []int) {
		shares, e := share.Out(total, weights)
		sum := new(big.Int)
		for _, s := range shares {
			sum.Add(sum, big.NewInt(int64(s)))
		}
		if sum.Cmp(big.NewInt(int64(total))) != 0 || len(shares) != len(weights) || e != api.OK {
			t.Errorf("Out(%d, %v) = %v, %d, the sum of which is %s", total, weights, shares, int(e), sum)
		}
	})
}

func TestEachShareIsTheProportionRoundedDownOrUp(t *testing.T) {
	up, down := 0, 0
	manyShares(4, 2000, func(total int, weights []int) {
		shares, _ := share.Out(total, weights)
		for i, want := range exact(total, weights) {
			low := floor(want)
			switch {
			case shares[i] == low && !want.IsInt():
				down++
			case shares[i] == low+1 && !want.IsInt():
				up++
			case shares[i] != low:
				t.Errorf("Out(%d, %v) = %v, where the share %d is exactly %s", total, weights, shares, i, want)
			}
		}
	})
	if up < 1000 || down < 1000 {
		t.Errorf("too few cases: %d, %d", up, down)
	}
}

// P3.5

// fair reports whether the shares of two weights, the earlier one first, are fair.
func fair(earlier, later, first, second int) bool {
	switch {
	case earlier > later:
		return first >= second
	case earlier < later:
		return first <= second
	}
	return first == second || first == second+1
}

func TestSharesAreFair(t *testing.T) {
	more := 0
	manyShares(5, 5000, func(total int, weights []int) {
		shares, _ := share.Out(total, weights)
		for later := range weights {
			for earlier := range later {
				if !fair(weights[earlier], weights[later], shares[earlier], shares[later]) {
					t.Errorf("Out(%d, %v) = %v: %d and %d are not fair", total, weights, shares, earlier, later)
				}
				if weights[earlier] == weights[later] && shares[earlier] > shares[later] {
					more++
				}
			}
		}
	})
	if more < 1000 {
		t.Errorf("only %d earlier weights got more than equal later ones", more)
	}
}

func TestAWeightOf0Gets0UnlessAllAre(t *testing.T) {
	r := rand.New(rand.NewSource(6))
	for range 5000 {
		weights := randomWeights(r)
		weights[0] = 0
		all := slices.Max(weights) == 0
		shares, e := share.Out(most-r.Intn(10), weights)
		if e != api.OK {
			t.Fatalf("Out by %v: %d", weights, int(e))
		}
		for i, w := range weights {
			if w == 0 && !all && shares[i] != 0 || all && shares[i] == 0 {
				t.Errorf("Out by %v = %v", weights, shares)
			}
		}
	}
}

// The general rules

func TestWeightsAndWhatIsBehindThemStay(t *testing.T) {
	for _, memory := range [][]int{{1, 5, 3, 7, 9}, {0, 0, 0, 4, 2}, {most, 0, 1, 6, 6}} {
		before := slices.Clone(memory)
		weights := memory[:3]
		shares, _ := share.Out(100, weights)
		share.Place(100, weights, 1)
		share.Whole(weights)
		if !slices.Equal(memory, before) {
			t.Errorf("%v has become %v", before, memory)
		}
		for i := range shares {
			shares[i] = -1
		}
		_ = append(shares, -1, -1)
		if !slices.Equal(memory, before) {
			t.Errorf("the shares lie in the memory of the weights: %v has become %v", before, memory)
		}
	}
}

func TestSharesAreNewEachTime(t *testing.T) {
	out := func() []int { l, _ := share.Out(100, []int{1, 1, 1}); return l }
	even := func() []int { l, _ := share.Evenly(100, 3); return l }
	zero := func() []int { l, _ := share.Out(100, []int{0, 0, 0}); return l }
	for _, call := range []func() []int{out, even, zero} {
		first := call()
		first[0], first[1], first[2] = 7, 8, 9
		if second := call(); !slices.Equal(second, []int{34, 33, 33}) || !slices.Equal(first, []int{7, 8, 9}) {
			t.Errorf("after a change of the first result: %v, %v", first, second)
		}
	}
}

func TestCallsDoNotDependOnWhatWasCalledBefore(t *testing.T) {
	for range 3 {
		compare(t, 100, []int{1, 1, 1})
		compare(t, 100, []int{0, 0})
		compare(t, most, equal(200, most/200))
		compare(t, -1, []int{1})
		compare(t, 1, []int{most, 1})
		if got, e := share.Evenly(10, 4); !slices.Equal(got, []int{3, 3, 2, 2}) || e != api.OK {
			t.Errorf("Evenly(10, 4) = %v, %d", got, int(e))
		}
	}
}
