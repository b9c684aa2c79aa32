package policy_test

import (
	"math"
	"math/rand"
	"slices"
	"testing"

	"backhaul/api"
	"backhaul/policy"
)

const (
	maxId   = 999999
	maxTick = 1000000
)

// noNumbers are neither ids nor times: around the limits, with the same last bits as numbers within them, and around what 8, 16, 32 and 64 bits hold.
var noNumbers = []int{
	math.MinInt, math.MinInt + 1, math.MinInt + 10, math.MinInt + maxTick, math.MinInt + maxTick + 1, -1 << 62, -1<<40 + 10, -1 << 32, -1<<32 + 10, math.MinInt32 - 1, math.MinInt32,
	-2 * maxTick, -maxTick - 1, -maxTick, -maxId, -1 << 16, -256, -10, -2, -1,
	maxTick + 1, maxTick + 2, maxTick + 10, 1 << 20, 2*maxTick - 1, 2 * maxTick, 2*maxTick + 1, 1<<24 + 10, math.MaxInt32, 1 << 31, 1<<32 - 1, 1 << 32, 1<<32 + 1, 1<<32 + 10, 1<<32 + maxTick, 1<<40 + 10,
	1 << 62, math.MaxInt - maxTick - 1, math.MaxInt - maxTick, math.MaxInt - 10, math.MaxInt - 1, math.MaxInt,
}

var (
	noIds = append([]int{0, maxTick}, noNumbers...)
	ids   = []int{1, 2, 10, 255, 256, 257, 1 << 16, 500000, maxId - 1, maxId}
	times = []int{0, 1, 2, 3, 10, 127, 128, 255, 256, 257, 1<<15 - 1, 1 << 15, 1<<16 - 1, 1 << 16, 1<<16 + 10, 499999, 500000, 500001, 1 << 19, maxTick - 10, maxTick - 3, maxTick - 2, maxTick - 1, maxTick}
	edges = append(slices.Clone(times), noNumbers...)
)

// isItem is the definition of a valid item.
func isItem(i api.Item) bool {
	return lies(i.Id, 1, maxId) && lies(i.Vendor, 1, maxId) && isTime(i.Window) && isTime(i.Warranty)
}

// isTime is the definition of a time.
func isTime(n int) bool { return lies(n, 0, maxTick) }

func lies(n, least, greatest int) bool { return slices.IsSorted([]int{least, n, greatest}) }

// openOf is the definition of Open and of Covered, for the period that each of them is about.
func openOf(i api.Item, period, at, now int) bool {
	return isItem(i) && isTime(at) && isTime(now) && slices.IsSorted([]int{at, now, at + period})
}

// untilOf is the definition of Until.
func untilOf(i api.Item, at int) (back, covered int, e api.Errno) {
	if !isItem(i) || !isTime(at) {
		return 0, 0, api.ErrArg
	}
	return min(at+i.Window, maxTick), min(at+i.Warranty, maxTick), api.OK
}

// passOf is the definition of Pass.
func passOf(now, n int) (int, api.Errno) {
	if !isTime(now) || !isTime(n) {
		return 0, api.ErrArg
	}
	if !isTime(now + n) {
		return 0, api.ErrTime
	}
	return now + n, api.OK
}

// selling returns an item with two periods.
func selling(window, warranty int) api.Item {
	return api.Item{Id: 3, Vendor: 7, Window: window, Warranty: warranty}
}

// checks checks what Check returns.
func checks(t *testing.T, i api.Item, want api.Errno) {
	t.Helper()
	if e := policy.Check(i); e != want {
		t.Errorf("Check(%v) = %d, want %d", i, int(e), int(want))
	}
}

// opens checks what Open and Covered return.
func opens(t *testing.T, i api.Item, at, now int, open, covered bool) {
	t.Helper()
	if got := policy.Open(i, at, now); got != open {
		t.Errorf("Open(%v, %d, %d) = %v", i, at, now, got)
	}
	if got := policy.Covered(i, at, now); got != covered {
		t.Errorf("Covered(%v, %d, %d) = %v", i, at, now, got)
	}
}

// ends checks what Until returns.
func ends(t *testing.T, i api.Item, at, back, covered int, code api.Errno) {
	t.Helper()
	if a, b, e := policy.Until(i, at); a != back || b != covered || e != code {
		t.Errorf("Until(%v, %d) = %d, %d, %d, want %d, %d, %d", i, at, a, b, int(e), back, covered, int(code))
	}
}

// passes checks what Pass returns.
func passes(t *testing.T, now, n, want int, code api.Errno) {
	t.Helper()
	if got, e := policy.Pass(now, n); got != want || e != code {
		t.Errorf("Pass(%d, %d) = %d, %d, want %d, %d", now, n, got, int(e), want, int(code))
	}
}

// compareCheck compares Check with its definition.
func compareCheck(t *testing.T, i api.Item) {
	t.Helper()
	want := api.ErrArg
	if isItem(i) {
		want = api.OK
	}
	checks(t, i, want)
}

// compareTimes compares Open and Covered with their definition.
func compareTimes(t *testing.T, i api.Item, at, now int) {
	t.Helper()
	opens(t, i, at, now, openOf(i, i.Window, at, now), openOf(i, i.Warranty, at, now))
}

// compareUntil compares Until with its definition.
func compareUntil(t *testing.T, i api.Item, at int) {
	t.Helper()
	back, covered, e := untilOf(i, at)
	ends(t, i, at, back, covered, e)
}

// comparePass compares Pass with its definition.
func comparePass(t *testing.T, now, n int) {
	t.Helper()
	want, e := passOf(now, n)
	passes(t, now, n, want, e)
}

// compare compares all calls about an item with their definitions.
func compare(t *testing.T, i api.Item, at, now int) {
	t.Helper()
	compareCheck(t, i)
	compareTimes(t, i, at, now)
	compareUntil(t, i, at)
}

// set returns an item in which one of its numbers is another one.
func set(i api.Item, field, n int) api.Item {
	*[]*int{&i.Id, &i.Vendor, &i.Window, &i.Warranty}[field] = n
	return i
}

// right and wrong are, for each field of an item, numbers that it may have and numbers that it may not.
var (
	right = [4][]int{ids, ids, times, times}
	wrong = [4][]int{noIds, noIds, noNumbers, noNumbers}
)

// drawn returns an item each of whose numbers is drawn, at random, from those that it may have or, for the fields whose bits are 1, from those that it may not.
func drawn(r *rand.Rand, faults int) api.Item {
	var i api.Item
	for field := range 4 {
		from := right[field]
		if faults>>field&1 == 1 {
			from = wrong[field]
		}
		i = set(i, field, from[r.Intn(len(from))])
	}
	return i
}

// near returns a time that is drawn: near the first one, near the last one, or anywhere.
func near(r *rand.Rand) int {
	switch r.Intn(3) {
	case 0:
		return r.Intn(20)
	case 1:
		return maxTick - r.Intn(20)
	}
	return r.Intn(maxTick + 1)
}

func TestTheLimits(t *testing.T) {
	if api.MaxId != maxId || api.MaxTick != maxTick {
		t.Errorf("MaxId is %d, and MaxTick %d", api.MaxId, api.MaxTick)
	}
}

// Window 10, shipped at 5: open up to 15.
func TestTheExample(t *testing.T) {
	i := selling(10, 3)
	if !policy.Open(i, 5, 15) {
		t.Error("it is not open at 15")
	}
	if policy.Open(i, 5, 16) {
		t.Error("it is open at 16")
	}
	for now := range 100 {
		if open := policy.Open(i, 5, now); open != (now >= 5 && now <= 15) {
			t.Errorf("at %d it is open: %v", now, open)
		}
	}
}

// With Window 10 and Warranty 0, shipped at 999995, it returns 1000000 and 999995.
func TestTheExampleOfUntil(t *testing.T) {
	ends(t, selling(10, 0), 999995, 1000000, 999995, api.OK)
}

// P20.1: Check and Time.

func TestItemsThatAreValid(t *testing.T) {
	for _, id := range ids {
		for _, vendor := range ids {
			for _, window := range times {
				for _, warranty := range times {
					checks(t, api.Item{Id: id, Vendor: vendor, Window: window, Warranty: warranty}, api.OK)
				}
			}
		}
	}
}

func TestItemsAtTheirEnds(t *testing.T) {
	checks(t, api.Item{Id: 1, Vendor: 1, Window: 0, Warranty: 0}, api.OK)
	checks(t, api.Item{Id: 999999, Vendor: 999999, Window: 1000000, Warranty: 1000000}, api.OK)
	checks(t, api.Item{Id: 0, Vendor: 1, Window: 0, Warranty: 0}, api.ErrArg)
	checks(t, api.Item{Id: 1, Vendor: 0, Window: 0, Warranty: 0}, api.ErrArg)
	checks(t, api.Item{Id: 1, Vendor: 1, Window: -1, Warranty: 0}, api.ErrArg)
	checks(t, api.Item{Id: 1, Vendor: 1, Window: 0, Warranty: -1}, api.ErrArg)
	checks(t, api.Item{Id: 1000000, Vendor: 999999, Window: 1000000, Warranty: 1000000}, api.ErrArg)
	checks(t, api.Item{Id: 999999, Vendor: 1000000, Window: 1000000, Warranty: 1000000}, api.ErrArg)
	checks(t, api.Item{Id: 999999, Vendor: 999999, Window: 1000001, Warranty: 1000000}, api.ErrArg)
	checks(t, api.Item{Id: 999999, Vendor: 999999, Window: 1000000, Warranty: 1000001}, api.ErrArg)
	checks(t, api.Item{}, api.ErrArg)
}

func TestOneNumberIsWrong(t *testing.T) {
	for _, i := range []api.Item{{Id: 1, Vendor: 1}, {Id: maxId, Vendor: maxId, Window: maxTick, Warranty: maxTick}, {Id: 3, Vendor: 7, Window: 10, Warranty: 20}} {
		for field := range 4 {
			for _, n := range wrong[field] {
				checks(t, set(i, field, n), api.ErrArg)
			}
			for _, n := range right[field] {
				checks(t, set(i, field, n), api.OK)
			}
		}
	}
}

func TestTwoNumbersAreWrong(t *testing.T) {
	for one := range 4 {
		for two := range one {
			for _, n := range wrong[one] {
				for _, m := range wrong[two] {
					checks(t, set(set(selling(10, 20), one, n), two, m), api.ErrArg)
				}
			}
		}
	}
}

func TestEachSetOfNumbersIsWrong(t *testing.T) {
	r := rand.New(rand.NewSource(1))
	for faults := range 16 {
		for range 500 {
			want := api.OK
			if faults > 0 {
				want = api.ErrArg
			}
			checks(t, drawn(r, faults), want)
		}
	}
}

// All numbers are the same, which one field may have and another one may not.
func TestTheSameNumberInEachField(t *testing.T) {
	for n := -3; n <= maxTick+3; n++ {
		i := api.Item{Id: n, Vendor: n, Window: n, Warranty: n}
		if e := policy.Check(i); e != api.OK != (n < 1 || n > maxId) {
			t.Fatalf("Check(%v) = %d", i, int(e))
		}
	}
}

// What an item may have does not hang on whether the periods are in some order.
func TestThePeriodsOfAnItemAreInAnyOrder(t *testing.T) {
	for _, window := range []int{0, 1, 10, maxTick} {
		for _, warranty := range []int{0, 1, 10, maxTick} {
			checks(t, selling(window, warranty), api.OK)
		}
	}
}

func TestSomeTimes(t *testing.T) {
	for n, want := range map[int]bool{
		math.MinInt: false, -1: false, 0: true, 1: true, 999999: true, 1000000: true, 1000001: false, math.MaxInt: false,
	} {
		if got := policy.Time(n); got != want {
			t.Errorf("Time(%d) = %v", n, got)
		}
	}
}

func TestEachTime(t *testing.T) {
	for n := range maxTick + 1 {
		if !policy.Time(n) {
			t.Fatalf("Time(%d) = false", n)
		}
	}
	for _, n := range noNumbers {
		if policy.Time(n) {
			t.Errorf("Time(%d) = true", n)
		}
	}
	for n := 1; n <= 1000; n++ {
		if policy.Time(-n) || policy.Time(maxTick+n) {
			t.Errorf("%d below or above the times there is one", n)
		}
	}
}

// P20.2: Open and Covered.

// Of each period and each time of shipping, both are asked at each edge.
func TestPeriodsAtTheirEnds(t *testing.T) {
	for _, period := range []int{0, 1, 2, 10, 500, maxTick - 1, maxTick} {
		for _, at := range []int{0, 1, 5, 1000, 500000, maxTick - 10, maxTick - 1, maxTick} {
			last := at + period
			for _, x := range []struct {
				now  int
				want bool
			}{{at - 1, false}, {at, true}, {last - 1, period > 0 && last-1 <= maxTick}, {last, last <= maxTick}, {last + 1, false}, {last + 10, false}, {maxTick + 1, false}} {
				opens(t, selling(period, 0), at, x.now, x.want, x.now == at)
				opens(t, selling(0, period), at, x.now, x.now == at, x.want)
				opens(t, selling(period, period), at, x.now, x.want, x.want)
			}
			for _, other := range []int{0, 1, 10, maxTick} {
				for _, now := range append([]int{at - 1, at, at + 1, last - 1, last, last + 1}, times...) {
					compareTimes(t, selling(period, other), at, now)
					compareTimes(t, selling(other, period), at, now)
				}
			}
		}
	}
}

func TestSomePeriods(t *testing.T) {
	for _, x := range []struct {
		window, warranty, at, now int
		open, covered             bool
	}{
		{10, 20, 5, 4, false, false},
		{10, 20, 5, 5, true, true},
		{10, 20, 5, 15, true, true},
		{10, 20, 5, 16, false, true},
		{10, 20, 5, 25, false, true},
		{10, 20, 5, 26, false, false},
		{20, 10, 5, 15, true, true},
		{20, 10, 5, 16, true, false},
		{20, 10, 5, 26, false, false},
		{0, 0, 0, 0, true, true},
		{0, 0, 0, 1, false, false},
		{0, 1, 0, 1, false, true},
		{1, 0, 0, 1, true, false},
		{0, 0, maxTick, maxTick, true, true},
		{0, 0, maxTick, maxTick - 1, false, false},
		{0, 0, maxTick - 1, maxTick, false, false},
		{maxTick, maxTick, 0, maxTick, true, true},
		{maxTick - 1, maxTick, 0, maxTick, false, true},
		{maxTick, maxTick - 1, 0, maxTick, true, false},
		{maxTick, maxTick, 1, maxTick, true, true},
		{maxTick, maxTick, 1, maxTick + 1, false, false},
		{maxTick, maxTick, 1, 0, false, false},
		{maxTick, maxTick, maxTick, 0, false, false},
		{maxTick, maxTick, maxTick, maxTick, true, true},
	} {
		opens(t, selling(x.window, x.warranty), x.at, x.now, x.open, x.covered)
	}
}

// The window and the warranty may be changed, each for itself: what the other one tells stays.
func TestEachHangsOnItsOwnPeriodAlone(t *testing.T) {
	for _, at := range []int{0, 5, 500000, maxTick - 12, maxTick} {
		for _, period := range []int{0, 1, 10, 500000, maxTick} {
			for _, now := range []int{at, at + 1, at + period, at + period + 1, at + 10, at + 11, maxTick} {
				open := isTime(now) && now-at <= period
				for _, other := range times {
					if policy.Open(selling(period, other), at, now) != open {
						t.Errorf("with the window %d and the warranty %d Open(%d, %d) is not %v", period, other, at, now, open)
					}
					if policy.Covered(selling(other, period), at, now) != open {
						t.Errorf("with the warranty %d and the window %d Covered(%d, %d) is not %v", period, other, at, now, open)
					}
				}
			}
		}
	}
}

// It does not matter which item it is, and of which vendor.
func TestTheIdsDoNotMatter(t *testing.T) {
	for _, id := range ids {
		for _, vendor := range ids {
			i := api.Item{Id: id, Vendor: vendor, Window: 10, Warranty: 20}
			for now := range 30 {
				compare(t, i, 3, now)
			}
			ends(t, i, 3, 13, 23, api.OK)
		}
	}
}

// Numbers that are no times, on each side and on both: there is no overflow that makes them some.
func TestEdgesOfTimes(t *testing.T) {
	for _, i := range []api.Item{selling(0, 0), selling(10, 20), selling(maxTick, 0), selling(0, maxTick), selling(maxTick, maxTick)} {
		for _, at := range edges {
			compareUntil(t, i, at)
			for _, now := range edges {
				compareTimes(t, i, at, now)
				if !isTime(at) || !isTime(now) {
					opens(t, i, at, now, false, false)
				}
			}
		}
	}
}

// Each number that may not be of an item, with times at which another item is open.
func TestAWrongItemIsNeverOpen(t *testing.T) {
	for field := range 4 {
		for _, n := range wrong[field] {
			i := set(selling(maxTick, maxTick), field, n)
			for _, at := range []int{0, 5, maxTick} {
				for _, now := range []int{0, 5, 6, maxTick} {
					opens(t, i, at, now, false, false)
				}
			}
		}
	}
	for _, at := range edges {
		for _, now := range edges {
			opens(t, api.Item{}, at, now, false, false)
			opens(t, selling(maxTick, math.MaxInt), at, now, false, false)
			opens(t, selling(math.MaxInt, maxTick), at, now, false, false)
			opens(t, selling(-1, maxTick), at, now, false, false)
			opens(t, selling(math.MinInt, math.MinInt), at, now, false, false)
		}
	}
}

func TestEachSetOfFaultsIsNeverOpen(t *testing.T) {
	r := rand.New(rand.NewSource(2))
	for faults := 1; faults < 16; faults++ {
		for range 300 {
			i := drawn(r, faults)
			at := near(r)
			opens(t, i, at, at, false, false)
			opens(t, i, at, min(at+1, maxTick), false, false)
			opens(t, i, edges[r.Intn(len(edges))], edges[r.Intn(len(edges))], false, false)
		}
	}
}

func TestBeforeShippingNothingIsOpen(t *testing.T) {
	i := selling(maxTick, maxTick)
	for at := range 300 {
		for now := range at {
			opens(t, i, at, now, false, false)
			opens(t, i, maxTick-now, maxTick-at, false, false)
		}
	}
	for _, at := range times {
		for _, now := range times {
			opens(t, i, at, now, now >= at, now >= at)
		}
	}
}

// P20.3: Until and Pass.

func TestSomeLastTimes(t *testing.T) {
	for _, x := range []struct{ window, warranty, at, back, covered int }{
		{10, 20, 5, 15, 25},
		{20, 10, 5, 25, 15},
		{0, 0, 0, 0, 0},
		{0, 0, 5, 5, 5},
		{0, 0, maxTick, maxTick, maxTick},
		{1, 0, 0, 1, 0},
		{0, 1, 0, 0, 1},
		{1, 2, maxTick - 1, maxTick, maxTick},
		{2, 1, maxTick - 2, maxTick, maxTick - 1},
		{1, 2, maxTick - 2, maxTick - 1, maxTick},
		{1, 2, maxTick - 3, maxTick - 2, maxTick - 1},
		{3, 4, maxTick - 2, maxTick, maxTick},
		{3, 4, maxTick - 3, maxTick, maxTick},
		{3, 4, maxTick - 4, maxTick - 1, maxTick},
		{1, 1, maxTick, maxTick, maxTick},
		{maxTick, 0, 0, maxTick, 0},
		{0, maxTick, 0, 0, maxTick},
		{maxTick, maxTick, 0, maxTick, maxTick},
		{maxTick - 1, maxTick, 0, maxTick - 1, maxTick},
		{maxTick, maxTick - 1, 0, maxTick, maxTick - 1},
		{maxTick - 1, maxTick - 2, 1, maxTick, maxTick - 1},
		{maxTick - 2, maxTick - 1, 1, maxTick - 1, maxTick},
		{maxTick, maxTick, maxTick, maxTick, maxTick},
		{maxTick, 0, maxTick, maxTick, maxTick},
		{500000, 499999, 500000, maxTick, 999999},
		{500001, 500000, 500000, maxTick, maxTick},
	} {
		ends(t, selling(x.window, x.warranty), x.at, x.back, x.covered, api.OK)
	}
}

// Each last time lies below MaxTick, at it, or beyond it, and the other one does too.
func TestLastTimesAroundTheLastOne(t *testing.T) {
	for _, at := range []int{0, 1, 10, 500000, maxTick - 10, maxTick - 2, maxTick - 1, maxTick} {
		for window := maxTick - at - 5; window <= maxTick-at+5; window++ {
			for warranty := maxTick - at - 5; warranty <= maxTick-at+5; warranty++ {
				if isTime(window) && isTime(warranty) {
					ends(t, selling(window, warranty), at, min(at+window, maxTick), min(at+warranty, maxTick), api.OK)
				}
			}
		}
	}
}

func TestLastTimesOfEachEdge(t *testing.T) {
	for _, window := range times {
		for _, warranty := range times {
			for _, at := range times {
				compareUntil(t, selling(window, warranty), at)
			}
		}
	}
}

// Each length of a period, and each time of shipping.
func TestLastTimesOfEachLength(t *testing.T) {
	for n := 0; n <= maxTick; n++ {
		i := selling(n, maxTick-n)
		back, covered, e := policy.Until(i, 0)
		if back != n || covered != maxTick-n || e != api.OK {
			t.Fatalf("Until(%v, 0) = %d, %d, %d", i, back, covered, int(e))
		}
	}
	for at := 0; at <= maxTick; at++ {
		back, covered, e := policy.Until(selling(1, 1000), at)
		if back != min(at+1, maxTick) || covered != min(at+1000, maxTick) || e != api.OK {
			t.Fatalf("Until(%v, %d) = %d, %d, %d", selling(1, 1000), at, back, covered, int(e))
		}
	}
}

// An item that is not valid and a number that is no time have the same error, each alone and both together.
func TestUntilWithFaults(t *testing.T) {
	for _, at := range noNumbers {
		ends(t, selling(10, 20), at, 0, 0, api.ErrArg)
		ends(t, selling(0, 0), at, 0, 0, api.ErrArg)
		ends(t, selling(maxTick, maxTick), at, 0, 0, api.ErrArg)
	}
	for field := range 4 {
		for _, n := range wrong[field] {
			i := set(selling(10, 20), field, n)
			for _, at := range []int{0, 5, maxTick} {
				ends(t, i, at, 0, 0, api.ErrArg)
			}
			for _, at := range noNumbers {
				ends(t, i, at, 0, 0, api.ErrArg)
			}
		}
	}
	ends(t, api.Item{}, 5, 0, 0, api.ErrArg)
}

func TestUntilWithEachSetOfFaults(t *testing.T) {
	r := rand.New(rand.NewSource(3))
	for faults := 1; faults < 16; faults++ {
		for range 300 {
			i := drawn(r, faults)
			ends(t, i, near(r), 0, 0, api.ErrArg)
			ends(t, i, edges[r.Intn(len(edges))], 0, 0, api.ErrArg)
		}
	}
}

func TestSomeTimesPass(t *testing.T) {
	for _, x := range []struct {
		now, n, want int
		code         api.Errno
	}{
		{0, 0, 0, api.OK},
		{0, 1, 1, api.OK},
		{1, 0, 1, api.OK},
		{5, 7, 12, api.OK},
		{7, 5, 12, api.OK},
		{0, maxTick, maxTick, api.OK},
		{maxTick, 0, maxTick, api.OK},
		{0, maxTick - 1, maxTick - 1, api.OK},
		{1, maxTick - 2, maxTick - 1, api.OK},
		{1, maxTick - 1, maxTick, api.OK},
		{1, maxTick, 0, api.ErrTime},
		{maxTick - 1, 0, maxTick - 1, api.OK},
		{maxTick - 1, 1, maxTick, api.OK},
		{maxTick - 1, 2, 0, api.ErrTime},
		{maxTick, 1, 0, api.ErrTime},
		{maxTick, maxTick, 0, api.ErrTime},
		{500000, 499999, maxTick - 1, api.OK},
		{500000, 500000, maxTick, api.OK},
		{500000, 500001, 0, api.ErrTime},
		{500001, 500000, 0, api.ErrTime},
		{0, maxTick + 1, 0, api.ErrArg},
		{maxTick + 1, 0, 0, api.ErrArg},
		{1, -1, 0, api.ErrArg},
		{-1, 1, 0, api.ErrArg},
		{maxTick + 1, -1, 0, api.ErrArg},
		{-1, maxTick + 1, 0, api.ErrArg},
		{maxTick, -maxTick, 0, api.ErrArg},
		{-maxTick, maxTick, 0, api.ErrArg},
		{math.MaxInt, math.MinInt, 0, api.ErrArg},
		{math.MinInt, math.MinInt, 0, api.ErrArg},
		{math.MaxInt, math.MaxInt, 0, api.ErrArg},
		{math.MaxInt, 1, 0, api.ErrArg},
		{1, math.MaxInt, 0, api.ErrArg},
	} {
		passes(t, x.now, x.n, x.want, x.code)
	}
}

// Beyond what may pass from a time, but within what may pass at all, it is the time that is at fault.
func TestTimePassesAtEachEdge(t *testing.T) {
	for _, now := range edges {
		for _, n := range edges {
			comparePass(t, now, n)
		}
	}
	for _, now := range times {
		passes(t, now, maxTick-now, maxTick, api.OK)
		if now > 0 {
			passes(t, now, maxTick-now+1, 0, api.ErrTime)
		}
		if now < maxTick {
			passes(t, now, maxTick-now-1, maxTick-1, api.OK)
		}
		for _, n := range noNumbers {
			passes(t, now, n, 0, api.ErrArg)
			passes(t, n, now, 0, api.ErrArg)
		}
	}
	for _, now := range noNumbers {
		for _, n := range noNumbers {
			passes(t, now, n, 0, api.ErrArg)
		}
	}
}

func TestEachNumberOfTicksPasses(t *testing.T) {
	for n := 0; n <= maxTick; n++ {
		for _, x := range [][2]int{{0, n}, {n, 0}, {n, maxTick - n}, {n / 2, n - n/2}} {
			if got, e := policy.Pass(x[0], x[1]); got != x[0]+x[1] || e != api.OK {
				t.Fatalf("Pass(%d, %d) = %d, %d", x[0], x[1], got, int(e))
			}
		}
		if n > 0 {
			if got, e := policy.Pass(n, maxTick+1-n); got != 0 || e != api.ErrTime {
				t.Fatalf("Pass(%d, %d) = %d, %d", n, maxTick+1-n, got, int(e))
			}
		}
	}
}

func TestDrawnTimesPass(t *testing.T) {
	r := rand.New(rand.NewSource(4))
	for range 100000 {
		comparePass(t, near(r), near(r))
	}
}

// What passes in parts has passed as a whole.
func TestTimePassesInParts(t *testing.T) {
	r := rand.New(rand.NewSource(5))
	for range 10000 {
		now, one, two := near(r), near(r)/3, near(r)/3
		half, _ := policy.Pass(now, one)
		if now+one > maxTick {
			continue
		}
		want, code := policy.Pass(now, one+two)
		passes(t, half, two, want, code)
	}
}

// Small periods, shipped early and late, at each time.
func TestSmallPeriodsAtEachTime(t *testing.T) {
	for window := range 7 {
		for warranty := range 7 {
			i := selling(window, warranty)
			for at := -1; at < 12; at++ {
				for now := -2; now < 24; now++ {
					compare(t, i, at, now)
					compare(t, i, maxTick-at, maxTick-now)
				}
			}
		}
	}
}

func TestDrawnItemsAndTimes(t *testing.T) {
	r := rand.New(rand.NewSource(6))
	for range 100000 {
		i := selling(near(r), near(r))
		at := near(r)
		for _, now := range []int{near(r), at + i.Window, at + i.Window + 1, at + i.Warranty, at + i.Warranty + 1, at - 1} {
			compareTimes(t, i, at, now)
		}
		compareUntil(t, i, at)
	}
}

func TestDrawnEdges(t *testing.T) {
	r := rand.New(rand.NewSource(7))
	for range 100000 {
		i := drawn(r, r.Intn(16)&r.Intn(16)&r.Intn(16))
		compare(t, i, edges[r.Intn(len(edges))], edges[r.Intn(len(edges))])
		compare(t, i, near(r), near(r))
	}
}

// P20.4: what is open at a time was open at each time between shipping and it, and a longer window never closes earlier.

// asked are both calls, each with an item for a length of the period that it is about.
var asked = []struct {
	name string
	call func(i api.Item, at, now int) bool
	item func(period int) api.Item
}{
	{"Open", policy.Open, func(period int) api.Item { return selling(period, 4) }},
	{"Covered", policy.Covered, func(period int) api.Item { return selling(4, period) }},
}

func TestWhatIsOpenWasOpenSinceShipping(t *testing.T) {
	for _, x := range asked {
		for period := range 12 {
			for _, at := range []int{0, 1, 7, 500000, maxTick - 20, maxTick - 5, maxTick} {
				for now := at; now <= min(at+20, maxTick); now++ {
					if !x.call(x.item(period), at, now) {
						continue
					}
					for before := at; before <= now; before++ {
						if !x.call(x.item(period), at, before) {
							t.Errorf("with the period %d, shipped at %d, %s holds at %d, but not at %d", period, at, x.name, now, before)
						}
					}
				}
			}
		}
	}
}

func TestALongerPeriodNeverClosesEarlier(t *testing.T) {
	for _, x := range asked {
		for _, at := range []int{0, 1, 7, 500000, maxTick - 20, maxTick - 5, maxTick} {
			for now := at - 2; now <= at+20; now++ {
				for period := range 20 {
					if x.call(x.item(period), at, now) && !x.call(x.item(period+1), at, now) {
						t.Errorf("shipped at %d, %s holds at %d with the period %d, but not with a longer one", at, x.name, now, period)
					}
				}
			}
		}
	}
}

func TestDrawnPeriodsCloseOnce(t *testing.T) {
	r := rand.New(rand.NewSource(8))
	for range 50000 {
		at, now, period, longer := near(r), near(r), near(r), near(r)
		at, now, period, longer = min(at, now), max(at, now), min(period, longer), max(period, longer)
		before := at + r.Intn(now-at+1)
		for _, x := range asked {
			open := x.call(x.item(period), at, now)
			if open && !x.call(x.item(period), at, before) {
				t.Errorf("with the period %d, shipped at %d, %s holds at %d, but not at %d", period, at, x.name, now, before)
			}
			if open && !x.call(x.item(longer), at, now) {
				t.Errorf("shipped at %d, %s holds at %d with the period %d, but not with %d", at, x.name, now, period, longer)
			}
		}
	}
}

// A longer window has no earlier last time, and what is shipped later has none either.
func TestLastTimesNeverFall(t *testing.T) {
	r := rand.New(rand.NewSource(9))
	for range 50000 {
		i, at := selling(near(r), near(r)), near(r)
		back, covered, _ := policy.Until(i, at)
		longer := selling(min(i.Window+r.Intn(20), maxTick), min(i.Warranty+r.Intn(20), maxTick))
		if a, b, e := policy.Until(longer, at); a < back || b < covered || e != api.OK {
			t.Errorf("Until(%v, %d) = %d, %d, %d, but with shorter periods %d, %d", longer, at, a, b, int(e), back, covered)
		}
		later := min(at+r.Intn(20), maxTick)
		if a, b, e := policy.Until(i, later); a < back || b < covered || e != api.OK {
			t.Errorf("Until(%v, %d) = %d, %d, %d, but at %d it is %d, %d", i, later, a, b, int(e), at, back, covered)
		}
	}
}

// P20.5: up to the time that Until returns the item may be returned, and after it not.

// closes checks both calls at a time against what Until returned.
func closes(t *testing.T, i api.Item, at, now, back, covered int) {
	t.Helper()
	opens(t, i, at, now, now <= back, now <= covered)
}

func TestUntilIsTheLastTime(t *testing.T) {
	for window := range 9 {
		for warranty := range 9 {
			i := selling(window, warranty)
			for _, at := range []int{0, 1, 2, 7, 500000, maxTick - 20, maxTick - 8, maxTick - 5, maxTick - 1, maxTick} {
				back, covered, e := policy.Until(i, at)
				if e != api.OK || back < at || covered < at || back > maxTick || covered > maxTick {
					t.Errorf("Until(%v, %d) = %d, %d, %d", i, at, back, covered, int(e))
				}
				for now := at; now < at+20; now++ {
					closes(t, i, at, now, back, covered)
				}
			}
		}
	}
}

// All times that there are, for periods of which some are longer than what is left.
func TestUntilIsTheLastOfAllTimes(t *testing.T) {
	for _, x := range []struct{ window, warranty, at int }{{0, maxTick, 0}, {10, 300000, 5}, {maxTick - 1, 1, 1}, {500000, 499999, 500000}, {123456, maxTick, 654321}, {7, 10, maxTick - 8}} {
		i := selling(x.window, x.warranty)
		back, covered, _ := policy.Until(i, x.at)
		for now := -1; now <= maxTick+1; now++ {
			open, under := policy.Open(i, x.at, now), policy.Covered(i, x.at, now)
			if open != (now >= x.at && now <= back) || under != (now >= x.at && now <= covered) {
				t.Fatalf("with %v, shipped at %d, it is open at %d: %v, and covered: %v, but until %d and %d", i, x.at, now, open, under, back, covered)
			}
		}
	}
}

func TestDrawnLastTimes(t *testing.T) {
	r := rand.New(rand.NewSource(10))
	for range 50000 {
		i, at := selling(near(r), near(r)), near(r)
		back, covered, e := policy.Until(i, at)
		if e != api.OK {
			t.Errorf("Until(%v, %d) = %d", i, at, int(e))
		}
		for _, now := range []int{at, back - 1, back, back + 1, covered - 1, covered, covered + 1, at + r.Intn(maxTick+1-at), maxTick} {
			if now >= at {
				closes(t, i, at, now, back, covered)
			}
		}
	}
}

// The last time is the one to which the whole window has passed, or else the last one of all.
func TestTheWindowPasses(t *testing.T) {
	r := rand.New(rand.NewSource(11))
	for range 50000 {
		i, at := selling(near(r), near(r)), near(r)
		want := [2]int{maxTick, maxTick}
		for n, period := range []int{i.Window, i.Warranty} {
			if to, e := policy.Pass(at, period); e == api.OK {
				want[n] = to
			}
		}
		ends(t, i, at, want[0], want[1], api.OK)
	}
}

// Rule 5: a result depends on the arguments alone.

func TestCallsDoNotDependOnWhatWasCalledBefore(t *testing.T) {
	i := selling(10, 20)
	all := func() {
		for _, n := range []int{-1, 0, 5, 15, 16, 25, 26, maxTick, maxTick + 1} {
			compare(t, i, 5, n)
			compare(t, i, n, 5)
			compare(t, api.Item{}, 5, n)
			compare(t, selling(20, 10), n, 30)
			comparePass(t, n, 5)
			comparePass(t, 5, n)
			if got := policy.Time(n); got != isTime(n) {
				t.Errorf("Time(%d) = %v", n, got)
			}
		}
	}
	for range 3 {
		all()
	}
	// The same memory holds another item now.
	i.Window, i.Warranty = 3, 4
	all()
	i.Vendor = 0
	all()
	i = selling(10, 20)
	all()
}
