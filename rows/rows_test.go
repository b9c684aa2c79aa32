package rows_test

import (
	"errors"
	"math"
	"math/rand"
	"reflect"
	"slices"
	"strings"
	"testing"

	"backhaul/api"
	"backhaul/rows"
)

const most = 999999

// extremes lie around the limits of ids, around what 32 and 64 bits hold, and around 0.
var extremes = []int{
	math.MinInt, math.MinInt + 1, -1 << 32, math.MinInt32, -most - 1, -most, -2, -1,
	0, 1, 2, most - 1, most, most + 1, most + 2,
	math.MaxInt32, 1 << 32, 1<<32 + 1, math.MaxInt - 1, math.MaxInt,
}

// outside are numbers that are no ids.
var outside = []int{math.MinInt, math.MinInt + 1, math.MinInt32, -most, -1, 0, most + 1, math.MaxInt32, 1 << 32, 1<<32 + 5, math.MaxInt - 1, math.MaxInt}

// firstFault is the definition of Rising: the first fault of the ids before the last one counts, and else one of the last one.
func firstFault(ids []int) api.Errno {
	n := len(ids)
	if n == 0 {
		return api.OK
	}
	last := ids[n-1]
	switch e := firstFault(ids[:n-1]); {
	case e != api.OK:
		return e
	case last <= 0 || last >= 1000000:
		return api.ErrId
	case n > 1 && !(last > ids[n-2]):
		return api.ErrDup
	}
	return api.OK
}

// isIncreasing is the definition of increasing ids: they are what sorting them and dropping those that are equal leaves.
func isIncreasing(ids []int) bool {
	sorted := slices.Clone(ids)
	slices.Sort(sorted)
	return slices.Equal(slices.Compact(sorted), ids) && (len(ids) == 0 || slices.Min(ids) >= 1 && slices.Max(ids) <= most)
}

// found is the definition of Find: where ids are increasing, as many elements stand ahead of the index as are less.
func found(ids []int, id int) (int, bool) {
	less, first := 0, len(ids)
	for i := len(ids) - 1; i >= 0; i-- {
		if ids[i] < id {
			less++
		}
		if ids[i] == id {
			first = i
		}
	}
	if isIncreasing(ids) {
		return less, first < len(ids)
	}
	return first, first < len(ids)
}

// compareIds compares Rising, and Find of each of some ids, with their definitions.
func compareIds(t *testing.T, ids, sought []int) {
	t.Helper()
	before := slices.Clone(ids)
	if got, want := rows.Rising(ids), firstFault(before); got != want {
		t.Errorf("Rising(%v) = %d, want %d", before, int(got), int(want))
	}
	if (firstFault(before) == api.OK) != isIncreasing(before) {
		t.Fatalf("the definitions differ about %v", before)
	}
	for _, id := range sought {
		at, is := found(before, id)
		if gotAt, gotIs := rows.Find(ids, id); gotAt != at || gotIs != is {
			t.Errorf("Find(%v, %d) = %d, %t, want %d, %t", before, id, gotAt, gotIs, at, is)
		}
	}
	if !slices.Equal(ids, before) {
		t.Fatalf("%v has been changed into %v", before, ids)
	}
}

// around returns numbers at, below and above each of some ids, and those of extremes.
func around(ids []int) []int {
	all := slices.Clone(extremes)
	for _, id := range ids {
		all = append(all, id-1, id, id+1) // Where one of them leaves the range of int, it is another extreme.
	}
	slices.Sort(all)
	return slices.Compact(all)
}

// smallLists calls f with each list of n of the numbers.
func smallLists(n int, numbers []int, f func(l []int)) {
	if n == 0 {
		f(nil)
		return
	}
	smallLists(n-1, numbers, func(l []int) {
		for _, x := range numbers {
			f(append(slices.Clone(l), x))
		}
	})
}

// drawnIds returns increasing ids: close to each other, far from each other, or up to the limit.
func drawnIds(r *rand.Rand, n int) []int {
	ids := make([]int, n)
	gap := []int{1, 2, 5, 1000, max(1, most/(n+1))}[r.Intn(5)]
	id := 0
	if r.Intn(3) == 0 {
		id = max(0, most-gap*(n+1))
	}
	for i := range ids {
		id += 1 + r.Intn(gap)
		ids[i] = id
	}
	if n > 0 && r.Intn(3) == 0 {
		ids[n-1] = most
	}
	return ids
}

// P13.1: the examples.

func TestTheExamplesOfIds(t *testing.T) {
	if e := rows.Rising([]int{3, 3, 0}); e != api.ErrDup {
		t.Errorf("3, 3, 0 gives %d", int(e))
	}
	if at, is := rows.Find([]int{2, 5, 9}, 6); at != 2 || is {
		t.Errorf("Find of 6 in 2, 5, 9 returns %d and %t", at, is)
	}
	if at, is := rows.Find([]int{2, 5, 9}, 5); at != 1 || !is {
		t.Errorf("Find of 5 in 2, 5, 9 returns %d and %t", at, is)
	}
}

// P13.1: Rising.

func TestIdsThatAreIncreasing(t *testing.T) {
	all := make([]int, most)
	for i := range all {
		all[i] = i + 1
	}
	for _, ids := range [][]int{
		nil, {}, {1}, {2}, {500}, {most - 1}, {most},
		{1, 2}, {1, most}, {most - 1, most}, {2, 5, 9}, {1, 2, 3, 4, 5, 6, 7, 8}, {1, 10, 100, 1000, 10000, 100000, most},
		all, all[:1000], all[most-1000:],
	} {
		if e := rows.Rising(ids); e != api.OK {
			t.Errorf("%d ids that are increasing give %d", len(ids), int(e))
		}
	}
}

func TestOneId(t *testing.T) {
	for _, id := range extremes {
		want := api.ErrId
		if 1 <= id && id <= 999999 {
			want = api.OK
		}
		if e := rows.Rising([]int{id}); e != want {
			t.Errorf("%d gives %d, want %d", id, int(e), int(want))
		}
	}
}

func TestTheFirstFaultOfIds(t *testing.T) {
	for _, c := range []struct {
		ids  []int
		want api.Errno
	}{
		{[]int{1, 1}, api.ErrDup},
		{[]int{2, 1}, api.ErrDup},
		{[]int{most, most}, api.ErrDup},
		{[]int{most, 1}, api.ErrDup},
		{[]int{1, 2, 2}, api.ErrDup},
		{[]int{1, 3, 2}, api.ErrDup},
		{[]int{1, 3, 1}, api.ErrDup},
		{[]int{2, 1, 3}, api.ErrDup},
		{[]int{0, 1}, api.ErrId},
		{[]int{1, 0}, api.ErrId},
		{[]int{most, most + 1}, api.ErrId},
		{[]int{most + 1, most + 2}, api.ErrId},
		{[]int{math.MinInt, 1}, api.ErrId},
		{[]int{1, math.MaxInt}, api.ErrId},
		// Of several faults the first one counts.
		{[]int{3, 3, 0}, api.ErrDup},
		{[]int{3, 3, most + 1}, api.ErrDup},
		{[]int{3, 2, -1}, api.ErrDup},
		{[]int{3, 2, math.MinInt}, api.ErrDup},
		{[]int{3, 2, 4, math.MaxInt}, api.ErrDup},
		{[]int{3, 0, 3}, api.ErrId},
		{[]int{0, 3, 3}, api.ErrId},
		{[]int{most + 1, 3, 3}, api.ErrId},
		{[]int{1, 2, math.MaxInt, 2}, api.ErrId},
		{[]int{1, 2, 2, 0, most + 1}, api.ErrDup},
		{[]int{1, 2, 0, 0, 2}, api.ErrId},
		// Of one id that is none and is not greater, it counts that it is none.
		{[]int{0, 0}, api.ErrId},
		{[]int{-1, -1}, api.ErrId},
		{[]int{1, -1}, api.ErrId},
		{[]int{3, 0, 0}, api.ErrId},
		{[]int{5, 6, 0}, api.ErrId},
		{[]int{5, 6, -7, 6}, api.ErrId},
		{[]int{1, math.MinInt}, api.ErrId},
		{[]int{most, 0}, api.ErrId},
		{[]int{most + 1, most + 1}, api.ErrId},
		{[]int{most + 2, most + 1}, api.ErrId},
		{[]int{math.MaxInt, math.MaxInt}, api.ErrId},
		{[]int{math.MaxInt, math.MinInt}, api.ErrId},
	} {
		if e := rows.Rising(c.ids); e != c.want {
			t.Errorf("%v gives %d, want %d", c.ids, int(e), int(c.want))
		}
	}
}

// bases are increasing ids of which a test makes others.
var bases = [][]int{{7}, {1, 2}, {5, most}, {2, 5, 9}, {1, 2, 3, 4}, {most - 3, most - 2, most - 1, most}, {10, 20, 30, 40, 50, 60, 70}}

func TestANumberOutsideAtEachPlace(t *testing.T) {
	for _, base := range bases {
		for at := range base {
			for _, id := range outside {
				ids := slices.Clone(base)
				ids[at] = id
				if e := rows.Rising(ids); e != api.ErrId {
					t.Errorf("%v gives %d", ids, int(e))
				}
			}
		}
	}
}

func TestAnIdThatIsNotGreaterAtEachPlace(t *testing.T) {
	for _, base := range bases {
		for at := 1; at < len(base); at++ {
			for _, id := range []int{base[at-1], base[at-1] - 1, 1} {
				ids, want := slices.Clone(base), api.ErrDup
				if ids[at] = id; id == 0 {
					want = api.ErrId
				}
				if e := rows.Rising(ids); e != want {
					t.Errorf("%v gives %d, want %d", ids, int(e), int(want))
				}
			}
		}
	}
}

// That an id is not greater shows from the one before it alone, not from those farther ahead.
func TestAnIdIsHeldAgainstTheOneBeforeIt(t *testing.T) {
	for _, ids := range [][]int{{5, 1, 2}, {5, 6, 1, 2, 3, 7}, {9, 1, 9}, {1, 9, 1, 9}} {
		if e := rows.Rising(ids); e != api.ErrDup {
			t.Errorf("%v gives %d", ids, int(e))
		}
	}
}

func TestTwoFaultsAtEachTwoPlaces(t *testing.T) {
	faults := []func(ids []int, at int){
		func(ids []int, at int) { ids[at] = 0 },
		func(ids []int, at int) { ids[at] = -1 },
		func(ids []int, at int) { ids[at] = most + 1 },
		func(ids []int, at int) { ids[at] = math.MinInt },
		func(ids []int, at int) { ids[at] = math.MaxInt },
		func(ids []int, at int) { ids[at] = ids[max(0, at-1)] },
		func(ids []int, at int) { ids[at] = ids[max(0, at-1)] - 1 },
		func(ids []int, at int) { ids[at] = 1 },
	}
	for i := range 7 {
		for j := i + 1; j < 7; j++ {
			for _, one := range faults {
				for _, two := range faults {
					ids := []int{10, 20, 30, 40, 50, 60, 70}
					one(ids, i)
					two(ids, j)
					compareIds(t, ids, []int{ids[i], ids[j], 10, 45, 70})
				}
			}
		}
	}
}

// P13.1: Find.

func TestFindInIncreasingIds(t *testing.T) {
	for _, c := range []struct {
		ids    []int
		id, at int
		is     bool
	}{
		{nil, 1, 0, false},
		{nil, 0, 0, false},
		{nil, math.MinInt, 0, false},
		{nil, math.MaxInt, 0, false},
		{[]int{}, most, 0, false},
		{[]int{5}, 4, 0, false},
		{[]int{5}, 5, 0, true},
		{[]int{5}, 6, 1, false},
		{[]int{5}, 0, 0, false},
		{[]int{5}, math.MinInt, 0, false},
		{[]int{5}, math.MaxInt, 1, false},
		{[]int{1}, 1, 0, true},
		{[]int{1}, 0, 0, false},
		{[]int{most}, most, 0, true},
		{[]int{most}, most + 1, 1, false},
		{[]int{2, 5, 9}, 1, 0, false},
		{[]int{2, 5, 9}, 2, 0, true},
		{[]int{2, 5, 9}, 3, 1, false},
		{[]int{2, 5, 9}, 4, 1, false},
		{[]int{2, 5, 9}, 5, 1, true},
		{[]int{2, 5, 9}, 6, 2, false},
		{[]int{2, 5, 9}, 8, 2, false},
		{[]int{2, 5, 9}, 9, 2, true},
		{[]int{2, 5, 9}, 10, 3, false},
		{[]int{2, 5, 9}, 0, 0, false},
		{[]int{2, 5, 9}, -1, 0, false},
		{[]int{2, 5, 9}, most, 3, false},
		{[]int{2, 5, 9}, most + 1, 3, false},
		{[]int{2, 5, 9}, math.MinInt, 0, false},
		{[]int{2, 5, 9}, math.MaxInt, 3, false},
		{[]int{1, most}, 1, 0, true},
		{[]int{1, most}, 2, 1, false},
		{[]int{1, most}, most - 1, 1, false},
		{[]int{1, most}, most, 1, true},
		{[]int{1, most}, most + 1, 2, false},
	} {
		if at, is := rows.Find(c.ids, c.id); at != c.at || is != c.is {
			t.Errorf("Find(%v, %d) = %d, %t, want %d, %t", c.ids, c.id, at, is, c.at, c.is)
		}
	}
}

func TestFindInOtherIds(t *testing.T) {
	for _, c := range []struct {
		ids    []int
		id, at int
		is     bool
	}{
		// An id that occurs once.
		{[]int{9, 5, 2}, 9, 0, true},
		{[]int{9, 5, 2}, 5, 1, true},
		{[]int{9, 5, 2}, 2, 2, true},
		// One that occurs more than once.
		{[]int{5, 5}, 5, 0, true},
		{[]int{2, 5, 5, 9}, 5, 1, true},
		{[]int{9, 5, 2, 5, 9}, 5, 1, true},
		{[]int{9, 5, 2, 5, 9}, 9, 0, true},
		{[]int{7, 7, 7, 7, 7}, 7, 0, true},
		// One that does not occur.
		{[]int{9, 5, 2}, 6, 3, false},
		{[]int{9, 5, 2}, 1, 3, false},
		{[]int{9, 5, 2}, 10, 3, false},
		{[]int{9, 5, 2}, 0, 3, false},
		{[]int{9, 5, 2}, math.MinInt, 3, false},
		{[]int{9, 5, 2}, math.MaxInt, 3, false},
		{[]int{5, 5}, 4, 2, false},
		{[]int{5, 5}, 6, 2, false},
		// Ids that are not increasing only at their end.
		{[]int{2, 5, 9, 9}, 5, 1, true},
		{[]int{2, 5, 9, 9}, 9, 2, true},
		{[]int{2, 5, 9, 9}, 6, 4, false},
		{[]int{2, 5, 9, 9}, 1, 4, false},
		{[]int{2, 5, 9, 8}, 8, 3, true},
		{[]int{2, 5, 9, 8}, 9, 2, true},
		{[]int{2, 5, 9, 8}, 3, 4, false},
		// Ids that are not increasing only because one is out of range.
		{[]int{0}, 0, 0, true},
		{[]int{0}, -1, 1, false},
		{[]int{0}, 1, 1, false},
		{[]int{most + 1}, most + 1, 0, true},
		{[]int{most + 1}, 5, 1, false},
		{[]int{0, 2, 5, 9}, 0, 0, true},
		{[]int{0, 2, 5, 9}, 5, 2, true},
		{[]int{0, 2, 5, 9}, 6, 4, false},
		{[]int{-1, 2, 5, 9}, -1, 0, true},
		{[]int{-1, 2, 5, 9}, 0, 4, false},
		{[]int{2, 5, 9, most + 1}, most + 1, 3, true},
		{[]int{2, 5, 9, most + 1}, 9, 2, true},
		{[]int{2, 5, 9, most + 1}, 6, 4, false},
		{[]int{2, 5, 9, most + 1}, 1, 4, false},
		{[]int{2, math.MaxInt, 9}, 9, 2, true},
		{[]int{2, math.MaxInt, 9}, math.MaxInt, 1, true},
		{[]int{2, 5, 9, math.MaxInt}, math.MaxInt, 3, true},
		{[]int{2, 5, 9, math.MaxInt}, 3, 4, false},
		{[]int{math.MinInt, 5, 9}, math.MinInt, 0, true},
		{[]int{math.MinInt, 5, 9}, 6, 3, false},
	} {
		if at, is := rows.Find(c.ids, c.id); at != c.at || is != c.is {
			t.Errorf("Find(%v, %d) = %d, %t, want %d, %t", c.ids, c.id, at, is, c.at, c.is)
		}
	}
}

func TestEachSmallListOfIds(t *testing.T) {
	numbers := []int{math.MinInt, -1, 0, 1, 2, 3, most - 1, most, most + 1, math.MaxInt}
	sought := around(numbers)
	for n := range 5 {
		smallLists(n, numbers, func(ids []int) { compareIds(t, ids, sought) })
	}
	for n := range 8 {
		smallLists(n, []int{0, 1, 2, 4}, func(ids []int) { compareIds(t, ids, []int{-1, 0, 1, 2, 3, 4, 5}) })
	}
}

func TestEachIdOfALongList(t *testing.T) {
	for _, n := range []int{1, 2, 3, 4, 7, 8, 60, 63, 64, 65, 400} {
		ids := make([]int, n)
		for i := range ids {
			ids[i] = 10 * (i + 1)
		}
		for id := -1; id <= 10*n+11; id++ {
			at, is := max(0, min(n, (id-1)/10)), id >= 10 && id <= 10*n && id%10 == 0
			if gotAt, gotIs := rows.Find(ids, id); gotAt != at || gotIs != is {
				t.Errorf("of %d ids Find(%d) = %d, %t, want %d, %t", n, id, gotAt, gotIs, at, is)
			}
		}
	}
}

// drawnOthers changes some of increasing ids, so that most of the lists are not increasing.
func drawnOthers(r *rand.Rand, ids []int) {
	for range r.Intn(4) {
		if len(ids) == 0 {
			return
		}
		at := r.Intn(len(ids))
		switch r.Intn(4) {
		case 0:
			ids[at] = extremes[r.Intn(len(extremes))]
		case 1:
			ids[at] = ids[r.Intn(len(ids))]
		case 2:
			other := r.Intn(len(ids))
			ids[at], ids[other] = ids[other], ids[at]
		default:
			ids[len(ids)-1] = ids[max(0, len(ids)-2)]
		}
	}
}

func TestDrawnIds(t *testing.T) {
	r := rand.New(rand.NewSource(1301))
	increasing, other := 0, 0
	for range 4000 {
		ids := drawnIds(r, r.Intn(30))
		if r.Intn(20) == 0 {
			ids = drawnIds(r, r.Intn(800))
		}
		drawnOthers(r, ids)
		sought := around(ids)
		if len(sought) > 200 {
			r.Shuffle(len(sought), func(i, j int) { sought[i], sought[j] = sought[j], sought[i] })
			sought = sought[:100]
		}
		compareIds(t, ids, sought)
		if isIncreasing(ids) {
			increasing++
		} else {
			other++
		}
	}
	if increasing < 1000 || other < 1000 {
		t.Errorf("%d lists were increasing, %d others were not", increasing, other)
	}
}

// What stands behind the length of a list of ids does not count.
func TestIdsBehindTheLength(t *testing.T) {
	ids := []int{2, 5, 9, 9, 0, 7}
	if e := rows.Rising(ids[:3]); e != api.OK {
		t.Errorf("2, 5, 9 gives %d", int(e))
	}
	for id, want := range map[int]int{1: 0, 6: 2, 7: 2, 10: 3} {
		if at, is := rows.Find(ids[:3], id); at != want || is {
			t.Errorf("Find(%d) = %d, %t", id, at, is)
		}
	}
	if at, is := rows.Find(ids[:4], 7); at != 4 || is {
		t.Errorf("Find of 7 in 2, 5, 9, 9 returns %d and %t", at, is)
	}
	if !slices.Equal(ids, []int{2, 5, 9, 9, 0, 7}) {
		t.Errorf("the list is %v", ids)
	}
}

// P13.2: the definitions of With, Set, Without and Last, element by element.

func withOf[T any](l []T, at int, v T) ([]T, api.Errno) {
	if at < 0 || at > len(l) {
		return nil, api.ErrArg
	}
	var all []T
	for i, x := range l {
		if i == at {
			all = append(all, v)
		}
		all = append(all, x)
	}
	if at == len(l) {
		all = append(all, v)
	}
	return all, api.OK
}

func setOf[T any](l []T, at int, v T) ([]T, api.Errno) {
	var all []T
	e := api.ErrArg
	for i, x := range l {
		if i == at {
			x, e = v, api.OK
		}
		all = append(all, x)
	}
	if e != api.OK {
		return nil, e
	}
	return all, api.OK
}

func withoutOf[T any](l []T, at int) ([]T, api.Errno) {
	var all []T
	e := api.ErrArg
	for i, x := range l {
		if i == at {
			e = api.OK
			continue
		}
		all = append(all, x)
	}
	if e != api.OK {
		return nil, e
	}
	return all, api.OK
}

func lastOf[T any](l []T, n int) []T {
	var all []T
	for i := len(l) - 1; i >= 0 && len(all) < n; i-- {
		all = append([]T{l[i]}, all...)
	}
	return all
}

// same reports whether two lists have the same elements: a list of none can be nil or empty, an element can't.
func same[T any](a, b []T) bool {
	return len(a) == len(b) && (len(a) == 0 || reflect.DeepEqual(a, b))
}

// inside reports whether a list lies in the memory of another one, also if it has no elements, or lies behind the other's length.
func inside[T any](one, other []T) bool {
	size := reflect.TypeFor[T]().Size()
	from, to := reflect.ValueOf(one).Pointer(), reflect.ValueOf(one).Pointer()+max(1, uintptr(cap(one)))*size
	memory := reflect.ValueOf(other).Pointer()
	return cap(other) > 0 && size > 0 && from < memory+uintptr(cap(other))*size && memory < to
}

// answer is what a call of one of the four returned, and what it is to return.
type answer[T any] struct {
	name      string
	at        int
	got, want []T
	e, code   api.Errno
}

// indexes returns those from below 0 to above a length, and others far from it.
func indexes(n int) []int {
	all := []int{math.MinInt, math.MinInt + 1, math.MinInt32, -n - 1, -n}
	for at := -3; at <= n+3; at++ {
		all = append(all, at)
	}
	return append(all, 2*n+1, math.MaxInt32, 1<<32, 1<<32+n, math.MaxInt-n, math.MaxInt-1, math.MaxInt)
}

// answers calls the four with a list and each of the indexes.
func answers[T any](l []T, v T) []answer[T] {
	var all []answer[T]
	for _, at := range indexes(len(l)) {
		with := answer[T]{name: "With", at: at}
		with.want, with.code = withOf(l, at, v)
		with.got, with.e = rows.With(l, at, v)
		set := answer[T]{name: "Set", at: at}
		set.want, set.code = setOf(l, at, v)
		set.got, set.e = rows.Set(l, at, v)
		without := answer[T]{name: "Without", at: at}
		without.want, without.code = withoutOf(l, at)
		without.got, without.e = rows.Without(l, at)
		last := answer[T]{name: "Last", at: at, want: lastOf(l, at), got: rows.Last(l, at)}
		all = append(all, with, set, without, last)
	}
	return all
}

// compareAnswers compares the four with their definitions.
func compareAnswers[T any](t *testing.T, l []T, v T) {
	t.Helper()
	before := slices.Clone(l)
	for _, a := range answers(l, v) {
		if !same(a.got, a.want) || a.e != a.code {
			t.Fatalf("%s(%#v, %d) = %#v, %d, want %#v, %d", a.name, l, a.at, a.got, int(a.e), a.want, int(a.code))
		}
		if inside(a.got, l) {
			t.Fatalf("%s(%#v, %d) returns memory of its argument", a.name, l, a.at)
		}
	}
	if !same(l, before) {
		t.Fatalf("%#v has been changed into %#v", before, l)
	}
}

// roomy returns a list with others in its memory ahead of it and behind it, and all of that memory.
func roomy[T any](l []T, room int, other T) (list, memory []T) {
	ahead := slices.Repeat([]T{other}, 2)
	memory = slices.Concat(ahead, l, slices.Repeat([]T{other}, room))
	return memory[2 : 2+len(l)], memory
}

// overwrite writes a mark to each element of a list, to the memory behind its length, and appends marks to it.
func overwrite[T any](l []T, mark T) {
	l = l[:cap(l)]
	for i := range l {
		l[i] = mark
	}
	for n := range len(l) + 1 {
		_ = append(l[:n], mark, mark)
	}
}

// apart asserts that the results of the four share memory neither with their argument, which has room behind its length, nor with each other.
func apart[T any](t *testing.T, l []T, room int, v, mark T) {
	t.Helper()
	list, memory := roomy(l, room, v)
	before := slices.Clone(memory)
	all := slices.Concat(answers(list, v), answers(list, v))
	if !same(memory, before) {
		t.Fatalf("%#v has been changed into %#v", before, memory)
	}
	for i, a := range all {
		if a.e != a.code || !same(a.got, a.want) {
			t.Fatalf("%s(%#v, %d) = %#v, %d, want %#v, %d", a.name, l, a.at, a.got, int(a.e), a.want, int(a.code))
		}
		overwrite(a.got, mark)
		if !same(memory, before) {
			t.Fatalf("what is written to the result of %s(%#v, %d) changes its argument", a.name, l, a.at)
		}
		for _, other := range all[i+1:] {
			if !same(other.got, other.want) {
				t.Fatalf("what is written to the result of %s(%#v, %d) changes that of %s(%d)", a.name, l, a.at, other.name, other.at)
			}
		}
	}
	again := answers(list, v)
	overwrite(memory, mark)
	for _, a := range again {
		if !same(a.got, a.want) {
			t.Fatalf("what is written to the argument changes the result of %s(%#v, %d)", a.name, l, a.at)
		}
	}
}

// ofType compares the four with their definitions for lists of one type: nil, an empty list, and those of some elements.
func ofType[T any](t *testing.T, v, mark T, elements ...T) {
	t.Helper()
	compareAnswers(t, []T(nil), v)
	compareAnswers(t, []T{}, v)
	compareAnswers(t, make([]T, 0, 5), v)
	for n := 1; n <= len(elements); n++ {
		compareAnswers(t, elements[:n:n], v)
		compareAnswers(t, elements[:n], mark)
		compareAnswers(t, elements[len(elements)-n:], v)
	}
	for n := range len(elements) + 1 {
		for _, room := range []int{0, 1, 2, n, n + 1, 9} {
			apart(t, elements[:n], room, v, mark)
		}
	}
}

// P13.2: the examples.

func TestTheExamplesOfLists(t *testing.T) {
	if got, e := rows.With([]string{"a", "b"}, 1, "x"); !slices.Equal(got, []string{"a", "x", "b"}) || e != api.OK {
		t.Errorf("With of a, b, the index 1 and x returns %q, %d", got, int(e))
	}
}

func TestWith(t *testing.T) {
	for _, c := range []struct {
		l    []int
		at   int
		want []int
		e    api.Errno
	}{
		{nil, 0, []int{7}, api.OK},
		{nil, 1, nil, api.ErrArg},
		{nil, -1, nil, api.ErrArg},
		{[]int{}, 0, []int{7}, api.OK},
		{[]int{}, 1, nil, api.ErrArg},
		{[]int{1}, 0, []int{7, 1}, api.OK},
		{[]int{1}, 1, []int{1, 7}, api.OK},
		{[]int{1}, 2, nil, api.ErrArg},
		{[]int{1, 2, 3}, 0, []int{7, 1, 2, 3}, api.OK},
		{[]int{1, 2, 3}, 1, []int{1, 7, 2, 3}, api.OK},
		{[]int{1, 2, 3}, 2, []int{1, 2, 7, 3}, api.OK},
		{[]int{1, 2, 3}, 3, []int{1, 2, 3, 7}, api.OK},
		{[]int{1, 2, 3}, 4, nil, api.ErrArg},
		{[]int{1, 2, 3}, -1, nil, api.ErrArg},
		{[]int{1, 2, 3}, math.MinInt, nil, api.ErrArg},
		{[]int{1, 2, 3}, math.MaxInt, nil, api.ErrArg},
	} {
		if got, e := rows.With(c.l, c.at, 7); !slices.Equal(got, c.want) || e != c.e {
			t.Errorf("With(%v, %d, 7) = %v, %d, want %v, %d", c.l, c.at, got, int(e), c.want, int(c.e))
		}
	}
}

func TestSet(t *testing.T) {
	for _, c := range []struct {
		l    []int
		at   int
		want []int
		e    api.Errno
	}{
		{nil, 0, nil, api.ErrArg},
		{nil, -1, nil, api.ErrArg},
		{[]int{}, 0, nil, api.ErrArg},
		{[]int{1}, 0, []int{7}, api.OK},
		{[]int{1}, 1, nil, api.ErrArg},
		{[]int{1}, -1, nil, api.ErrArg},
		{[]int{1, 2, 3}, 0, []int{7, 2, 3}, api.OK},
		{[]int{1, 2, 3}, 1, []int{1, 7, 3}, api.OK},
		{[]int{1, 2, 3}, 2, []int{1, 2, 7}, api.OK},
		{[]int{1, 2, 3}, 3, nil, api.ErrArg},
		{[]int{1, 2, 3}, -1, nil, api.ErrArg},
		{[]int{1, 2, 3}, math.MinInt, nil, api.ErrArg},
		{[]int{1, 2, 3}, math.MaxInt, nil, api.ErrArg},
		{[]int{7, 7}, 1, []int{7, 7}, api.OK},
	} {
		if got, e := rows.Set(c.l, c.at, 7); !slices.Equal(got, c.want) || e != c.e {
			t.Errorf("Set(%v, %d, 7) = %v, %d, want %v, %d", c.l, c.at, got, int(e), c.want, int(c.e))
		}
	}
}

func TestWithout(t *testing.T) {
	for _, c := range []struct {
		l    []int
		at   int
		want []int
		e    api.Errno
	}{
		{nil, 0, nil, api.ErrArg},
		{nil, -1, nil, api.ErrArg},
		{[]int{}, 0, nil, api.ErrArg},
		{[]int{1}, 0, nil, api.OK},
		{[]int{1}, 1, nil, api.ErrArg},
		{[]int{1}, -1, nil, api.ErrArg},
		{[]int{1, 2}, 0, []int{2}, api.OK},
		{[]int{1, 2}, 1, []int{1}, api.OK},
		{[]int{1, 2, 3}, 0, []int{2, 3}, api.OK},
		{[]int{1, 2, 3}, 1, []int{1, 3}, api.OK},
		{[]int{1, 2, 3}, 2, []int{1, 2}, api.OK},
		{[]int{1, 2, 3}, 3, nil, api.ErrArg},
		{[]int{1, 2, 3}, -1, nil, api.ErrArg},
		{[]int{1, 2, 3}, math.MinInt, nil, api.ErrArg},
		{[]int{1, 2, 3}, math.MaxInt, nil, api.ErrArg},
		{[]int{7, 7, 7}, 1, []int{7, 7}, api.OK},
	} {
		if got, e := rows.Without(c.l, c.at); !slices.Equal(got, c.want) || e != c.e {
			t.Errorf("Without(%v, %d) = %v, %d, want %v, %d", c.l, c.at, got, int(e), c.want, int(c.e))
		}
	}
}

func TestLast(t *testing.T) {
	for _, c := range []struct {
		l    []int
		n    int
		want []int
	}{
		{nil, 0, nil},
		{nil, 1, nil},
		{nil, -1, nil},
		{nil, math.MaxInt, nil},
		{nil, math.MinInt, nil},
		{[]int{}, 1, nil},
		{[]int{1}, 0, nil},
		{[]int{1}, 1, []int{1}},
		{[]int{1}, 2, []int{1}},
		{[]int{1}, -1, nil},
		{[]int{1, 2, 3}, 0, nil},
		{[]int{1, 2, 3}, 1, []int{3}},
		{[]int{1, 2, 3}, 2, []int{2, 3}},
		{[]int{1, 2, 3}, 3, []int{1, 2, 3}},
		{[]int{1, 2, 3}, 4, []int{1, 2, 3}},
		{[]int{1, 2, 3}, -1, nil},
		{[]int{1, 2, 3}, -3, nil},
		{[]int{1, 2, 3}, -4, nil},
		{[]int{1, 2, 3}, math.MinInt, nil},
		{[]int{1, 2, 3}, math.MaxInt, []int{1, 2, 3}},
	} {
		if got := rows.Last(c.l, c.n); !slices.Equal(got, c.want) {
			t.Errorf("Last(%v, %d) = %v, want %v", c.l, c.n, got, c.want)
		}
	}
}

// P13.2: lists of any type.

// ids is a type of lists of its own.
type ids []int

func TestListsOfManyTypes(t *testing.T) {
	one, two := 1, 2
	ofType(t, 7, -7, 1, 2, 3, 2, 1)
	ofType(t, byte(7), 255, 1, 2, 3, 0, 5, 6, 7, 8, 9)
	ofType(t, int32(7), math.MinInt32, 1, -2, 3)
	ofType(t, 0.5, math.Inf(-1), 1, 2.5, 0)
	ofType(t, 2i, -1, 1, 1i, 0)
	ofType(t, true, false, false, true, false)
	ofType(t, "x", "", "a", "b", "", "\xff", strings.Repeat("c", 1000))
	ofType(t, [3]int{7}, [3]int{}, [3]int{1}, [3]int{1, 2}, [3]int{1, 2, 3})
	ofType(t, struct{}{}, struct{}{}, struct{}{}, struct{}{}, struct{}{})
	ofType(t, api.Item{Id: 7}, api.Item{}, api.Item{Id: 1, Vendor: 2}, api.Item{Id: 2, Window: 3}, api.Item{Id: 3, Warranty: 4})
	ofType(t, api.Order{Id: 7}, api.Order{}, api.Order{Id: 1, Lines: []api.Line{{Item: 1, Serials: []string{"A"}}}}, api.Order{Id: 2, At: 3})
	ofType(t, []int{7}, nil, []int{1}, nil, []int{}, []int{1, 2, 3})
	ofType(t, [][]string{{"x"}}, nil, nil, [][]string{{"a", "b"}, nil}, [][]string{})
	ofType(t, map[int]int{7: 7}, nil, map[int]int{1: 2}, map[int]int{})
	ofType(t, &one, nil, &two, nil, &one)
	ofType[any](t, 7, nil, "a", 1, nil, []int{1})
	ofType[error](t, api.ErrArg, nil, api.ErrId, nil, errors.New("another"))
	ofType(t, ids{7}, nil, ids{1}, ids{2, 3})
}

func TestListsOfATypeOfTheirOwn(t *testing.T) {
	l := ids{1, 2, 3}
	if got, e := rows.With(l, 1, 7); !slices.Equal(got, []int{1, 7, 2, 3}) || e != api.OK {
		t.Errorf("With returns %v, %d", got, int(e))
	}
	if got, e := rows.Set(l, 1, 7); !slices.Equal(got, []int{1, 7, 3}) || e != api.OK {
		t.Errorf("Set returns %v, %d", got, int(e))
	}
	if got, e := rows.Without(l, 1); !slices.Equal(got, []int{1, 3}) || e != api.OK {
		t.Errorf("Without returns %v, %d", got, int(e))
	}
	if got := rows.Last(l, 2); !slices.Equal(got, []int{2, 3}) {
		t.Errorf("Last returns %v", got)
	}
	if at, is := rows.Find(l, 3); at != 2 || !is || rows.Rising(l) != api.OK {
		t.Errorf("Find returns %d, %t", at, is)
	}
}

// Functions can't be compared, so that they are called.
func TestListsOfFunctions(t *testing.T) {
	constant := func(n int) func() int { return func() int { return n } }
	called := func(l []func() int) (all []int) {
		for _, f := range l {
			all = append(all, f())
		}
		return all
	}
	l := []func() int{constant(1), constant(2), constant(3)}
	if got, e := rows.With(l, 1, constant(7)); !slices.Equal(called(got), []int{1, 7, 2, 3}) || e != api.OK {
		t.Errorf("With returns %v, %d", called(got), int(e))
	}
	if got, e := rows.Set(l, 1, constant(7)); !slices.Equal(called(got), []int{1, 7, 3}) || e != api.OK {
		t.Errorf("Set returns %v, %d", called(got), int(e))
	}
	if got, e := rows.Without(l, 1); !slices.Equal(called(got), []int{1, 3}) || e != api.OK {
		t.Errorf("Without returns %v, %d", called(got), int(e))
	}
	if got := rows.Last(l, 2); !slices.Equal(called(got), []int{2, 3}) {
		t.Errorf("Last returns %v", called(got))
	}
}

// numbered returns a list of n numbers, each of them another one.
func numbered(n int) []int {
	l := make([]int, n)
	for i := range l {
		l[i] = 10 * (i + 1)
	}
	return l
}

func TestListsOfManyElements(t *testing.T) {
	for n := range 40 {
		compareAnswers(t, numbered(n), -1)
	}
	for n := range 18 {
		apart(t, numbered(n), n%3, -1, -2)
	}
	for _, n := range []int{60, 64, 128, 255, 256, 257, 400} {
		compareAnswers(t, numbered(n), -1)
	}
	for _, n := range []int{1000, 1024, 100000} {
		l := numbered(n)
		for _, at := range []int{0, 1, n / 2, n - 1, n} {
			want, code := withOf(l, at, -1)
			if got, e := rows.With(l, at, -1); !slices.Equal(got, want) || e != code {
				t.Errorf("With of %d elements and the index %d returns others, %d", n, at, int(e))
			}
			want, code = setOf(l, at, -1)
			if got, e := rows.Set(l, at, -1); !slices.Equal(got, want) || e != code {
				t.Errorf("Set of %d elements and the index %d returns others, %d", n, at, int(e))
			}
			want, code = withoutOf(l, at)
			if got, e := rows.Without(l, at); !slices.Equal(got, want) || e != code {
				t.Errorf("Without of %d elements and the index %d returns others, %d", n, at, int(e))
			}
			if got := rows.Last(l, at); !slices.Equal(got, l[n-at:]) {
				t.Errorf("Last of %d elements and %d returns others", n, at)
			}
		}
	}
}

// P13.2: what is newly allocated, step by step.

func TestAResultHasMemoryOfItsOwn(t *testing.T) {
	memory := []string{"a", "b", "c", "d", "e"}
	list := memory[:3]
	results := func() [][]string {
		with, _ := rows.With(list, 3, "x")
		set, _ := rows.Set(list, 2, "x")
		without, _ := rows.Without(list, 2)
		return [][]string{with, set, without, rows.Last(list, 3)}
	}
	want := [][]string{{"a", "b", "c", "x"}, {"a", "b", "x"}, {"a", "b"}, {"a", "b", "c"}}
	for i, l := range results() {
		if !slices.Equal(l, want[i]) {
			t.Errorf("%d: %q, want %q", i, l, want[i])
		}
		l[0] = "written"
		_ = append(l, "appended", "appended")
		if !slices.Equal(memory, []string{"a", "b", "c", "d", "e"}) {
			t.Fatalf("%d: the argument's memory is %q", i, memory)
		}
	}
	kept := results()
	list[0], list[1], list[2] = "1", "2", "3"
	_ = append(list, "4", "5")
	for i, l := range kept {
		if !slices.Equal(l, want[i]) {
			t.Errorf("%d: %q, want %q", i, l, want[i])
		}
	}
}

// What is appended to a result, and given to the call again, is not lost to a later call.
func TestResultsAreArgumentsAgain(t *testing.T) {
	one, _ := rows.With([]int{}, 0, 1)
	two, _ := rows.With(one, 1, 2)
	three, _ := rows.With(one, 1, 3)
	four, _ := rows.Set(two, 1, 4)
	five, _ := rows.With(two, 2, 5)
	none, _ := rows.Without(one, 0)
	six, _ := rows.With(none, 0, 6)
	last := rows.Last(five, 2)
	seven, _ := rows.With(last, 2, 7)
	for i, c := range []struct{ got, want []int }{
		{one, []int{1}}, {two, []int{1, 2}}, {three, []int{1, 3}}, {four, []int{1, 4}}, {five, []int{1, 2, 5}},
		{none, nil}, {six, []int{6}}, {last, []int{2, 5}}, {seven, []int{2, 5, 7}},
	} {
		if !slices.Equal(c.got, c.want) {
			t.Errorf("%d: %v, want %v", i, c.got, c.want)
		}
	}
}

// P13.3: turn.

// turns asserts that Without reverses With, With reverses Without, and Set reverses Set, at each index.
func turns(t *testing.T, l []int, v int) {
	t.Helper()
	before := slices.Clone(l)
	for at := range len(l) + 1 {
		with, e := rows.With(l, at, v)
		if e != api.OK || len(with) != len(l)+1 || with[at] != v {
			t.Fatalf("With(%v, %d, %d) = %v, %d", l, at, v, with, int(e))
		}
		if got, e := rows.Without(with, at); !slices.Equal(got, before) || e != api.OK {
			t.Errorf("Without(%v, %d) = %v, %d", with, at, got, int(e))
		}
		if at == len(l) {
			continue
		}
		set, e := rows.Set(l, at, v)
		if e != api.OK || len(set) != len(l) || set[at] != v {
			t.Fatalf("Set(%v, %d, %d) = %v, %d", l, at, v, set, int(e))
		}
		if got, e := rows.Set(set, at, l[at]); !slices.Equal(got, before) || e != api.OK {
			t.Errorf("Set(%v, %d, %d) = %v, %d", set, at, l[at], got, int(e))
		}
		without, _ := rows.Without(l, at)
		if got, e := rows.With(without, at, l[at]); !slices.Equal(got, before) || e != api.OK {
			t.Errorf("With(%v, %d, %d) = %v, %d", without, at, l[at], got, int(e))
		}
	}
	if !slices.Equal(l, before) {
		t.Fatalf("%v has been changed into %v", before, l)
	}
}

func TestTurns(t *testing.T) {
	for n := range 6 {
		smallLists(n, []int{1, 2, 3}, func(l []int) {
			turns(t, l, 2)
			turns(t, l, 4)
		})
	}
	r := rand.New(rand.NewSource(1303))
	for range 500 {
		l := make([]int, r.Intn(60), 80)
		for i := range l {
			l[i] = r.Intn(10)
		}
		turns(t, l, r.Intn(10))
		turns(t, l, extremes[r.Intn(len(extremes))])
		compareAnswers(t, l, r.Intn(10))
		apart(t, l[:min(len(l), r.Intn(5))], r.Intn(4), 3, -3)
	}
}

// drawnText returns a text that is short, so that equal ones are drawn.
func drawnText(r *rand.Rand) string { return strings.Repeat("ab", r.Intn(3)) }

// Many changes after each other have the results that the definitions have.
func TestDrawnChanges(t *testing.T) {
	r := rand.New(rand.NewSource(13033))
	for range 300 {
		var got, want []string
		for range 60 {
			at, v := r.Intn(len(got)+3)-1, drawnText(r)
			old, kept := got, slices.Clone(got)
			var e, code api.Errno
			switch r.Intn(6) {
			case 0:
				got, e = rows.Set(old, at, v)
				want, code = setOf(want, at, v)
			case 1:
				got, e = rows.Without(old, at)
				want, code = withoutOf(want, at)
			case 2:
				got = rows.Last(old, at+4)
				want = lastOf(want, at+4)
			default:
				got, e = rows.With(old, at, v)
				want, code = withOf(want, at, v)
			}
			if !slices.Equal(got, want) || e != code {
				t.Fatalf("%q, %d, want %q, %d", got, int(e), want, int(code))
			}
			if !slices.Equal(old, kept) {
				t.Fatalf("%q has been changed into %q", kept, old)
			}
		}
	}
}

// P13.4: find.

// inserted inserts an id that does not occur at the index that Find returns.
func inserted(t *testing.T, l []int, id int) []int {
	t.Helper()
	at, is := rows.Find(l, id)
	if is {
		t.Fatalf("Find(%v, %d) = %d, %t", l, id, at, is)
	}
	with, e := rows.With(l, at, id)
	if e != api.OK || rows.Rising(with) != api.OK || !isIncreasing(with) {
		t.Fatalf("With(%v, %d, %d) = %v, %d", l, at, id, with, int(e))
	}
	if again, is := rows.Find(with, id); again != at || !is {
		t.Errorf("Find(%v, %d) = %d, %t, want %d", with, id, again, is, at)
	}
	if without, e := rows.Without(with, at); !slices.Equal(without, l) || e != api.OK {
		t.Errorf("Without(%v, %d) = %v, %d, want %v", with, at, without, int(e), l)
	}
	return with
}

func TestIncreasingIdsRemainSo(t *testing.T) {
	for n := range 5 {
		smallLists(n, []int{1, 2, 3, 5, most - 1, most}, func(l []int) {
			if !isIncreasing(l) {
				return
			}
			for _, id := range []int{1, 2, 3, 4, 5, 6, most - 2, most - 1, most} {
				if !slices.Contains(l, id) {
					inserted(t, l, id)
				}
			}
		})
	}
}

func TestIdsAreInsertedOneByOne(t *testing.T) {
	r := rand.New(rand.NewSource(1304))
	for range 300 {
		want := drawnIds(r, r.Intn(80))
		order := r.Perm(len(want))
		var got []int
		for _, i := range order {
			got = inserted(t, got, want[i])
		}
		if !slices.Equal(got, want) {
			t.Fatalf("%v, want %v", got, want)
		}
		for range 5 {
			if id := 1 + r.Intn(most); !slices.Contains(got, id) {
				inserted(t, got, id)
			}
		}
	}
}

// A number that is no id makes ids that are not increasing, wherever it is inserted.
func TestANumberOutsideIsInserted(t *testing.T) {
	for _, base := range append(bases, nil) {
		for _, id := range outside {
			at, is := rows.Find(base, id)
			with, e := rows.With(base, at, id)
			if is || e != api.OK || rows.Rising(with) != api.ErrId {
				t.Errorf("Find(%v, %d) = %d, %t", base, id, at, is)
			}
			if at, is := rows.Find(with, id); !is || with[at] != id {
				t.Errorf("Find(%v, %d) = %d, %t", with, id, at, is)
			}
		}
	}
}
