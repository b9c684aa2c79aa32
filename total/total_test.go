package total_test

import (
	"fmt"
	"math"
	"math/rand"
	"slices"
	"testing"

	"backhaul/api"
	"backhaul/rule"
	"backhaul/total"
)

const (
	most     = 20
	maxCents = 1000000000000
)

// noSmall are numbers beyond each of the small limits: around them, with the same last bits as numbers within them, and around what 8, 16, 32 and 64 bits hold.
var noSmall = []int{
	math.MinInt, math.MinInt + 1, math.MinInt + 3, -1 << 32, math.MinInt32, 3 - 1<<16, -256, -255, -16, -15, -4, -2, -1,
	16, 17, 19, 31, 32, 64, 127, 255, 256, 257, 259, 1 << 16, 1<<16 + 3, math.MaxInt32, 1 << 32, 1<<32 + 1, 1<<32 + 3, math.MaxInt - 1, math.MaxInt,
}

var (
	noGrades     = append([]int{0}, noSmall...)
	noWarranties = append([]int{0, 4, 5, 6, 7, 8, 9, 11, 15}, noSmall...)
	noWays       = append([]int{0, 6, 7, 8, 9, 10, 15}, noSmall...)
	noAmounts    = []int{math.MinInt, math.MinInt + 100, -maxCents, -1 << 32, -100, -1, maxCents + 1, maxCents + 2, 1 << 40, 1<<40 + 100, 2 * maxCents, math.MaxInt - 1, math.MaxInt}
)

// gradesOf are the grades whose bits are 1, and warrantyOf those of under warranty or not.
var (
	gradesOf   = [16][]int{nil, {0}, {1}, {0, 1}, {2}, {0, 2}, {1, 2}, {0, 1, 2}, {3}, {0, 3}, {1, 3}, {0, 1, 3}, {2, 3}, {0, 2, 3}, {1, 2, 3}, {0, 1, 2, 3}}
	warrantyOf = [4][]bool{nil, {false}, {true}, {false, true}}
	ways       = []int{api.Restock, api.Refurb, api.Vendor, api.Liquidate, api.Scrap}
)

// eight are the facts of each cell that have no amount yet.
var eight = [8]rule.Facts{{Grade: 0}, {Grade: 0, Warranty: true}, {Grade: 1}, {Grade: 1, Warranty: true}, {Grade: 2}, {Grade: 2, Warranty: true}, {Grade: 3}, {Grade: 3, Warranty: true}}

// bits are the Grades and the Warranty of a row of one cell.
var bits = [8][2]int{{1, 1}, {1, 2}, {2, 1}, {2, 2}, {4, 1}, {4, 2}, {8, 1}, {8, 2}}

// everywhere returns a row of all cells, and within one of a single cell.
func everywhere(lo, hi int) api.Row {
	return api.Row{Grades: 15, Warranty: 3, Lo: lo, Hi: hi, Way: api.Restock}
}

func within(cell, lo, hi int) api.Row {
	return api.Row{Grades: bits[cell][0], Warranty: bits[cell][1], Lo: lo, Hi: hi, Way: ways[cell%5]}
}

// at returns the facts of a cell and an amount.
func at(cell, amount int) rule.Facts {
	f := eight[cell]
	f.Amount = amount
	return f
}

// isTable is the definition of a valid table.
func isTable(l []api.Row) bool {
	for _, r := range l {
		if r.Grades < 1 || r.Grades > 15 || r.Warranty < 1 || r.Warranty > 3 || !slices.Contains(ways, r.Way) {
			return false
		}
		if !slices.IsSorted([]int{0, r.Lo, r.Hi, maxCents}) {
			return false
		}
	}
	return len(l) > 0 && len(l) <= most
}

// matches is the definition of a valid row that matches valid facts.
func matches(r api.Row, f rule.Facts) bool {
	return slices.Contains(gradesOf[r.Grades], f.Grade) && slices.Contains(warrantyOf[r.Warranty], f.Warranty) && min(max(f.Amount, r.Lo), r.Hi) == f.Amount
}

// matched reports whether one of some rows matches facts.
func matched(l []api.Row, f rule.Facts) bool {
	return slices.ContainsFunc(l, func(r api.Row) bool { return matches(r, f) })
}

// starts returns, in increasing order, the amounts with which something begins or is behind: each row matches all of the amounts from one of these to the next, or none.
func starts(l []api.Row) []int {
	all := []int{0}
	for _, r := range l {
		all = append(all, r.Lo, r.Hi+1)
	}
	slices.Sort(all)
	all = slices.Compact(all)
	return slices.DeleteFunc(all, func(n int) bool { return n > maxCents })
}

// gapOf is the definition of Gap.
func gapOf(l []api.Row) (rule.Facts, bool) {
	if !isTable(l) {
		return rule.Facts{}, true
	}
	for cell := range 8 {
		for _, amount := range starts(l) {
			if !matched(l, at(cell, amount)) {
				return at(cell, amount), true
			}
		}
	}
	return rule.Facts{}, false
}

// deadOf is the definition of Dead.
func deadOf(l []api.Row) []int {
	if !isTable(l) {
		return nil
	}
	lives := make([]bool, len(l))
	for cell := range 8 {
		for _, amount := range starts(l) {
			for i, r := range l {
				if matches(r, at(cell, amount)) {
					lives[i] = true
					break
				}
			}
		}
	}
	var dead []int
	for i := range l {
		if !lives[i] {
			dead = append(dead, i)
		}
	}
	return dead
}

// cellsOf is the definition of Cells.
func cellsOf(l []api.Row) (counts [8]int, e api.Errno) {
	if !isTable(l) {
		return counts, api.ErrRules
	}
	for _, r := range l {
		for cell := range 8 {
			if slices.ContainsFunc(starts(l), func(amount int) bool { return matches(r, at(cell, amount)) }) {
				counts[cell]++
			}
		}
	}
	return counts, api.OK
}

// isRules is the definition of rules that Check takes.
func isRules(r api.Rules) bool {
	_, gap := gapOf(r.Rows)
	return !gap && isQuestions(r.Asks) && isRising(r.Cuts, 3, 8000) && isRising(r.Fees, 4, 10000)
}

func isQuestions(l []int) bool {
	for _, n := range l {
		if n < 0 || n > 1000 {
			return false
		}
	}
	return len(l) >= 1 && len(l) <= 8
}

// isRising reports whether a list has n numbers from 0 to a greatest one, none less than the one before it.
func isRising(l []int, n, greatest int) bool {
	least := 0
	for _, x := range l {
		if x < least || x > greatest {
			return false
		}
		least = x
	}
	return len(l) == n
}

// brief is a list that is shown by its first rows, and its length if it has others.
type brief []api.Row

func (l brief) String() string {
	if len(l) <= most+1 {
		return fmt.Sprint([]api.Row(l))
	}
	return fmt.Sprintf("%v and so on, %d in all", []api.Row(l[:most]), len(l))
}

// gaps checks what Gap and Whole return.
func gaps(t *testing.T, l []api.Row, want rule.Facts, open bool) {
	t.Helper()
	if f, got := total.Gap(l); f != want || got != open {
		t.Errorf("Gap(%v) = %v, %v, want %v, %v", brief(l), f, got, want, open)
	}
	if whole := total.Whole(l); whole == open {
		t.Errorf("Whole(%v) = %v", brief(l), whole)
	}
}

// dies checks what Dead returns.
func dies(t *testing.T, l []api.Row, want ...int) {
	t.Helper()
	if dead := total.Dead(l); !slices.Equal(dead, want) {
		t.Errorf("Dead(%v) = %v, want %v", brief(l), dead, want)
	}
}

// counted checks what Cells returns.
func counted(t *testing.T, l []api.Row, want [8]int, code api.Errno) {
	t.Helper()
	if counts, e := total.Cells(l); counts != want || e != code {
		t.Errorf("Cells(%v) = %v, %d, want %v, %d", brief(l), counts, int(e), want, int(code))
	}
}

// refused checks what is returned for a table that is not valid.
func refused(t *testing.T, l []api.Row) {
	t.Helper()
	gaps(t, l, rule.Facts{}, true)
	dies(t, l)
	counted(t, l, [8]int{}, api.ErrRules)
	checked(t, rulesOf(l), api.ErrRules)
}

// checked checks what Check returns.
func checked(t *testing.T, r api.Rules, want api.Errno) {
	t.Helper()
	if e := total.Check(r); e != want {
		t.Errorf("Check of %v, %v, %v and %v = %d, want %d", r.Asks, r.Cuts, r.Fees, brief(r.Rows), int(e), int(want))
	}
}

// compare compares all calls with their definitions.
func compare(t *testing.T, l []api.Row) {
	t.Helper()
	before := slices.Clone(l)
	f, open := gapOf(before)
	gaps(t, l, f, open)
	unchanged(t, l, before)
	dies(t, l, deadOf(before)...)
	unchanged(t, l, before)
	counts, e := cellsOf(before)
	counted(t, l, counts, e)
	unchanged(t, l, before)
	compareCheck(t, rulesOf(l))
	unchanged(t, l, before)
}

// compareCheck compares Check with its definition.
func compareCheck(t *testing.T, r api.Rules) {
	t.Helper()
	want := api.ErrRules
	if isRules(r) {
		want = api.OK
	}
	checked(t, r, want)
}

func unchanged(t *testing.T, l, before []api.Row) {
	t.Helper()
	if !slices.Equal(l, before) {
		t.Fatalf("%v has been changed into %v", brief(before), brief(l))
	}
}

// rulesOf returns rules of which all but the table are valid.
func rulesOf(l []api.Row) api.Rules {
	return api.Rules{Asks: []int{5, 3, 1}, Cuts: []int{0, 5, 20}, Fees: []int{0, 500, 500, 10000}, Rows: l}
}

// orders calls a function with rows in each order.
func orders(l []api.Row, f func(l []api.Row)) {
	if len(l) == 0 {
		f(nil)
		return
	}
	for i, first := range l {
		orders(slices.Delete(slices.Clone(l), i, i+1), func(rest []api.Row) { f(append([]api.Row{first}, rest...)) })
	}
}

// someOrders calls a function with rows in this order, from behind, and in drawn orders.
func someOrders(r *rand.Rand, l []api.Row, f func(l []api.Row)) {
	l = slices.Clone(l)
	f(l)
	slices.Reverse(l)
	f(l)
	for range 5 {
		r.Shuffle(len(l), func(i, j int) { l[i], l[j] = l[j], l[i] })
		f(l)
	}
}

func drawn(r *rand.Rand, numbers []int) int { return numbers[r.Intn(len(numbers))] }

// edges are amounts of which many drawn rows begin or end with the same ones, or with neighbours.
var edges = []int{0, 0, 1, 2, 99, 100, 101, 1<<32 - 1, 1 << 32, 1<<32 + 1, 1<<32 + 100, maxCents - 2, maxCents - 1, maxCents, maxCents}

// drawnAmount returns an amount, an edge or any one.
func drawnAmount(r *rand.Rand) int {
	return [...]int{drawn(r, edges), drawn(r, edges), r.Intn(10), r.Intn(maxCents + 1), maxCents - r.Intn(10)}[r.Intn(5)]
}

func drawnRow(r *rand.Rand) api.Row {
	lo, hi := drawnAmount(r), drawnAmount(r)
	row := api.Row{Grades: 1 + r.Intn(15), Warranty: 1 + r.Intn(3), Lo: min(lo, hi), Hi: max(lo, hi), Way: drawn(r, ways)}
	if r.Intn(2) == 0 {
		row.Grades = 15
	}
	if r.Intn(2) == 0 {
		row.Warranty = 3
	}
	return row
}

func drawnRows(r *rand.Rand, n int) []api.Row {
	l := make([]api.Row, n)
	for i := range l {
		l[i] = drawnRow(r)
	}
	return l
}

// drawnParts returns rows that match each of the facts just once: one row that has been parted by amounts, by grades or by warranty, again and again.
func drawnParts(r *rand.Rand, n int) []api.Row {
	l := []api.Row{everywhere(0, maxCents)}
	for len(l) < n {
		i := r.Intn(len(l))
		one, other := l[i], l[i]
		switch r.Intn(3) {
		case 0:
			one.Hi = min(max(drawnAmount(r), one.Lo), one.Hi)
			other.Lo = one.Hi + 1
		case 1:
			one.Grades &= 1 + r.Intn(15)
			other.Grades &^= one.Grades
		case 2:
			one.Warranty &= 1 + r.Intn(2)
			other.Warranty &^= one.Warranty
		}
		if isTable([]api.Row{one, other}) {
			one.Way, other.Way = drawn(r, ways), drawn(r, ways)
			l[i] = one
			l = append(l, other)
		}
	}
	r.Shuffle(len(l), func(i, j int) { l[i], l[j] = l[j], l[i] })
	return l
}

// drawnTable returns rows of any kind: drawn ones, parts of all, and these less one row, with one that is less, or with others among them.
func drawnTable(r *rand.Rand) []api.Row {
	n := 1 + r.Intn(most)
	l := drawnParts(r, n)
	i := r.Intn(n)
	switch r.Intn(6) {
	case 0:
		return drawnRows(r, n)
	case 1:
		l = slices.Delete(l, i, i+1)
	case 2:
		l[i].Lo = min(l[i].Lo+1+r.Intn(2), l[i].Hi)
	case 3:
		l[i].Hi = max(l[i].Hi-1-r.Intn(2), l[i].Lo)
	case 4:
		for len(l) < most {
			l = slices.Insert(l, r.Intn(len(l)+1), drawnRow(r))
		}
	}
	if len(l) == 0 {
		return []api.Row{drawnRow(r)}
	}
	return l
}

// wrongRows returns rows that differ from a valid one in a single field, or in Lo and Hi, and are not valid.
func wrongRows(row api.Row) []api.Row {
	var l []api.Row
	add := func(numbers []int, field func(r *api.Row) *int) {
		for _, n := range numbers {
			wrong := row
			*field(&wrong) = n
			l = append(l, wrong)
		}
	}
	add(noGrades, func(r *api.Row) *int { return &r.Grades })
	add(noWarranties, func(r *api.Row) *int { return &r.Warranty })
	add(noAmounts, func(r *api.Row) *int { return &r.Lo })
	add(noAmounts, func(r *api.Row) *int { return &r.Hi })
	add(noWays, func(r *api.Row) *int { return &r.Way })
	for _, x := range [][2]int{{1, 0}, {100, 99}, {maxCents, maxCents - 1}, {maxCents, 0}, {-1, -1}, {maxCents + 1, maxCents + 1}, {-1, maxCents + 1}, {math.MinInt, math.MaxInt}, {math.MaxInt, math.MinInt}, {math.MinInt, math.MinInt}, {math.MaxInt, math.MaxInt}} {
		wrong := row
		wrong.Lo, wrong.Hi = x[0], x[1]
		l = append(l, wrong)
	}
	return append(l, api.Row{})
}

func TestTheLimits(t *testing.T) {
	if api.MaxRows != most || api.MaxCents != maxCents || api.Grades != 4 || api.MaxAsks != 8 || api.MaxBasis != 10000 {
		t.Errorf("MaxRows is %d, MaxCents %d, MaxAsks %d, MaxBasis %d, and there are %d grades", api.MaxRows, api.MaxCents, api.MaxAsks, api.MaxBasis, api.Grades)
	}
	if !slices.Equal(ways, []int{1, 2, 3, 4, 5}) {
		t.Errorf("the ways are %v", ways)
	}
}

// The examples of the chapter.

func TestTheExample(t *testing.T) {
	for _, way := range ways {
		l := []api.Row{{Grades: 15, Warranty: 3, Lo: 0, Hi: api.MaxCents, Way: way}}
		gaps(t, l, rule.Facts{}, false)
		l[0].Hi = 99
		gaps(t, l, rule.Facts{Grade: 0, Warranty: false, Amount: 100}, true)
	}
}

func TestTheExampleOfDead(t *testing.T) {
	r := rand.New(rand.NewSource(191))
	for range 500 {
		row := drawnRow(r)
		dies(t, []api.Row{row, row}, 1)
	}
}

// P19.1: Gap and Whole.

func TestNoRows(t *testing.T) {
	for _, l := range [][]api.Row{nil, {}, make([]api.Row, 0, 5), goodRows[0][:0]} {
		refused(t, l)
		compare(t, l)
	}
}

func TestNumbersOfRows(t *testing.T) {
	r := rand.New(rand.NewSource(192))
	for n := 1; n <= 300; n++ {
		l := slices.Repeat([]api.Row{everywhere(0, maxCents)}, n)
		compare(t, l)
		compare(t, drawnRows(r, n))
		compare(t, drawnParts(r, n))
		if n > 20 {
			refused(t, l)
			refused(t, drawnParts(r, n))
			continue
		}
		gaps(t, l, rule.Facts{}, false)
		gaps(t, drawnParts(r, n), rule.Facts{}, false)
		for i := range l {
			l[i].Hi = 99
		}
		gaps(t, l, rule.Facts{Amount: 100}, true)
	}
	for _, n := range []int{20 + 1<<8, 20 + 1<<16, 1 + 1<<16} {
		refused(t, slices.Repeat([]api.Row{everywhere(0, maxCents)}, n))
	}
}

// A row that is not valid, at each place of tables that are complete without it.
func TestAWrongRowAtEachPlace(t *testing.T) {
	for n := 1; n <= most; n++ {
		for place := range n {
			l := slices.Repeat([]api.Row{everywhere(0, maxCents)}, n)
			for _, wrong := range wrongRows(l[place]) {
				l[place] = wrong
				refused(t, l)
			}
		}
	}
}

func TestSeveralWrongRows(t *testing.T) {
	r := rand.New(rand.NewSource(193))
	wrong := wrongRows(everywhere(0, maxCents))
	for n := range most + 3 {
		for range 30 {
			l := drawnRows(r, n)
			for i := range l {
				if r.Intn(4) == 0 {
					l[i] = wrong[r.Intn(len(wrong))]
				}
			}
			compare(t, l)
		}
		refused(t, make([]api.Row, n))
	}
}

// The whole of each cell, by a row for each cell, for each grade, for each of without and under warranty, and for any two sets of grades that are all of them.
func TestCompleteTablesOfWholeCells(t *testing.T) {
	r := rand.New(rand.NewSource(194))
	var tables [][]api.Row
	var one []api.Row
	for cell := range 8 {
		one = append(one, within(cell, 0, maxCents))
	}
	tables = append(tables, one)
	row := func(grades, warranty int) api.Row {
		return api.Row{Grades: grades, Warranty: warranty, Lo: 0, Hi: maxCents, Way: drawn(r, ways)}
	}
	tables = append(tables, []api.Row{row(1, 3), row(2, 3), row(4, 3), row(8, 3)}, []api.Row{row(15, 1), row(15, 2)}, []api.Row{row(15, 3)})
	for grades := 1; grades < 15; grades++ {
		tables = append(tables, []api.Row{row(grades, 3), row(15-grades, 3)}, []api.Row{row(grades, 1), row(15-grades, 1), row(15, 2)}, []api.Row{row(grades, 3), row(15-grades, 1), row(15-grades, 2)})
	}
	for _, l := range tables {
		someOrders(r, l, func(l []api.Row) {
			gaps(t, l, rule.Facts{}, false)
			compare(t, l)
			checked(t, rulesOf(l), api.OK)
			if len(l) == 1 {
				return
			}
			// Each row is needed.
			for i := range l {
				if less := slices.Delete(slices.Clone(l), i, i+1); total.Whole(less) {
					t.Errorf("Whole(%v) = true", less)
				}
			}
		})
	}
}

func TestDrawnCompleteTables(t *testing.T) {
	r := rand.New(rand.NewSource(195))
	for range 2000 {
		l := drawnParts(r, 1+r.Intn(most))
		gaps(t, l, rule.Facts{}, false)
		dies(t, l)
		compare(t, l)
		// Less one row, the first facts of this row are the gap: there is no other row that matches them.
		i := r.Intn(len(l))
		less := slices.Delete(slices.Clone(l), i, i+1)
		if len(less) == 0 {
			continue
		}
		first := 0
		for !matches(l[i], at(first, l[i].Lo)) {
			first++
		}
		gaps(t, less, at(first, l[i].Lo), true)
		checked(t, rulesOf(less), api.ErrRules)
	}
}

// holes are gaps from an amount to another: at the ends, in between, of one amount alone and of more, and of all amounts.
var holes = [][2]int{
	{0, 0}, {0, 1}, {0, 99}, {0, 1 << 32}, {0, maxCents - 1}, {0, maxCents},
	{1, 1}, {1, 2}, {100, 100}, {100, 200}, {1 << 32, 1 << 32}, {1<<32 + 1, 1 << 33}, {1, maxCents - 1}, {maxCents - 1, maxCents - 1},
	{1, maxCents}, {101, maxCents}, {1<<32 + 100, maxCents}, {maxCents - 1, maxCents}, {maxCents, maxCents},
}

// around returns rows that match all amounts of a cell but those of a hole.
func around(cell int, hole [2]int) []api.Row {
	var l []api.Row
	if hole[0] > 0 {
		l = append(l, within(cell, 0, hole[0]-1))
	}
	if hole[1] < maxCents {
		l = append(l, within(cell, hole[1]+1, maxCents))
	}
	return l
}

func TestAGapInOneCellAlone(t *testing.T) {
	r := rand.New(rand.NewSource(196))
	for cell := range 8 {
		for _, hole := range holes {
			l := around(cell, hole)
			for other := range 8 {
				if other != cell {
					l = append(l, within(other, 0, maxCents))
				}
			}
			someOrders(r, l, func(l []api.Row) {
				gaps(t, l, at(cell, hole[0]), true)
				compare(t, l)
				checked(t, rulesOf(l), api.ErrRules)
				// What closes just this gap makes the table complete, in front and behind.
				closing := within(cell, hole[0], hole[1])
				gaps(t, append([]api.Row{closing}, l...), rule.Facts{}, false)
				gaps(t, append(slices.Clone(l), closing), rule.Facts{}, false)
			})
		}
	}
}

// A gap in each cell of each set of them: the one of the first cell is returned, whatever the amounts are.
func TestGapsInSeveralCells(t *testing.T) {
	r := rand.New(rand.NewSource(197))
	for set := 1; set < 256; set++ {
		for range 10 {
			var l []api.Row
			want := rule.Facts{Grade: -1}
			for cell := range 8 {
				if set>>cell&1 == 0 {
					l = append(l, within(cell, 0, maxCents))
					continue
				}
				hole := holes[r.Intn(len(holes))]
				l = append(l, around(cell, hole)...)
				if want.Grade < 0 {
					want = at(cell, hole[0])
				}
			}
			if len(l) == 0 {
				continue
			}
			r.Shuffle(len(l), func(i, j int) { l[i], l[j] = l[j], l[i] })
			gaps(t, l, want, true)
			compare(t, l)
		}
	}
}

// The first cell with a gap lacks the greatest amount alone, and those after it lack the amount 0.
func TestTheCellCountsBeforeTheAmount(t *testing.T) {
	for cell := range 7 {
		l := []api.Row{}
		for other := range 8 {
			switch {
			case other < cell:
				l = append(l, within(other, 0, maxCents))
			case other == cell:
				l = append(l, within(other, 0, maxCents-1))
			default:
				l = append(l, within(other, 1, maxCents))
			}
		}
		gaps(t, l, at(cell, maxCents), true)
		slices.Reverse(l)
		gaps(t, l, at(cell, maxCents), true)
	}
}

// A cell without any row has its gap at the amount 0.
func TestCellsWithoutRows(t *testing.T) {
	var l []api.Row
	for cell := range 8 {
		if cell > 0 {
			gaps(t, l, at(cell, 0), true)
		}
		l = append(l, within(cell, 0, maxCents))
		want := at(0, 0)
		if cell == 0 {
			want = at(1, 0)
		}
		gaps(t, l[cell:], want, true)
	}
	gaps(t, l, rule.Facts{}, false)
}

// spans are rows of the same cells by their amounts, and the least amount that none of them matches: below 0 if there is none.
var spans = []struct {
	rows [][2]int
	gap  int
}{
	// One row.
	{[][2]int{{0, maxCents}}, -1}, {[][2]int{{0, 99}}, 100}, {[][2]int{{0, 0}}, 1}, {[][2]int{{1, 1}}, 0}, {[][2]int{{1, maxCents}}, 0}, {[][2]int{{0, maxCents - 1}}, maxCents}, {[][2]int{{maxCents, maxCents}}, 0}, {[][2]int{{5, 100}}, 0},
	// Rows that touch, and that do not by one amount.
	{[][2]int{{0, 99}, {100, maxCents}}, -1}, {[][2]int{{0, 99}, {101, maxCents}}, 100}, {[][2]int{{0, 99}, {102, maxCents}}, 100}, {[][2]int{{0, 99}, {200, 300}}, 100},
	{[][2]int{{0, 0}, {1, maxCents}}, -1}, {[][2]int{{0, 0}, {2, maxCents}}, 1}, {[][2]int{{0, maxCents - 1}, {maxCents, maxCents}}, -1}, {[][2]int{{0, maxCents - 2}, {maxCents, maxCents}}, maxCents - 1},
	{[][2]int{{0, 0}, {1, 1}, {2, 2}, {3, maxCents}}, -1}, {[][2]int{{0, 0}, {1, 1}, {2, 2}, {4, maxCents}}, 3}, {[][2]int{{0, 0}, {1, 1}, {3, 3}, {4, maxCents}}, 2}, {[][2]int{{0, 0}, {2, 2}, {3, 3}, {4, maxCents}}, 1}, {[][2]int{{1, 1}, {2, 2}, {3, 3}, {4, maxCents}}, 0},
	{[][2]int{{0, 99}, {100, 199}, {200, maxCents - 1}}, maxCents}, {[][2]int{{0, 99}, {100, 199}, {200, maxCents - 1}, {maxCents, maxCents}}, -1},
	// Rows that overlap: by one amount, by more, and one after the other.
	{[][2]int{{0, 100}, {100, maxCents}}, -1}, {[][2]int{{0, 500}, {100, maxCents}}, -1}, {[][2]int{{0, 500}, {100, 700}}, 701}, {[][2]int{{1, 500}, {100, maxCents}}, 0},
	{[][2]int{{0, 300}, {200, 500}, {400, 700}, {600, maxCents}}, -1}, {[][2]int{{0, 300}, {200, 500}, {400, 700}, {702, maxCents}}, 701}, {[][2]int{{0, 300}, {200, 500}, {400, 700}, {700, 800}}, 801},
	// Rows that lie within others.
	{[][2]int{{0, maxCents}, {100, 200}}, -1}, {[][2]int{{0, 500}, {100, 200}, {501, maxCents}}, -1}, {[][2]int{{0, 500}, {100, 200}, {502, maxCents}}, 501}, {[][2]int{{0, 500}, {100, 200}, {201, 300}, {301, 400}}, 501},
	{[][2]int{{0, 500}, {100, 400}, {200, 300}, {250, 250}, {501, maxCents}}, -1}, {[][2]int{{0, 500}, {100, 400}, {200, 300}, {250, 250}}, 501},
	{[][2]int{{100, maxCents}, {200, 300}, {0, 98}}, 99}, {[][2]int{{100, maxCents}, {200, 300}, {0, 99}, {0, 0}}, -1}, {[][2]int{{10, 500}, {100, 200}}, 0},
	// Rows that begin, or end, with the same amount, and equal rows.
	{[][2]int{{0, 10}, {0, 20}, {0, 5}, {21, maxCents}}, -1}, {[][2]int{{0, 10}, {0, 20}, {0, 5}, {22, maxCents}}, 21}, {[][2]int{{0, 10}, {11, 20}, {11, 30}, {31, maxCents}}, -1}, {[][2]int{{0, 10}, {11, 20}, {11, 30}, {32, maxCents}}, 31},
	{[][2]int{{0, maxCents}, {5, maxCents}, {maxCents, maxCents}}, -1}, {[][2]int{{0, 7}, {5, 7}, {7, 7}}, 8}, {[][2]int{{0, 7}, {0, 7}, {0, 7}}, 8}, {[][2]int{{5, 7}, {5, 7}, {5, 7}}, 0},
	// Two gaps: the first one counts.
	{[][2]int{{0, 10}, {12, 20}, {22, maxCents}}, 11}, {[][2]int{{1, 10}, {12, maxCents}}, 0}, {[][2]int{{0, 10}, {12, maxCents - 1}}, 11}, {[][2]int{{1, maxCents - 1}}, 0}, {[][2]int{{0, 10}, {5, 30}, {33, 40}, {50, 60}}, 31},
	// Amounts that do not fit into 32 bits.
	{[][2]int{{0, 1 << 32}, {1<<32 + 1, maxCents}}, -1}, {[][2]int{{0, 1 << 32}, {1<<32 + 2, maxCents}}, 1<<32 + 1}, {[][2]int{{0, 1<<32 - 1}, {1 << 32, maxCents}}, -1}, {[][2]int{{0, 1<<32 - 1}, {1<<32 + 1, maxCents}}, 1 << 32},
	{[][2]int{{0, 1<<31 - 1}, {1<<31 + 1, maxCents}}, 1 << 31}, {[][2]int{{0, 5}, {1<<32 + 1, 1<<32 + 9}, {6, 1 << 32}, {10, maxCents}}, -1}, {[][2]int{{0, 5}, {1<<32 + 1, maxCents}}, 6},
}

// Rows in each order, of all cells, of one cell, and of any cells beside rows that match all of the other ones.
func TestSpansInEachOrder(t *testing.T) {
	r := rand.New(rand.NewSource(198))
	for _, x := range spans {
		var all []api.Row
		for _, span := range x.rows {
			all = append(all, everywhere(span[0], span[1]))
		}
		orders(all, func(l []api.Row) {
			want := at(0, x.gap)
			if x.gap < 0 {
				want = rule.Facts{}
			}
			gaps(t, l, want, x.gap >= 0)
			compare(t, l)
			inSomeCells(t, r, l, x.gap)
		})
	}
}

// inSomeCells puts rows into drawn grades alone, and other ones around them.
func inSomeCells(t *testing.T, r *rand.Rand, l []api.Row, gap int) {
	t.Helper()
	grades, warranty := 1+r.Intn(15), 1+r.Intn(3)
	var table []api.Row
	if grades < 15 {
		table = append(table, api.Row{Grades: 15 - grades, Warranty: 3, Lo: 0, Hi: maxCents, Way: api.Vendor})
	}
	for _, row := range l {
		row.Grades, row.Warranty = grades, warranty
		table = append(table, row)
	}
	if warranty < 3 {
		table = append(table, api.Row{Grades: 15, Warranty: 3 - warranty, Lo: 0, Hi: maxCents, Way: api.Vendor})
	}
	want := rule.Facts{}
	if gap >= 0 {
		want = rule.Facts{Grade: gradesOf[grades][0], Warranty: warrantyOf[warranty][0], Amount: gap}
	}
	gaps(t, table, want, gap >= 0)
	compare(t, table)
}

// The way of a row does not matter to what is matched.
func TestTheWaysDoNotMatter(t *testing.T) {
	r := rand.New(rand.NewSource(199))
	for range 500 {
		l := drawnTable(r)
		f, open := total.Gap(l)
		dead := total.Dead(l)
		counts, e := total.Cells(l)
		for i := range l {
			l[i].Way = drawn(r, ways)
		}
		gaps(t, l, f, open)
		dies(t, l, dead...)
		counted(t, l, counts, e)
	}
}

// Whether there is a gap does not depend on the order of the rows, and neither do the counts.
func TestTheOrderDoesNotMatterToGapsAndCounts(t *testing.T) {
	r := rand.New(rand.NewSource(200))
	for range 500 {
		l := drawnTable(r)
		f, open := total.Gap(l)
		counts, e := total.Cells(l)
		someOrders(r, l, func(l []api.Row) {
			gaps(t, l, f, open)
			counted(t, l, counts, e)
		})
	}
}

// P19.2: Dead and Cells.

func TestEqualRows(t *testing.T) {
	r := rand.New(rand.NewSource(201))
	for n := 1; n <= most; n++ {
		for _, row := range []api.Row{everywhere(0, maxCents), everywhere(5, 5), within(r.Intn(8), 7, 90), drawnRow(r), drawnRow(r)} {
			l := slices.Repeat([]api.Row{row}, n)
			var want []int
			for i := 1; i < n; i++ {
				want = append(want, i)
			}
			dies(t, l, want...)
			// Only what they match counts, and not whereto.
			for i := range l {
				l[i].Way = ways[i%5]
			}
			dies(t, l, want...)
		}
	}
}

// row returns a row by its four numbers.
func row(grades, warranty, lo, hi int) api.Row {
	return api.Row{Grades: grades, Warranty: warranty, Lo: lo, Hi: hi, Way: api.Liquidate}
}

func TestSomeDeadRows(t *testing.T) {
	for _, x := range []struct {
		name string
		l    []api.Row
		want []int
	}{
		{"one row", []api.Row{row(15, 3, 0, maxCents)}, nil},
		{"one row of one amount", []api.Row{row(1, 1, 0, 0)}, nil},
		{"one earlier row covers more amounts", []api.Row{row(6, 2, 0, 100), row(6, 2, 1, 99)}, []int{1}},
		{"one earlier row begins with the same amount", []api.Row{row(6, 2, 5, 100), row(6, 2, 5, 99)}, []int{1}},
		{"one earlier row ends with the same amount", []api.Row{row(6, 2, 5, 100), row(6, 2, 6, 100)}, []int{1}},
		{"one earlier row covers more grades", []api.Row{row(7, 2, 5, 100), row(6, 2, 5, 100)}, []int{1}},
		{"one earlier row covers more of warranty", []api.Row{row(6, 3, 5, 100), row(6, 2, 5, 100)}, []int{1}},
		{"one earlier row covers more of all", []api.Row{row(15, 3, 0, maxCents), row(1, 1, 0, 0), row(8, 2, maxCents, maxCents)}, []int{1, 2}},
		{"an earlier row that is not the one before it", []api.Row{row(15, 3, 0, 100), row(15, 3, 200, 300), row(15, 3, 50, 60)}, []int{2}},
		{"one amount below is not covered", []api.Row{row(15, 3, 6, 100), row(15, 3, 5, 100)}, nil},
		{"one amount above is not covered", []api.Row{row(15, 3, 5, 99), row(15, 3, 5, 100)}, nil},
		{"one amount within is not covered", []api.Row{row(15, 3, 5, 49), row(15, 3, 51, 100), row(15, 3, 5, 100)}, nil},
		{"only amounts below are covered", []api.Row{row(15, 3, 0, 50), row(15, 3, 5, 100)}, nil},
		{"only amounts above are covered", []api.Row{row(15, 3, 50, 200), row(15, 3, 5, 100)}, nil},
		{"only amounts within are covered", []api.Row{row(15, 3, 50, 60), row(15, 3, 5, 100)}, nil},
		{"none of the amounts is covered", []api.Row{row(15, 3, 0, 4), row(15, 3, 101, 200), row(15, 3, 5, 100)}, nil},
		{"amounts are covered together, touching", []api.Row{row(15, 3, 5, 49), row(15, 3, 50, 100), row(15, 3, 5, 100)}, []int{2}},
		{"amounts are covered together, touching, from above", []api.Row{row(15, 3, 50, 100), row(15, 3, 5, 49), row(15, 3, 5, 100)}, []int{2}},
		{"amounts are covered together, overlapping", []api.Row{row(15, 3, 0, 70), row(15, 3, 30, 200), row(15, 3, 5, 100)}, []int{2}},
		{"amounts are covered together by four", []api.Row{row(15, 3, 80, 100), row(15, 3, 5, 20), row(15, 3, 50, 79), row(15, 3, 21, 49), row(15, 3, 5, 100)}, []int{4}},
		{"amounts are covered together by all but one of four", []api.Row{row(15, 3, 80, 100), row(15, 3, 5, 20), row(15, 3, 50, 79), row(15, 3, 5, 100), row(15, 3, 21, 49)}, []int{4}},
		{"grades are covered together", []api.Row{row(1, 3, 0, 100), row(2, 3, 5, 200), row(3, 3, 5, 100)}, []int{2}},
		{"grades are covered in part", []api.Row{row(1, 3, 0, 100), row(2, 3, 5, 200), row(7, 3, 5, 100)}, nil},
		{"one of the grades is covered", []api.Row{row(8, 3, 0, maxCents), row(12, 3, 5, 100)}, nil},
		{"other grades are covered", []api.Row{row(5, 3, 0, maxCents), row(10, 3, 5, 100)}, nil},
		{"warranty is covered together", []api.Row{row(15, 1, 0, 100), row(15, 2, 5, 200), row(15, 3, 5, 100)}, []int{2}},
		{"only without warranty is covered", []api.Row{row(15, 1, 0, 100), row(15, 3, 5, 100)}, nil},
		{"only under warranty is covered", []api.Row{row(15, 2, 0, 100), row(15, 3, 5, 100)}, nil},
		{"the other one of warranty is covered", []api.Row{row(15, 2, 0, 100), row(15, 1, 5, 100)}, nil},
		{"cells and amounts are covered together", []api.Row{row(3, 3, 0, 49), row(1, 3, 50, 100), row(2, 1, 40, 100), row(6, 2, 50, 120), row(3, 3, 5, 100)}, []int{4}},
		{"cells and amounts are covered but for one amount in one cell", []api.Row{row(3, 3, 0, 49), row(1, 3, 50, 100), row(2, 1, 40, 99), row(6, 2, 50, 120), row(3, 3, 5, 100)}, nil},
		{"the amounts of two cells cover together, but neither cell", []api.Row{row(1, 3, 0, 49), row(2, 3, 50, 100), row(3, 3, 5, 100)}, nil},
		{"a later row covers", []api.Row{row(6, 2, 5, 100), row(15, 3, 0, maxCents)}, nil},
		{"later rows cover together", []api.Row{row(6, 2, 5, 100), row(15, 3, 0, 50), row(15, 3, 51, maxCents)}, nil},
		{"an earlier and a later row cover together", []api.Row{row(15, 3, 0, 50), row(6, 2, 5, 100), row(15, 3, 51, maxCents)}, nil},
		{"one amount, covered", []api.Row{row(15, 3, 5, 5), row(1, 1, 5, 5), row(15, 3, 5, 5)}, []int{1, 2}},
		{"one amount, covered by more", []api.Row{row(15, 3, 0, 5), row(15, 3, 5, 5)}, []int{1}},
		{"one amount, covered by more from it on", []api.Row{row(15, 3, 5, 9), row(15, 3, 5, 5)}, []int{1}},
		{"one amount, beside others", []api.Row{row(15, 3, 0, 4), row(15, 3, 6, 9), row(15, 3, 5, 5)}, nil},
		{"the amount 0", []api.Row{row(15, 3, 1, maxCents), row(15, 3, 0, 0), row(1, 3, 0, 0)}, []int{2}},
		{"the greatest amount", []api.Row{row(15, 3, 0, maxCents-1), row(15, 3, maxCents, maxCents), row(1, 3, maxCents, maxCents)}, []int{2}},
		{"all amounts, together", []api.Row{row(15, 3, 0, 0), row(15, 3, maxCents, maxCents), row(15, 3, 1, maxCents-1), row(15, 3, 0, maxCents)}, []int{3}},
		{"all amounts, but for the last one", []api.Row{row(15, 3, 0, 0), row(15, 3, 1, maxCents-1), row(15, 3, 0, maxCents)}, nil},
		{"a dead row covers no more than those that cover it", []api.Row{row(15, 3, 0, 50), row(15, 3, 10, 20), row(15, 3, 10, 20), row(15, 3, 20, 60)}, []int{1, 2}},
		{"amounts of more than 32 bits", []api.Row{row(15, 3, 0, 1<<32), row(15, 3, 1<<32+2, maxCents), row(15, 3, 1<<32, 1<<32+2), row(15, 3, 1<<32+1, 1<<32+1), row(15, 3, 1, 1)}, []int{3, 4}},
		{"amounts with the same last bits", []api.Row{row(15, 3, 0, 9), row(15, 3, 1<<32, 1<<32+9)}, nil},
	} {
		if dead := total.Dead(x.l); !slices.Equal(dead, x.want) {
			t.Errorf("%s: Dead(%v) = %v, want %v", x.name, x.l, dead, x.want)
		}
		compare(t, x.l)
	}
}

// A row of each set of cells behind rows that match all of its facts in each other set.
func TestDeadRowsInEachSetOfCells(t *testing.T) {
	for grades := 1; grades <= 15; grades++ {
		for warranty := 1; warranty <= 3; warranty++ {
			for g := 1; g <= 15; g++ {
				for w := 1; w <= 3; w++ {
					l := []api.Row{row(g, w, 10, 20), row(grades, warranty, 12, 20)}
					if grades&^g == 0 && warranty&^w == 0 {
						dies(t, l, 1)
					} else {
						dies(t, l)
					}
				}
			}
		}
	}
}

// In one cell, and in all of them, parts of a row are covered one after the other: with the last one, the row is dead.
func TestARowIsDeadWhenItsLastPartIsCovered(t *testing.T) {
	r := rand.New(rand.NewSource(202))
	for range 300 {
		parts := drawnParts(r, 2+r.Intn(most-2))
		for _, of := range []api.Row{everywhere(0, maxCents), drawnRow(r)} {
			for n := range len(parts) + 1 {
				l := append(slices.Clone(parts[:n]), of)
				covered := !slices.ContainsFunc(parts[n:], func(part api.Row) bool {
					return part.Grades&of.Grades != 0 && part.Warranty&of.Warranty != 0 && part.Lo <= of.Hi && of.Lo <= part.Hi
				})
				if covered {
					dies(t, l, n)
				} else {
					dies(t, l)
				}
			}
		}
	}
}

func TestTwentyRows(t *testing.T) {
	r := rand.New(rand.NewSource(203))
	for range 200 {
		// No part of all is covered by the other ones.
		none := drawnParts(r, most)
		dies(t, none)
		compare(t, none)
		// The first row covers all of the others.
		all := append([]api.Row{everywhere(0, maxCents)}, drawnRows(r, most-1)...)
		dies(t, all, 1, 2, 3, 4, 5, 6, 7, 8, 9, 10, 11, 12, 13, 14, 15, 16, 17, 18, 19)
	}
	for place := 1; place < most; place++ {
		// One row is dead: a part of what the rows before it match.
		l := slices.Insert(drawnParts(r, most-1), place, api.Row{})
		l[place] = l[r.Intn(place)]
		l[place].Lo = l[place].Hi
		dies(t, l, place)
		compare(t, l)
	}
}

// Rows among twenty ones that repeat a part of an earlier one.
func TestSeveralOfTwentyRowsAreDead(t *testing.T) {
	r := rand.New(rand.NewSource(204))
	for range 500 {
		living := drawnParts(r, most)
		l := []api.Row{living[0]}
		var want []int
		for len(l) < most {
			if r.Intn(3) > 0 {
				l = append(l, living[len(l)])
				continue
			}
			repeated := l[r.Intn(len(l))]
			repeated.Lo += r.Intn(min(repeated.Hi-repeated.Lo, 5) + 1)
			want = append(want, len(l))
			l = append(l, repeated)
		}
		dies(t, l, want...)
		compare(t, l)
	}
}

func TestCellsOfOneRow(t *testing.T) {
	for grades := 1; grades <= 15; grades++ {
		for warranty := 1; warranty <= 3; warranty++ {
			var want [8]int
			for _, grade := range gradesOf[grades] {
				for _, under := range warrantyOf[warranty] {
					want[slices.Index(eight[:], rule.Facts{Grade: grade, Warranty: under})] = 1
				}
			}
			for _, hole := range holes {
				l := []api.Row{row(grades, warranty, hole[0], hole[1])}
				counted(t, l, want, api.OK)
				compare(t, l)
			}
		}
	}
}

func TestSomeCells(t *testing.T) {
	for _, x := range []struct {
		l    []api.Row
		want [8]int
	}{
		{[]api.Row{row(15, 3, 0, maxCents)}, [8]int{1, 1, 1, 1, 1, 1, 1, 1}},
		{[]api.Row{row(1, 1, 0, 99), row(1, 2, 5, 5), row(1, 2, 5, 5)}, [8]int{1, 2, 0, 0, 0, 0, 0, 0}},
		{[]api.Row{row(9, 2, 0, 99), row(6, 1, 0, maxCents), row(12, 3, 7, 7)}, [8]int{0, 1, 1, 0, 2, 1, 1, 2}},
		{[]api.Row{row(15, 1, 3, 4), row(15, 1, 3, 4), row(15, 1, 9, maxCents)}, [8]int{3, 0, 3, 0, 3, 0, 3, 0}},
		{[]api.Row{row(15, 2, 3, 4), row(8, 1, maxCents, maxCents)}, [8]int{0, 1, 0, 1, 0, 1, 1, 1}},
		{slices.Repeat([]api.Row{row(15, 3, 0, 0)}, 20), [8]int{20, 20, 20, 20, 20, 20, 20, 20}},
		{slices.Repeat([]api.Row{row(4, 2, 0, 0)}, 20), [8]int{0, 0, 0, 0, 0, 20, 0, 0}},
		// A dead row matches all the same.
		{[]api.Row{row(15, 3, 0, maxCents), row(3, 1, 5, 5)}, [8]int{2, 1, 2, 1, 1, 1, 1, 1}},
		{[]api.Row{within(0, 0, 0), within(1, 0, 0), within(2, 0, 0), within(3, 0, 0), within(4, 0, 0), within(5, 0, 0), within(6, 0, 0), within(7, 0, 0)}, [8]int{1, 1, 1, 1, 1, 1, 1, 1}},
	} {
		counted(t, x.l, x.want, api.OK)
		compare(t, x.l)
	}
}

// In each cell none, one, some and all of up to twenty rows: the other ones match in all cells of other grades.
func TestCountsInEachCell(t *testing.T) {
	r := rand.New(rand.NewSource(205))
	for n := 1; n <= most; n++ {
		for here := range n + 1 {
			for cell := range 8 {
				l := make([]api.Row, n)
				for i := range l {
					l[i] = row(15-bits[cell][0], 3, i, drawn(r, []int{i, i + 1, maxCents}))
					if i < here {
						l[i] = within(cell, i, drawn(r, []int{i, i + 1, maxCents}))
					}
				}
				var want [8]int
				for c := range 8 {
					if eight[c].Grade != eight[cell].Grade {
						want[c] = n - here
					}
				}
				want[cell] = here
				r.Shuffle(n, func(i, j int) { l[i], l[j] = l[j], l[i] })
				counted(t, l, want, api.OK)
			}
		}
	}
}

// Some rows of small amounts, all amounts of which are gone through one by one.
func TestSmallTablesAmountByAmount(t *testing.T) {
	some := []api.Row{row(15, 3, 0, 1), row(15, 3, 1, 2), row(15, 3, 2, maxCents), row(15, 3, 0, maxCents), row(5, 3, 0, 2), row(10, 3, 0, maxCents), row(15, 1, 3, maxCents), row(15, 2, 3, 3), row(15, 2, 4, maxCents), row(1, 1, 1, 1), row(15, 3, 1, maxCents)}
	tables := [][]api.Row{nil}
	for range 3 {
		for _, l := range tables {
			for _, one := range some {
				tables = append(tables, append(slices.Clone(l), one))
			}
		}
	}
	for _, l := range tables[1:] {
		compare(t, l)
		wantGap, open := rule.Facts{}, false
		lives := make([]bool, len(l))
		for cell := range 8 {
			// From 5 on, each row matches all amounts or none.
			for amount := range 6 {
				first := slices.IndexFunc(l, func(r api.Row) bool { return matches(r, at(cell, amount)) })
				if first >= 0 {
					lives[first] = true
				} else if !open {
					wantGap, open = at(cell, amount), true
				}
			}
		}
		gaps(t, l, wantGap, open)
		dead := total.Dead(l)
		for i := range l {
			if slices.Contains(dead, i) == lives[i] {
				t.Errorf("Dead(%v) = %v", l, dead)
			}
		}
	}
}

func TestDrawnTables(t *testing.T) {
	r := rand.New(rand.NewSource(206))
	for range 6000 {
		compare(t, drawnTable(r))
	}
}

// P19.3: Check.

var (
	goodAsks = [][]int{{5, 3, 1}, {0}, {1000}, {0, 0, 0, 0, 0, 0, 0, 0}, {1000, 1000, 1000, 1000, 1000, 1000, 1000, 1000}, {5, 3, 1, 1000}}
	goodCuts = [][]int{{0, 5, 20}, {0, 0, 0}, {8000, 8000, 8000}, {0, 8000, 8000}, {0, 0, 8000}, {4, 4, 9}}
	goodFees = [][]int{{0, 500, 500, 10000}, {0, 0, 0, 0}, {10000, 10000, 10000, 10000}, {0, 0, 0, 10000}, {1, 2, 3, 4}}
	goodRows = [][]api.Row{{everywhere(0, maxCents)}, {everywhere(0, 99), everywhere(100, maxCents)}, slices.Repeat([]api.Row{everywhere(0, maxCents)}, 20), {row(15, 1, 0, maxCents), row(15, 2, 0, maxCents), row(1, 1, 7, 7)}}
)

var (
	badAsks = [][]int{
		nil, {}, {-1}, {1001}, {5, -1, 1}, {5, 3, 1001}, {-1, 3, 1}, {math.MinInt}, {math.MaxInt}, {1<<32 + 5},
		{1, 2, 3, 4, 5, 6, 7, 8, 9}, make([]int, 9), make([]int, 16), make([]int, 256), make([]int, 257),
	}
	badCuts = [][]int{
		nil, {}, {0}, {0, 5}, {0, 5, 20, 30}, {0, 0, 0, 0}, {5, 0, 20}, {0, 20, 5}, {20, 5, 0}, {-1, 5, 20}, {-3, -2, -1}, {0, 5, 8001}, {8001, 8001, 8001}, {math.MinInt, 0, 5}, {0, 5, math.MaxInt},
		{1, 0, 0}, {0, 1, 0}, {0, 8001, 20}, {1 << 32, 1 << 32, 1 << 32}, make([]int, 259),
	}
	badFees = [][]int{
		nil, {}, {0}, {0, 500, 500}, {0, 500, 500, 10000, 10000}, {500, 0, 500, 10000}, {0, 500, 10000, 500}, {0, 500, 499, 10000}, {-1, 500, 500, 10000}, {0, 500, 500, 10001}, {10001, 10001, 10001, 10001}, {-4, -3, -2, -1},
		{math.MinInt, 0, 0, 0}, {0, 0, 0, math.MaxInt}, {0, 0, 1 << 32, 1 << 32}, make([]int, 3), make([]int, 5), make([]int, 260),
	}
	badRows = [][]api.Row{
		nil, {}, {{}}, {everywhere(0, maxCents+1)}, {everywhere(-1, maxCents)}, {row(16, 3, 0, maxCents)}, {row(15, 4, 0, maxCents)}, {row(0, 3, 0, maxCents)}, {row(15, 0, 0, maxCents)}, {everywhere(1, 0), everywhere(0, maxCents)},
		{{Grades: 15, Warranty: 3, Lo: 0, Hi: maxCents}}, {{Grades: 15, Warranty: 3, Lo: 0, Hi: maxCents, Way: 6}}, {everywhere(0, maxCents), {}}, slices.Repeat([]api.Row{everywhere(0, maxCents)}, 21),
		// Tables that are valid and not complete.
		{everywhere(0, 99)}, {everywhere(1, maxCents)}, {everywhere(0, maxCents-1)}, {everywhere(0, 99), everywhere(101, maxCents)}, {row(7, 3, 0, maxCents)}, {row(14, 3, 0, maxCents)}, {row(15, 1, 0, maxCents)}, {row(15, 2, 0, maxCents)}, {row(7, 3, 0, maxCents), row(8, 1, 0, maxCents)},
	}
)

func TestCheckOfValidRules(t *testing.T) {
	for _, asks := range goodAsks {
		for _, cuts := range goodCuts {
			for _, fees := range goodFees {
				for _, rows := range goodRows {
					r := api.Rules{Asks: asks, Cuts: cuts, Fees: fees, Rows: rows}
					checked(t, r, api.OK)
					compareCheck(t, r)
				}
			}
		}
	}
}

// Each of the four wrong alone, and each set of them wrong together, in each way of each.
func TestCheckOfWrongRules(t *testing.T) {
	checked(t, api.Rules{}, api.ErrRules)
	r := rand.New(rand.NewSource(207))
	pick := func(lists [][]int) []int { return lists[r.Intn(len(lists))] }
	pickRows := func(lists [][]api.Row) []api.Row { return lists[r.Intn(len(lists))] }
	good := func() api.Rules {
		return api.Rules{Asks: pick(goodAsks), Cuts: pick(goodCuts), Fees: pick(goodFees), Rows: pickRows(goodRows)}
	}
	for range 20 {
		for _, asks := range badAsks {
			x := good()
			x.Asks = asks
			checked(t, x, api.ErrRules)
		}
		for _, cuts := range badCuts {
			x := good()
			x.Cuts = cuts
			checked(t, x, api.ErrRules)
		}
		for _, fees := range badFees {
			x := good()
			x.Fees = fees
			checked(t, x, api.ErrRules)
		}
		for _, rows := range badRows {
			x := good()
			x.Rows = rows
			checked(t, x, api.ErrRules)
		}
	}
	for set := 1; set < 16; set++ {
		for range 200 {
			x := good()
			if set&1 != 0 {
				x.Asks = pick(badAsks)
			}
			if set&2 != 0 {
				x.Cuts = pick(badCuts)
			}
			if set&4 != 0 {
				x.Fees = pick(badFees)
			}
			if set&8 != 0 {
				x.Rows = pickRows(badRows)
			}
			checked(t, x, api.ErrRules)
			compareCheck(t, x)
		}
	}
}

// The lists of one kind in the place of another one: what is valid as one need not be so as another.
func TestCheckOfListsInOtherPlaces(t *testing.T) {
	lists := slices.Concat(goodAsks, goodCuts, goodFees)
	for _, asks := range lists {
		for _, cuts := range lists {
			for _, fees := range lists {
				compareCheck(t, api.Rules{Asks: asks, Cuts: cuts, Fees: fees, Rows: goodRows[0]})
			}
		}
	}
}

func TestCheckWithEachNumberAtItsEnds(t *testing.T) {
	for _, n := range []int{math.MinInt, -1, 0, 1, 999, 1000, 1001, 7999, 8000, 8001, 9999, 10000, 10001, math.MaxInt} {
		for _, place := range []int{0, 1, 2, 3} {
			x := rulesOf(goodRows[0])
			if place < 3 {
				x.Asks[place] = n
				compareCheck(t, x)
				x = rulesOf(goodRows[0])
				x.Cuts[place] = n
				compareCheck(t, x)
			}
			x = rulesOf(goodRows[0])
			x.Fees[place] = n
			compareCheck(t, x)
		}
	}
}

// P19.4: there is no decision for the facts that Gap returns, and if it returns none, there is one for all valid facts.

// near returns the amounts at which rows begin or end, those one below and one above them, and the least and the greatest one.
func near(l []api.Row) []int {
	all := []int{0, maxCents}
	for _, r := range l {
		all = append(all, r.Lo-1, r.Lo, r.Lo+1, r.Hi-1, r.Hi, r.Hi+1)
	}
	slices.Sort(all)
	all = slices.Compact(all)
	return slices.DeleteFunc(all, func(n int) bool { return n < 0 || n > maxCents })
}

func TestGapReturnsFactsWithoutADecision(t *testing.T) {
	r := rand.New(rand.NewSource(208))
	open, whole := 0, 0
	for range 1500 {
		l := drawnTable(r)
		f, gap := total.Gap(l)
		if !gap {
			whole++
			decided(t, l, 8, 0)
			for range 20 {
				if _, _, e := rule.Decide(l, at(r.Intn(8), r.Intn(maxCents+1))); e != api.OK {
					t.Errorf("Gap(%v) returns none", l)
				}
			}
			continue
		}
		open++
		if e := rule.CheckFacts(f); e != api.OK {
			t.Errorf("Gap(%v) = %v", l, f)
		}
		if way, i, e := rule.Decide(l, f); way != 0 || i != 0 || e != api.ErrRules {
			t.Errorf("Gap(%v) = %v, and the decision is %d, %d, %d", l, f, way, i, int(e))
		}
		if fits := rule.Fits(l, f); len(fits) > 0 {
			t.Errorf("Gap(%v) = %v, which the rows %v match", l, f, fits)
		}
		cell := slices.Index(eight[:], rule.Facts{Grade: f.Grade, Warranty: f.Warranty})
		decided(t, l, cell, f.Amount)
	}
	if open < 100 || whole < 100 {
		t.Errorf("%d tables had a gap, and %d had none", open, whole)
	}
}

// decided checks that there is a decision for all facts before those of a cell and an amount.
func decided(t *testing.T, l []api.Row, cell, amount int) {
	t.Helper()
	for c := range min(cell+1, 8) {
		for _, n := range near(l) {
			if c == cell && n >= amount {
				break
			}
			if _, _, e := rule.Decide(l, at(c, n)); e != api.OK {
				t.Errorf("there is no decision by %v for %v", l, at(c, n))
			}
		}
	}
}

// P19.5: a dead row never decides, and any other one does; without the dead rows each decision stays the same.

func TestDeadRowsNeverDecide(t *testing.T) {
	r := rand.New(rand.NewSource(209))
	some, none := 0, 0
	for range 1500 {
		l := drawnTable(r)
		dead := total.Dead(l)
		if len(dead) > 0 {
			some++
		} else {
			none++
		}
		// The living rows keep their order.
		var living []api.Row
		var places []int
		for i, row := range l {
			if !slices.Contains(dead, i) {
				living = append(living, row)
				places = append(places, i)
			}
		}
		decides := make([]bool, len(l))
		for cell := range 8 {
			for _, n := range near(l) {
				f := at(cell, n)
				way, i, e := rule.Decide(l, f)
				w, j, code := rule.Decide(living, f)
				if way != w || e != code {
					t.Errorf("for %v the decision of %v is %d, %d, and without the rows %v %d, %d", f, l, way, int(e), dead, w, int(code))
				}
				if e != api.OK {
					continue
				}
				if i != places[j] {
					t.Errorf("for %v the row %d of %v decides, and without the rows %v the one that was %d", f, i, l, dead, places[j])
				}
				decides[i] = true
			}
		}
		for i := range l {
			if decides[i] == slices.Contains(dead, i) {
				t.Errorf("Dead(%v) = %v, and it is %v that the row %d decides", l, dead, decides[i], i)
			}
		}
		dies(t, living)
	}
	if some < 100 || none < 100 {
		t.Errorf("%d tables had dead rows, and %d had none", some, none)
	}
}

// The dead rows can also be taken away one by one: those that are left stay dead, and no other one becomes so.
func TestDeadRowsAreTakenAwayOneByOne(t *testing.T) {
	r := rand.New(rand.NewSource(210))
	for range 1000 {
		l := drawnTable(r)
		f, open := total.Gap(l)
		dead := total.Dead(l)
		for len(dead) > 0 {
			i := r.Intn(len(dead))
			gone := dead[i]
			l = slices.Delete(slices.Clone(l), gone, gone+1)
			dead = slices.Delete(slices.Clone(dead), i, i+1)
			for k := range dead {
				if dead[k] > gone {
					dead[k]--
				}
			}
			dies(t, l, dead...)
			gaps(t, l, f, open)
		}
	}
}

// Which rows are dead does not depend on those after them.
func TestLaterRowsDoNotMatterToDeadOnes(t *testing.T) {
	r := rand.New(rand.NewSource(211))
	for range 500 {
		l := drawnTable(r)
		dead := total.Dead(l)
		for n := 1; n <= len(l); n++ {
			dies(t, l[:n], slices.DeleteFunc(slices.Clone(dead), func(i int) bool { return i >= n })...)
		}
	}
}

// Rule 4: arguments are not modified, nor is the memory beyond their length, and results are newly allocated.

func TestRowsAndWhatIsBehindThemStay(t *testing.T) {
	r := rand.New(rand.NewSource(212))
	for range 100 {
		memory := drawnRows(r, most+5)
		if r.Intn(3) == 0 {
			memory[r.Intn(len(memory))] = api.Row{}
		}
		before := slices.Clone(memory)
		for n := range len(memory) + 1 {
			compare(t, memory[:n])
			if !slices.Equal(memory, before) {
				t.Fatalf("after calls with %d rows %v has become %v", n, before, memory)
			}
		}
	}
}

func TestRulesAndWhatIsBehindThemStay(t *testing.T) {
	r := rand.New(rand.NewSource(213))
	// roomy puts something behind a list's length.
	roomy := func(l []int) []int { return append(slices.Clone(l), 5, 6, 7)[:len(l)] }
	whole := func(l []int) []int { return slices.Clone(l[:cap(l)]) }
	for _, lists := range [][3][][]int{{goodAsks, goodCuts, goodFees}, {badAsks, badCuts, badFees}} {
		for range 300 {
			x := api.Rules{Asks: roomy(lists[0][r.Intn(len(lists[0]))]), Cuts: roomy(lists[1][r.Intn(len(lists[1]))]), Fees: roomy(lists[2][r.Intn(len(lists[2]))])}
			memory := drawnParts(r, most)
			x.Rows = memory[:1+r.Intn(most)]
			asks, cuts, fees, rows := whole(x.Asks), whole(x.Cuts), whole(x.Fees), slices.Clone(memory)
			compareCheck(t, x)
			if !slices.Equal(whole(x.Asks), asks) || !slices.Equal(whole(x.Cuts), cuts) || !slices.Equal(whole(x.Fees), fees) || !slices.Equal(memory, rows) {
				t.Fatalf("%v, %v, %v and %v have become %v and %v", asks, cuts, fees, rows, x, memory)
			}
		}
	}
}

// What lies behind a list's length counts as little as if it were not there.
func TestListsEndAtTheirLength(t *testing.T) {
	memory := []api.Row{everywhere(0, 99), everywhere(100, maxCents), everywhere(5, 6), {}}
	refused(t, memory[:0])
	gaps(t, memory[:1], rule.Facts{Amount: 100}, true)
	dies(t, memory[:1])
	counted(t, memory[:1], [8]int{1, 1, 1, 1, 1, 1, 1, 1}, api.OK)
	gaps(t, memory[:2], rule.Facts{}, false)
	dies(t, memory[:3], 2)
	counted(t, memory[:3], [8]int{3, 3, 3, 3, 3, 3, 3, 3}, api.OK)
	refused(t, memory)
	gaps(t, memory[1:2], rule.Facts{}, true)
	gaps(t, slices.Repeat([]api.Row{everywhere(0, maxCents)}, 30)[:20], rule.Facts{}, false)
}

func TestWhatDeadReturnsIsItsOwn(t *testing.T) {
	for n := 1; n <= most; n++ {
		l := slices.Repeat([]api.Row{everywhere(0, maxCents)}, n)
		want := deadOf(l)
		first, second := total.Dead(l), total.Dead(l)
		first = first[:cap(first)]
		for i := range first {
			first[i] = 77
		}
		if !slices.Equal(second, want) {
			t.Errorf("Dead of %d rows has become %v", n, second)
		}
		compare(t, l)
	}
}

// What is returned for rows stays when the rows are changed.
func TestRowsAreNotRetained(t *testing.T) {
	l := []api.Row{everywhere(0, 99), everywhere(5, 6), everywhere(101, maxCents), everywhere(200, 300)}
	dead := total.Dead(l)
	counts, _ := total.Cells(l)
	clear(l)
	if !slices.Equal(dead, []int{1, 3}) || counts != [8]int{4, 4, 4, 4, 4, 4, 4, 4} {
		t.Errorf("%v are dead, and there are %v rows", dead, counts)
	}
}

func TestCallsDoNotDependOnWhatWasCalledBefore(t *testing.T) {
	l := []api.Row{everywhere(0, 99), everywhere(100, maxCents), everywhere(50, 150)}
	all := func() {
		compare(t, l)
		compare(t, l[:1])
		compare(t, l[1:])
		compare(t, nil)
		compareCheck(t, api.Rules{})
		compareCheck(t, api.Rules{Rows: l})
	}
	for range 3 {
		all()
	}
	// The same memory holds other rows now.
	l[1].Lo = 101
	all()
	l[1].Way = 6
	all()
	l[1].Lo, l[1].Way = 100, api.Vendor
	all()
}
