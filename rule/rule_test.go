package rule_test

import (
	"fmt"
	"math"
	"math/rand"
	"slices"
	"testing"

	"backhaul/api"
	"backhaul/rule"
)

const (
	most     = 20
	maxCents = 1000000000000
)

// noSmall are numbers beyond each of the small limits: around them, with the same last bits as numbers within them, and around what 8, 16, 32 and 64 bits hold.
var noSmall = []int{
	math.MinInt, math.MinInt + 1, math.MinInt + 3, -1 << 62, 1 - 1<<32, -1 << 32, math.MinInt32, 3 - 1<<16, -1 << 16, 3 - 1<<8, -256, -255, -128, -16, -15, -13, -8, -5, -4, -3, -2, -1,
	16, 17, 18, 19, 20, 31, 32, 33, 35, 47, 48, 64, 127, 128, 255, 256, 257, 259, 1000, 1 << 16, 1<<16 + 3, math.MaxInt32, 1 << 32, 1<<32 + 1, 1<<32 + 3, 1 << 62, math.MaxInt - 1, math.MaxInt,
}

var (
	noGrades     = append([]int{0}, noSmall...)
	noWarranties = append([]int{0, 4, 5, 6, 7, 8, 9, 10, 11, 15}, noSmall...)
	noWays       = append([]int{0, 6, 7, 8, 9, 10, 15}, noSmall...)
	noGrade      = append([]int{4, 5, 6, 7, 8, 9, 10, 11, 15, 63, 65}, noSmall...)
)

// amounts are at the limits, and where fewer bits do not hold them.
var amounts = []int{0, 1, 2, 99, 100, 1 << 31, 1 << 32, 1<<32 + 1, 1<<32 + 100, 1 << 39, maxCents - 1, maxCents}

var noAmounts = []int{
	math.MinInt, math.MinInt + 1, math.MinInt + 100, -1 << 62, -1 << 40, -maxCents, -1 << 32, 100 - 1<<32, math.MinInt32, -100, -2, -1,
	maxCents + 1, maxCents + 2, 1 << 40, 1<<40 + 100, 2 * maxCents, 1 << 62, math.MaxInt - 1, math.MaxInt,
}

// gradesOf are the grades whose bits are 1, and warrantyOf those of under warranty or not.
var (
	gradesOf   = [16][]int{nil, {0}, {1}, {0, 1}, {2}, {0, 2}, {1, 2}, {0, 1, 2}, {3}, {0, 3}, {1, 3}, {0, 1, 3}, {2, 3}, {0, 2, 3}, {1, 2, 3}, {0, 1, 2, 3}}
	warrantyOf = [4][]bool{nil, {false}, {true}, {false, true}}
	ways       = []int{api.Restock, api.Refurb, api.Vendor, api.Liquidate, api.Scrap}
)

// isRow is the definition of a valid row.
func isRow(r api.Row) bool {
	if r.Grades < 1 || r.Grades > 15 || r.Warranty < 1 || r.Warranty > 3 || !slices.Contains(ways, r.Way) {
		return false
	}
	return isAmount(r.Lo) && isAmount(r.Hi) && slices.IsSorted([]int{r.Lo, r.Hi})
}

func isAmount(n int) bool { return n >= 0 && n <= maxCents }

// isFacts is the definition of valid facts.
func isFacts(f rule.Facts) bool {
	return slices.Contains([]int{0, 1, 2, 3}, f.Grade) && isAmount(f.Amount)
}

// matches is the definition of a row that matches facts, both of which are valid.
func matches(r api.Row, f rule.Facts) bool {
	return slices.Contains(gradesOf[r.Grades], f.Grade) && slices.Contains(warrantyOf[r.Warranty], f.Warranty) && min(max(f.Amount, r.Lo), r.Hi) == f.Amount
}

// matchOf is the definition of Match.
func matchOf(r api.Row, f rule.Facts) bool { return isRow(r) && isFacts(f) && matches(r, f) }

// checkOf is the definition of Check.
func checkOf(l []api.Row) api.Errno {
	right := 0
	for _, r := range l {
		if isRow(r) {
			right++
		}
	}
	if len(l) == 0 || len(l) > most || right < len(l) {
		return api.ErrRules
	}
	return api.OK
}

// errorOf is what Check and CheckFacts return together.
func errorOf(l []api.Row, f rule.Facts) api.Errno {
	switch {
	case checkOf(l) != api.OK:
		return api.ErrRules
	case !isFacts(f):
		return api.ErrArg
	}
	return api.OK
}

// decideOf is the definition of Decide: from the last row on, each one that matches takes the place of those after it.
func decideOf(l []api.Row, f rule.Facts) (way, at int, e api.Errno) {
	if e := errorOf(l, f); e != api.OK {
		return 0, 0, e
	}
	e = api.ErrRules
	for i := len(l) - 1; i >= 0; i-- {
		if matches(l[i], f) {
			way, at, e = l[i].Way, i, api.OK
		}
	}
	return way, at, e
}

// fitsOf is the definition of Fits.
func fitsOf(l []api.Row, f rule.Facts) []int {
	var fits []int
	for i := range l {
		if errorOf(l, f) == api.OK && matches(l[i], f) {
			fits = append(fits, i)
		}
	}
	return fits
}

// brief is a list that is shown by its first rows, and its length if it has others.
type brief []api.Row

func (l brief) String() string {
	if len(l) <= most+1 {
		return fmt.Sprint([]api.Row(l))
	}
	return fmt.Sprintf("%v and so on, %d in all", []api.Row(l[:most]), len(l))
}

// compareRow compares CheckRow with its definition.
func compareRow(t *testing.T, r api.Row) {
	t.Helper()
	want := api.ErrRules
	if isRow(r) {
		want = api.OK
	}
	if e := rule.CheckRow(r); e != want {
		t.Errorf("CheckRow(%v) = %d, want %d", r, int(e), int(want))
	}
}

// compareFacts compares CheckFacts with its definition.
func compareFacts(t *testing.T, f rule.Facts) {
	t.Helper()
	want := api.ErrArg
	if isFacts(f) {
		want = api.OK
	}
	if e := rule.CheckFacts(f); e != want {
		t.Errorf("CheckFacts(%v) = %d, want %d", f, int(e), int(want))
	}
}

// compareMatch compares Match with its definition.
func compareMatch(t *testing.T, r api.Row, f rule.Facts) {
	t.Helper()
	if got, want := rule.Match(r, f), matchOf(r, f); got != want {
		t.Errorf("Match(%v, %v) = %v, want %v", r, f, got, want)
	}
}

// compareCheck compares Check with its definition.
func compareCheck(t *testing.T, l []api.Row) {
	t.Helper()
	before := slices.Clone(l)
	if e, want := rule.Check(l), checkOf(before); e != want {
		t.Errorf("Check(%v) = %d, want %d", brief(before), int(e), int(want))
	}
	unchanged(t, l, before)
}

// compare compares Decide and Fits with their definitions.
func compare(t *testing.T, l []api.Row, f rule.Facts) {
	t.Helper()
	before := slices.Clone(l)
	way, at, e := rule.Decide(l, f)
	unchanged(t, l, before)
	fits := rule.Fits(l, f)
	unchanged(t, l, before)
	if w, a, code := decideOf(before, f); way != w || at != a || e != code {
		t.Errorf("Decide(%v, %v) = %d, %d, %d, want %d, %d, %d", brief(before), f, way, at, int(e), w, a, int(code))
	}
	if want := fitsOf(before, f); !slices.Equal(fits, want) {
		t.Errorf("Fits(%v, %v) = %v, want %v", brief(before), f, fits, want)
	}
}

func unchanged(t *testing.T, l, before []api.Row) {
	t.Helper()
	if !slices.Equal(l, before) {
		t.Fatalf("%v has been changed into %v", brief(before), brief(l))
	}
}

// refused checks that Decide returns nothing but an error, and Fits no indices.
func refused(t *testing.T, l []api.Row, f rule.Facts, want api.Errno) {
	t.Helper()
	if way, at, e := rule.Decide(l, f); way != 0 || at != 0 || e != want {
		t.Errorf("Decide(%v, %v) = %d, %d, %d, want 0, 0, %d", brief(l), f, way, at, int(e), int(want))
	}
	if fits := rule.Fits(l, f); len(fits) > 0 {
		t.Errorf("Fits(%v, %v) = %v, want none", brief(l), f, fits)
	}
}

func drawn(r *rand.Rand, numbers []int) int { return numbers[r.Intn(len(numbers))] }

// drawnAmount returns an amount, near a limit or any one.
func drawnAmount(r *rand.Rand) int {
	return [...]int{drawn(r, amounts), r.Intn(10), r.Intn(1000), r.Intn(maxCents + 1), maxCents - r.Intn(10)}[r.Intn(5)]
}

func drawnRow(r *rand.Rand) api.Row {
	lo, hi := drawnAmount(r), drawnAmount(r)
	return api.Row{Grades: 1 + r.Intn(15), Warranty: 1 + r.Intn(3), Lo: min(lo, hi), Hi: max(lo, hi), Way: drawn(r, ways)}
}

func drawnRows(r *rand.Rand, n int) []api.Row {
	l := make([]api.Row, n)
	for i := range l {
		l[i] = drawnRow(r)
	}
	return l
}

func drawnFacts(r *rand.Rand) rule.Facts {
	return rule.Facts{Grade: r.Intn(4), Warranty: r.Intn(2) == 1, Amount: drawnAmount(r)}
}

// factsNear returns facts whose amount is often at a limit of a row, or one below or above it.
func factsNear(r *rand.Rand, l []api.Row) rule.Facts {
	f := drawnFacts(r)
	if len(l) > 0 && r.Intn(3) > 0 {
		near := l[r.Intn(len(l))]
		f.Amount = min(max(drawn(r, []int{near.Lo, near.Hi})+r.Intn(3)-1, 0), maxCents)
	}
	return f
}

// fitting returns a row that matches facts.
func fitting(r *rand.Rand, f rule.Facts) api.Row {
	for {
		row := drawnRow(r)
		row.Lo, row.Hi = min(row.Lo, f.Amount), max(row.Hi, f.Amount)
		if matches(row, f) {
			return row
		}
	}
}

// unfitting returns a row that does not match facts, often for one reason alone.
func unfitting(r *rand.Rand, f rule.Facts) api.Row {
	for {
		row := fitting(r, f)
		switch r.Intn(5) {
		case 0:
			row.Grades &^= 1 << f.Grade
		case 1:
			row.Warranty = 1
			if !f.Warranty {
				row.Warranty = 2
			}
		case 2:
			row.Lo, row.Hi = f.Amount+1, max(row.Hi, f.Amount+1)
		case 3:
			row.Lo, row.Hi = min(row.Lo, f.Amount-1), f.Amount-1
		case 4:
			row = drawnRow(r)
		}
		if isRow(row) && !matches(row, f) {
			return row
		}
	}
}

// mixed returns as many rows as a pattern has elements: those match facts where it is true.
func mixed(r *rand.Rand, f rule.Facts, pattern []bool) []api.Row {
	l := make([]api.Row, len(pattern))
	for i, fits := range pattern {
		l[i] = unfitting(r, f)
		if fits {
			l[i] = fitting(r, f)
		}
	}
	return l
}

// wrongRows returns rows that differ from a valid one in a single field, or in Lo and Hi, and are not valid.
func wrongRows(row api.Row) []api.Row {
	var l []api.Row
	add := func(numbers []int, field func(r *api.Row) *int) {
		for _, n := range numbers {
			wrong := row
			*field(&wrong) = n
			l = append(l, wrong)
		}
	}
	add(noGrades, func(r *api.Row) *int { return &r.Grades })
	add(noWarranties, func(r *api.Row) *int { return &r.Warranty })
	add(noAmounts, func(r *api.Row) *int { return &r.Lo })
	add(noAmounts, func(r *api.Row) *int { return &r.Hi })
	add(noWays, func(r *api.Row) *int { return &r.Way })
	for _, x := range [][2]int{{1, 0}, {100, 99}, {maxCents, maxCents - 1}, {maxCents, 0}, {-1, -1}, {-2, -1}, {maxCents + 1, maxCents + 1}, {maxCents + 1, maxCents + 2}, {-1, maxCents + 1}, {1 << 32, 1}, {math.MinInt, math.MaxInt}, {math.MaxInt, math.MinInt}, {math.MinInt, math.MinInt}, {math.MaxInt, math.MaxInt}} {
		wrong := row
		wrong.Lo, wrong.Hi = x[0], x[1]
		l = append(l, wrong)
	}
	return l
}

// wrongFacts returns facts that differ from valid ones in a single field, or in Grade and Amount, and are not valid.
func wrongFacts(f rule.Facts) []rule.Facts {
	var l []rule.Facts
	for _, grade := range noGrade {
		l = append(l, rule.Facts{Grade: grade, Warranty: f.Warranty, Amount: f.Amount})
	}
	for _, amount := range noAmounts {
		l = append(l, rule.Facts{Grade: f.Grade, Warranty: f.Warranty, Amount: amount})
	}
	for _, grade := range []int{math.MinInt, -1, 4, 64, math.MaxInt} {
		for _, amount := range []int{math.MinInt, -1, maxCents + 1, math.MaxInt} {
			l = append(l, rule.Facts{Grade: grade, Warranty: f.Warranty, Amount: amount})
		}
	}
	return l
}

var (
	everything = api.Row{Grades: 15, Warranty: 3, Lo: 0, Hi: maxCents, Way: api.Restock}
	someRow    = api.Row{Grades: 6, Warranty: 2, Lo: 100, Hi: 5000, Way: api.Vendor}
	someFacts  = rule.Facts{Grade: 1, Warranty: true, Amount: 100}
)

func TestTheLimits(t *testing.T) {
	if api.MaxRows != most || api.MaxCents != maxCents || api.Grades != 4 {
		t.Errorf("MaxRows is %d, MaxCents %d, and there are %d grades", api.MaxRows, api.MaxCents, api.Grades)
	}
	if !slices.Equal(ways, []int{1, 2, 3, 4, 5}) {
		t.Errorf("the ways are %v", ways)
	}
}

// The example of the chapter.

func TestTheExample(t *testing.T) {
	l := []api.Row{{Grades: 15, Warranty: 3, Lo: 0, Hi: 99, Way: api.Scrap}, {Grades: 15, Warranty: 3, Lo: 0, Hi: api.MaxCents, Way: api.Restock}}
	for grade := range 4 {
		for _, warranty := range []bool{false, true} {
			f := rule.Facts{Grade: grade, Warranty: warranty, Amount: 100}
			if way, at, e := rule.Decide(l, f); way != api.Restock || at != 1 || e != api.OK {
				t.Errorf("for an amount of 100 the decision is %d, by the row %d, %d", way, at, int(e))
			}
			if fits := rule.Fits(l, f); !slices.Equal(fits, []int{1}) {
				t.Errorf("for an amount of 100 the rows %v match", fits)
			}
			f.Amount = 99
			if way, at, e := rule.Decide(l, f); way != api.Scrap || at != 0 || e != api.OK {
				t.Errorf("for an amount of 99 the decision is %d, by the row %d, %d", way, at, int(e))
			}
			if fits := rule.Fits(l, f); !slices.Equal(fits, []int{0, 1}) {
				t.Errorf("for an amount of 99 the rows %v match", fits)
			}
		}
	}
}

// P18.1: CheckRow, Check and CheckFacts.

func TestRowsThatAreValid(t *testing.T) {
	for grades := 1; grades <= 15; grades++ {
		for warranty := 1; warranty <= 3; warranty++ {
			for _, way := range ways {
				for i, lo := range amounts {
					for _, hi := range amounts[i:] {
						r := api.Row{Grades: grades, Warranty: warranty, Lo: lo, Hi: hi, Way: way}
						if e := rule.CheckRow(r); e != api.OK {
							t.Errorf("CheckRow(%v) = %d, want OK", r, int(e))
						}
						compareRow(t, r)
					}
				}
			}
		}
	}
}

func TestRowsWithOneWrongField(t *testing.T) {
	r := rand.New(rand.NewSource(181))
	for i := range 300 {
		row := drawnRow(r)
		if i == 0 {
			row = everything
		}
		for _, wrong := range wrongRows(row) {
			if e := rule.CheckRow(wrong); e != api.ErrRules {
				t.Errorf("CheckRow(%v) = %d, want ErrRules", wrong, int(e))
			}
			compareRow(t, wrong)
		}
	}
}

// Each field at the ends of what is valid, one below and one above them, and at the least and the greatest int, with all others so.
func TestFieldsAtTheirEnds(t *testing.T) {
	cents := []int{math.MinInt, -1, 0, 1, maxCents - 1, maxCents, maxCents + 1, math.MaxInt}
	right := 0
	for _, grades := range []int{math.MinInt, -1, 0, 1, 2, 14, 15, 16, math.MaxInt} {
		for _, warranty := range []int{math.MinInt, -1, 0, 1, 2, 3, 4, math.MaxInt} {
			for _, way := range []int{math.MinInt, -1, 0, 1, 2, 4, 5, 6, math.MaxInt} {
				for _, lo := range cents {
					for _, hi := range cents {
						r := api.Row{Grades: grades, Warranty: warranty, Lo: lo, Hi: hi, Way: way}
						compareRow(t, r)
						if rule.CheckRow(r) == api.OK {
							right++
						}
					}
				}
			}
		}
	}
	// Four numbers of grades, three of warranties, four of ways, and ten pairs of four amounts.
	if right != 4*3*4*10 {
		t.Errorf("%d rows are valid, want %d", right, 4*3*4*10)
	}
}

func TestTheAmountsOfARow(t *testing.T) {
	all := append(slices.Clone(amounts), noAmounts...)
	for _, lo := range all {
		for _, near := range append(slices.Clone(all), lo, lo-1, lo+1) {
			r := everything
			r.Lo, r.Hi = lo, near
			compareRow(t, r)
		}
	}
	for _, x := range []struct {
		lo, hi int
		want   api.Errno
	}{
		{0, 0, api.OK}, {maxCents, maxCents, api.OK}, {0, maxCents, api.OK}, {100, 100, api.OK}, {100, 101, api.OK}, {1, maxCents, api.OK}, {0, 1, api.OK},
		{100, 99, api.ErrRules}, {1, 0, api.ErrRules}, {maxCents, maxCents - 1, api.ErrRules}, {maxCents, 0, api.ErrRules}, {0, -1, api.ErrRules}, {-1, 0, api.ErrRules}, {-1, -1, api.ErrRules},
		{maxCents, maxCents + 1, api.ErrRules}, {maxCents + 1, maxCents, api.ErrRules}, {maxCents + 1, maxCents + 1, api.ErrRules}, {-1, maxCents, api.ErrRules}, {0, maxCents + 1, api.ErrRules},
		{0, math.MinInt, api.ErrRules}, {0, math.MaxInt, api.ErrRules}, {math.MinInt, 0, api.ErrRules}, {math.MaxInt, 0, api.ErrRules}, {math.MinInt, maxCents, api.ErrRules}, {math.MaxInt, maxCents, api.ErrRules},
	} {
		r := someRow
		r.Lo, r.Hi = x.lo, x.hi
		if e := rule.CheckRow(r); e != x.want {
			t.Errorf("CheckRow(%v) = %d, want %d", r, int(e), int(x.want))
		}
	}
}

func TestNumbersOfRows(t *testing.T) {
	r := rand.New(rand.NewSource(182))
	for n := range 300 {
		want := api.ErrRules
		if n >= 1 && n <= 20 {
			want = api.OK
		}
		for _, l := range [][]api.Row{slices.Repeat([]api.Row{everything}, n), drawnRows(r, n)} {
			if e := rule.Check(l); e != want {
				t.Errorf("Check of %d rows = %d, want %d", n, int(e), int(want))
			}
			compareCheck(t, l)
		}
	}
	for _, l := range [][]api.Row{nil, {}, make([]api.Row, 0, 5), {{}}, drawnRows(r, 21), drawnRows(r, 256), drawnRows(r, 257), drawnRows(r, 1<<16+1)} {
		if e := rule.Check(l); e != api.ErrRules {
			t.Errorf("Check of %v = %d, want ErrRules", brief(l), int(e))
		}
	}
}

// A row that is not valid, at each place of lists of each length.
func TestAWrongRowAtEachPlace(t *testing.T) {
	r := rand.New(rand.NewSource(183))
	for n := 1; n <= most; n++ {
		for place := range n {
			l := drawnRows(r, n)
			for _, wrong := range append(wrongRows(l[place]), api.Row{}) {
				l[place] = wrong
				if e := rule.Check(l); e != api.ErrRules {
					t.Errorf("Check(%v) = %d, want ErrRules", l, int(e))
				}
				compareCheck(t, l)
			}
		}
	}
}

func TestSeveralWrongRows(t *testing.T) {
	r := rand.New(rand.NewSource(184))
	wrong := wrongRows(everything)
	for n := range most + 3 {
		for range 100 {
			l := drawnRows(r, n)
			for i := range l {
				if r.Intn(3) == 0 {
					l[i] = wrong[r.Intn(len(wrong))]
				}
			}
			compareCheck(t, l)
		}
		l := make([]api.Row, n)
		compareCheck(t, l)
	}
}

func TestFactsThatAreValid(t *testing.T) {
	for grade := range 4 {
		for _, warranty := range []bool{false, true} {
			for _, amount := range amounts {
				f := rule.Facts{Grade: grade, Warranty: warranty, Amount: amount}
				if e := rule.CheckFacts(f); e != api.OK {
					t.Errorf("CheckFacts(%v) = %d, want OK", f, int(e))
				}
				compareFacts(t, f)
			}
		}
	}
}

func TestFactsThatAreNotValid(t *testing.T) {
	r := rand.New(rand.NewSource(185))
	for range 300 {
		for _, f := range wrongFacts(drawnFacts(r)) {
			if e := rule.CheckFacts(f); e != api.ErrArg {
				t.Errorf("CheckFacts(%v) = %d, want ErrArg", f, int(e))
			}
			compareFacts(t, f)
		}
	}
}

func TestFactsAtTheirEnds(t *testing.T) {
	right := 0
	for _, grade := range []int{math.MinInt, -1, 0, 1, 2, 3, 4, math.MaxInt} {
		for _, amount := range []int{math.MinInt, -1, 0, 1, maxCents - 1, maxCents, maxCents + 1, math.MaxInt} {
			for _, warranty := range []bool{false, true} {
				f := rule.Facts{Grade: grade, Warranty: warranty, Amount: amount}
				compareFacts(t, f)
				if rule.CheckFacts(f) == api.OK {
					right++
				}
			}
		}
	}
	if right != 4*4*2 {
		t.Errorf("%d facts are valid, want %d", right, 4*4*2)
	}
}

// P18.2: Match.

func TestSomeMatches(t *testing.T) {
	for _, x := range []struct {
		row   api.Row
		facts rule.Facts
		want  bool
	}{
		{everything, rule.Facts{}, true}, {everything, rule.Facts{Grade: 3, Warranty: true, Amount: maxCents}, true},
		{someRow, someFacts, true}, {someRow, rule.Facts{Grade: 2, Warranty: true, Amount: 5000}, true},
		{someRow, rule.Facts{Grade: 0, Warranty: true, Amount: 100}, false}, {someRow, rule.Facts{Grade: 3, Warranty: true, Amount: 100}, false},
		{someRow, rule.Facts{Grade: 1, Warranty: false, Amount: 100}, false},
		{someRow, rule.Facts{Grade: 1, Warranty: true, Amount: 99}, false}, {someRow, rule.Facts{Grade: 1, Warranty: true, Amount: 5001}, false},
		{api.Row{Grades: 8, Warranty: 1, Lo: 7, Hi: 7, Way: api.Scrap}, rule.Facts{Grade: 3, Amount: 7}, true},
		{api.Row{Grades: 8, Warranty: 1, Lo: 7, Hi: 7, Way: api.Scrap}, rule.Facts{Grade: 3, Warranty: true, Amount: 7}, false},
		{api.Row{Grades: 8, Warranty: 1, Lo: 7, Hi: 7, Way: api.Scrap}, rule.Facts{Grade: 3, Amount: 6}, false},
		{api.Row{Grades: 8, Warranty: 1, Lo: 7, Hi: 7, Way: api.Scrap}, rule.Facts{Grade: 3, Amount: 8}, false},
		{api.Row{Grades: 1, Warranty: 3, Lo: 0, Hi: 0, Way: api.Refurb}, rule.Facts{}, true},
		{api.Row{Grades: 1, Warranty: 3, Lo: 0, Hi: 0, Way: api.Refurb}, rule.Facts{Amount: 1}, false},
		{api.Row{}, rule.Facts{}, false},
	} {
		if got := rule.Match(x.row, x.facts); got != x.want {
			t.Errorf("Match(%v, %v) = %v, want %v", x.row, x.facts, got, x.want)
		}
		compareMatch(t, x.row, x.facts)
	}
}

// Each Grades with each grade, each Warranty with and without warranty, and amounts around the limits of the row.
func TestEachCondition(t *testing.T) {
	matched := 0
	for grades := 1; grades <= 15; grades++ {
		for warranty := 1; warranty <= 3; warranty++ {
			for i, x := range [][2]int{{0, 0}, {0, 99}, {100, 100}, {100, 200}, {1 << 32, 1<<32 + 100}, {1 << 32, 1 << 39}, {0, maxCents}, {maxCents - 1, maxCents}, {maxCents, maxCents}} {
				r := api.Row{Grades: grades, Warranty: warranty, Lo: x[0], Hi: x[1], Way: ways[(grades+i)%5]}
				for grade := range 4 {
					for _, under := range []bool{false, true} {
						for _, amount := range append([]int{r.Lo - 1, r.Lo, r.Lo + 1, (r.Lo + r.Hi) / 2, r.Hi - 1, r.Hi, r.Hi + 1}, amounts...) {
							f := rule.Facts{Grade: grade, Warranty: under, Amount: amount}
							compareMatch(t, r, f)
							if rule.Match(r, f) {
								matched++
							}
						}
					}
				}
			}
		}
	}
	if matched == 0 {
		t.Error("no row matches")
	}
}

// The way of a row is no condition.
func TestMatchDoesNotDependOnTheWay(t *testing.T) {
	r := rand.New(rand.NewSource(186))
	for range 3000 {
		row := drawnRow(r)
		f := factsNear(r, []api.Row{row})
		want := matchOf(row, f)
		for _, way := range ways {
			row.Way = way
			if got := rule.Match(row, f); got != want {
				t.Errorf("Match(%v, %v) = %v, want %v", row, f, got, want)
			}
		}
	}
}

// Of each row and facts, what is not valid would match if nothing were checked, or if only the last bits counted.
func TestNothingMatchesThatIsNotValid(t *testing.T) {
	row := everything
	for _, f := range []rule.Facts{{}, {Grade: 3, Warranty: true, Amount: maxCents}, {Grade: 1, Warranty: true, Amount: 100}, {Grade: 2, Amount: 0}} {
		if !rule.Match(row, f) {
			t.Errorf("Match(%v, %v) = false", row, f)
		}
		for _, wrong := range wrongRows(row) {
			if rule.Match(wrong, f) {
				t.Errorf("Match(%v, %v) = true", wrong, f)
			}
		}
		for _, other := range wrongFacts(f) {
			if rule.Match(row, other) {
				t.Errorf("Match(%v, %v) = true", row, other)
			}
			for _, wrong := range wrongRows(row) {
				if rule.Match(wrong, other) {
					t.Errorf("Match(%v, %v) = true", wrong, other)
				}
			}
		}
	}
	for _, x := range []struct {
		row   api.Row
		facts rule.Facts
	}{
		{api.Row{Grades: 31, Warranty: 3, Lo: 0, Hi: maxCents, Way: 1}, rule.Facts{Grade: 4}}, {api.Row{Grades: 16, Warranty: 3, Lo: 0, Hi: maxCents, Way: 1}, rule.Facts{Grade: 4}},
		{api.Row{Grades: 17, Warranty: 3, Lo: 0, Hi: maxCents, Way: 1}, rule.Facts{}}, {api.Row{Grades: -1, Warranty: 3, Lo: 0, Hi: maxCents, Way: 1}, rule.Facts{Grade: 64}},
		{api.Row{Grades: 15, Warranty: 7, Lo: 0, Hi: maxCents, Way: 1}, rule.Facts{}}, {api.Row{Grades: 15, Warranty: -1, Lo: 0, Hi: maxCents, Way: 1}, rule.Facts{Warranty: true}},
		{api.Row{Grades: 15, Warranty: 3, Lo: -1, Hi: maxCents, Way: 1}, rule.Facts{Amount: -1}}, {api.Row{Grades: 15, Warranty: 3, Lo: -1, Hi: maxCents, Way: 1}, rule.Facts{}},
		{api.Row{Grades: 15, Warranty: 3, Lo: 0, Hi: maxCents + 1, Way: 1}, rule.Facts{Amount: maxCents + 1}}, {api.Row{Grades: 15, Warranty: 3, Lo: 0, Hi: maxCents + 1, Way: 1}, rule.Facts{Amount: maxCents}},
		{api.Row{Grades: 15, Warranty: 3, Lo: math.MinInt, Hi: math.MaxInt, Way: 1}, rule.Facts{Amount: math.MinInt}}, {api.Row{Grades: 15, Warranty: 3, Lo: math.MinInt, Hi: math.MaxInt, Way: 1}, rule.Facts{Amount: math.MaxInt}},
		{api.Row{Grades: 15, Warranty: 3, Lo: 100, Hi: 99, Way: 1}, rule.Facts{Amount: 99}}, {api.Row{Grades: 15, Warranty: 3, Lo: 100, Hi: 99, Way: 1}, rule.Facts{Amount: 100}},
		{api.Row{Grades: 15, Warranty: 3, Lo: 0, Hi: maxCents, Way: 0}, rule.Facts{}}, {api.Row{Grades: 15, Warranty: 3, Lo: 0, Hi: maxCents, Way: 6}, rule.Facts{}},
	} {
		if rule.Match(x.row, x.facts) {
			t.Errorf("Match(%v, %v) = true", x.row, x.facts)
		}
		refused(t, []api.Row{x.row}, x.facts, api.ErrRules)
	}
}

func TestDrawnMatches(t *testing.T) {
	r := rand.New(rand.NewSource(187))
	for range 50000 {
		row := drawnRow(r)
		compareMatch(t, row, factsNear(r, []api.Row{row}))
		compareMatch(t, row, drawnFacts(r))
		f := drawnFacts(r)
		if got := fitting(r, f); !rule.Match(got, f) {
			t.Errorf("Match(%v, %v) = false", got, f)
		}
		if got := unfitting(r, f); rule.Match(got, f) {
			t.Errorf("Match(%v, %v) = true", got, f)
		}
	}
}

// P18.3: Decide and Fits.

// Lists of 1 to 20 rows of which none match, one at each place, two at each two places, all, and all but one.
func TestRowsThatMatchAtEachPlace(t *testing.T) {
	r := rand.New(rand.NewSource(188))
	for n := 1; n <= most; n++ {
		f := drawnFacts(r)
		none, all := make([]bool, n), slices.Repeat([]bool{true}, n)
		refused(t, mixed(r, f, none), f, api.ErrRules)
		compare(t, mixed(r, f, all), f)
		for i := range n {
			but := slices.Clone(all)
			but[i] = false
			compare(t, mixed(r, f, but), f)
			for j := i; j < n; j++ {
				some := make([]bool, n)
				some[i], some[j] = true, true
				l := mixed(r, f, some)
				compare(t, l, f)
				if way, at, e := rule.Decide(l, f); way != l[i].Way || at != i || e != api.OK {
					t.Errorf("Decide(%v, %v) = %d, %d, %d, want %d, %d", l, f, way, at, int(e), l[i].Way, i)
				}
				if fits := rule.Fits(l, f); !slices.Equal(fits, slices.Compact([]int{i, j})) {
					t.Errorf("Fits(%v, %v) = %v, want %d and %d", l, f, fits, i, j)
				}
			}
		}
	}
}

// Each way, of the row that decides and of those before and after it.
func TestEachWay(t *testing.T) {
	r := rand.New(rand.NewSource(189))
	for _, way := range ways {
		for _, other := range ways {
			f := drawnFacts(r)
			l := mixed(r, f, []bool{false, true, false, true})
			for i := range l {
				l[i].Way = other
			}
			l[1].Way = way
			if got, at, e := rule.Decide(l, f); got != way || at != 1 || e != api.OK {
				t.Errorf("Decide(%v, %v) = %d, %d, %d, want %d, 1", l, f, got, at, int(e), way)
			}
			compare(t, l, f)
		}
	}
}

// All lists of up to three of some rows, with facts that are told apart by them.
func TestSmallLists(t *testing.T) {
	var some []api.Row
	for i, x := range [][4]int{{15, 3, 0, maxCents}, {1, 3, 0, maxCents}, {6, 1, 0, 99}, {9, 2, 100, 100}, {8, 3, 100, maxCents}, {15, 2, 0, 100}, {3, 1, 101, 102}, {0, 3, 0, maxCents}, {15, 3, 100, 99}} {
		some = append(some, api.Row{Grades: x[0], Warranty: x[1], Lo: x[2], Hi: x[3], Way: ways[i%5]})
	}
	lists := [][]api.Row{nil}
	for range 3 {
		for _, l := range lists {
			for _, row := range some {
				lists = append(lists, append(slices.Clone(l), row))
			}
		}
	}
	for _, l := range lists {
		compareCheck(t, l)
		for _, grade := range []int{-1, 0, 1, 3, 4} {
			for _, amount := range []int{-1, 0, 99, 100, 101} {
				compare(t, l, rule.Facts{Grade: grade, Amount: amount})
				compare(t, l, rule.Facts{Grade: grade, Warranty: true, Amount: amount})
			}
		}
	}
}

func TestDrawnListsAndFacts(t *testing.T) {
	r := rand.New(rand.NewSource(190))
	for range 20000 {
		l := drawnRows(r, r.Intn(most+3))
		compareCheck(t, l)
		compare(t, l, factsNear(r, l))
		compare(t, l, drawnFacts(r))
		f := drawnFacts(r)
		pattern := make([]bool, 1+r.Intn(most))
		for i := range pattern {
			pattern[i] = r.Intn(4) == 0
		}
		compare(t, mixed(r, f, pattern), f)
	}
}

// Lists that are not valid, with facts that are and that are not, and that a row would match.
func TestDecideWithoutValidRows(t *testing.T) {
	r := rand.New(rand.NewSource(191))
	for n := 1; n <= most; n++ {
		f := drawnFacts(r)
		for place := range n {
			l := mixed(r, f, slices.Repeat([]bool{true}, n))
			for _, wrong := range wrongRows(l[place]) {
				l[place] = wrong
				refused(t, l, f, api.ErrRules)
				refused(t, l, rule.Facts{Grade: 4, Amount: f.Amount}, api.ErrRules)
				refused(t, l, rule.Facts{Grade: f.Grade, Amount: -1}, api.ErrRules)
			}
		}
	}
	for _, n := range []int{0, 21, 22, 256, 257, 1<<16 + 1} {
		l := slices.Repeat([]api.Row{everything}, n)
		for _, f := range append(wrongFacts(someFacts), someFacts, rule.Facts{}) {
			refused(t, l, f, api.ErrRules)
		}
	}
	for _, f := range append(wrongFacts(someFacts), someFacts, rule.Facts{}) {
		refused(t, nil, f, api.ErrRules)
	}
}

// A wrong row counts also after one that matches, where it does not match, and beside others that do.
func TestAWrongRowAfterTheOneThatMatches(t *testing.T) {
	for n := 2; n <= most; n++ {
		for _, wrong := range wrongRows(everything) {
			l := slices.Repeat([]api.Row{everything}, n)
			l[n-1] = wrong
			refused(t, l, someFacts, api.ErrRules)
			l = slices.Repeat([]api.Row{someRow}, n)
			l[n-1] = wrong
			refused(t, l, someFacts, api.ErrRules)
			refused(t, l, rule.Facts{}, api.ErrRules)
		}
	}
}

// Facts that are not valid, with lists of which rows would match otherwise, or none.
func TestDecideWithoutValidFacts(t *testing.T) {
	r := rand.New(rand.NewSource(192))
	for n := 1; n <= most; n++ {
		f := drawnFacts(r)
		pattern := make([]bool, n)
		for _, l := range [][]api.Row{drawnRows(r, n), slices.Repeat([]api.Row{everything}, n), mixed(r, f, pattern)} {
			for _, wrong := range wrongFacts(f) {
				refused(t, l, wrong, api.ErrArg)
			}
		}
	}
}

func TestNoRowMatches(t *testing.T) {
	r := rand.New(rand.NewSource(193))
	for range 2000 {
		f := drawnFacts(r)
		refused(t, mixed(r, f, make([]bool, 1+r.Intn(most))), f, api.ErrRules)
	}
	for _, f := range []rule.Facts{{}, {Grade: 3, Warranty: true, Amount: 100}, {Grade: 1, Amount: 100}, {Grade: 1, Warranty: true, Amount: 99}, {Grade: 1, Warranty: true, Amount: 5001}} {
		refused(t, []api.Row{someRow}, f, api.ErrRules)
		refused(t, slices.Repeat([]api.Row{someRow}, most), f, api.ErrRules)
	}
}

// P18.4: the row that decides is the first of all that match.

func TestTheFirstRowThatMatchesDecides(t *testing.T) {
	r := rand.New(rand.NewSource(194))
	for range 20000 {
		l := drawnRows(r, 1+r.Intn(most))
		f := factsNear(r, l)
		way, at, e := rule.Decide(l, f)
		fits := rule.Fits(l, f)
		if len(fits) == 0 {
			refused(t, l, f, api.ErrRules)
			continue
		}
		if e != api.OK || at != fits[0] || way != l[at].Way {
			t.Errorf("Decide(%v, %v) = %d, %d, %d, but the rows %v match", l, f, way, at, int(e), fits)
		}
		for i, row := range l {
			if got := rule.Match(row, f); got != slices.Contains(fits, i) || got && i < at {
				t.Errorf("Match(%v, %v) = %v, but the rows %v match, of which %d decides", row, f, got, fits, at)
			}
		}
		for i := range fits[1:] {
			if fits[i] >= fits[i+1] {
				t.Errorf("Fits(%v, %v) = %v", l, f, fits)
			}
		}
	}
}

// P18.5: rows after the one that decides have no effect, and those that do not match none but on the index.

// decides checks what Decide returns.
func decides(t *testing.T, l []api.Row, f rule.Facts, way, at int) {
	t.Helper()
	if w, a, e := rule.Decide(l, f); w != way || a != at || e != api.OK {
		t.Errorf("Decide(%v, %v) = %d, %d, %d, want %d, %d", l, f, w, a, int(e), way, at)
	}
}

func TestRowsAfterTheOneThatDecidesHaveNoEffect(t *testing.T) {
	r := rand.New(rand.NewSource(195))
	for range 3000 {
		n := 1 + r.Intn(most)
		at := r.Intn(n)
		f := drawnFacts(r)
		pattern := make([]bool, n)
		for i := range pattern {
			pattern[i] = i == at || i > at && r.Intn(2) == 0
		}
		l := mixed(r, f, pattern)
		way := l[at].Way
		decides(t, l, f, way, at)
		// Rows are taken away from behind, put there, and changed.
		for to := at + 1; to <= n; to++ {
			decides(t, l[:to], f, way, at)
		}
		for more := range most - n + 1 {
			decides(t, append(slices.Clone(l), drawnRows(r, more)...), f, way, at)
		}
		for i := at + 1; i < n; i++ {
			decides(t, slices.Delete(slices.Clone(l), i, i+1), f, way, at)
			l[i] = drawnRow(r)
			decides(t, l, f, way, at)
		}
	}
}

func TestARowThatDoesNotMatchIsTakenAway(t *testing.T) {
	r := rand.New(rand.NewSource(196))
	for range 5000 {
		f := drawnFacts(r)
		pattern := make([]bool, 2+r.Intn(most-1))
		for i := range pattern {
			pattern[i] = r.Intn(3) == 0
		}
		l := mixed(r, f, pattern)
		fits := rule.Fits(l, f)
		for i := range l {
			if pattern[i] {
				continue
			}
			without := slices.Delete(slices.Clone(l), i, i+1)
			// What stood after the row that is gone has an index less by one.
			var want []int
			for _, at := range fits {
				if at > i {
					at--
				}
				want = append(want, at)
			}
			if got := rule.Fits(without, f); !slices.Equal(got, want) {
				t.Errorf("Fits(%v, %v) = %v, and without the row %d %v", l, f, fits, i, got)
			}
			if len(want) == 0 {
				refused(t, without, f, api.ErrRules)
				continue
			}
			decides(t, without, f, l[fits[0]].Way, want[0])
		}
	}
}

// The same the other way round: a row that does not match is put at each place.
func TestARowThatDoesNotMatchIsPutAnywhere(t *testing.T) {
	r := rand.New(rand.NewSource(197))
	for range 2000 {
		n := 1 + r.Intn(most-1)
		f := drawnFacts(r)
		pattern := make([]bool, n)
		at := r.Intn(n)
		pattern[at] = true
		l := mixed(r, f, pattern)
		for place := range n + 1 {
			want := at
			if place <= at {
				want++
			}
			decides(t, slices.Insert(slices.Clone(l), place, unfitting(r, f)), f, l[at].Way, want)
		}
	}
}

// If the only row is taken away, no row matches before, and there is no list after.
func TestTheOnlyRowIsTakenAway(t *testing.T) {
	refused(t, []api.Row{someRow}, rule.Facts{}, api.ErrRules)
	refused(t, []api.Row{}, rule.Facts{}, api.ErrRules)
}

// Rule 4: arguments are not modified, nor is the memory beyond their length, and results are newly allocated.

func TestRowsAndWhatIsBehindThemStay(t *testing.T) {
	r := rand.New(rand.NewSource(198))
	for range 200 {
		memory := drawnRows(r, most+5)
		if r.Intn(3) == 0 {
			memory[r.Intn(len(memory))] = api.Row{}
		}
		before := slices.Clone(memory)
		for n := range len(memory) + 1 {
			l := memory[:n]
			compareCheck(t, l)
			compare(t, l, factsNear(r, l))
			compare(t, l, rule.Facts{Grade: -1})
			if !slices.Equal(memory, before) {
				t.Fatalf("after calls with %d rows %v has become %v", n, before, memory)
			}
		}
	}
}

// What lies behind a list's length counts as little as if it were not there.
func TestListsEndAtTheirLength(t *testing.T) {
	memory := []api.Row{someRow, everything, {}, everything}
	refused(t, memory[:0], rule.Facts{}, api.ErrRules)
	refused(t, memory[:1], rule.Facts{}, api.ErrRules)
	decides(t, memory[:2], rule.Facts{}, api.Restock, 1)
	refused(t, memory[:3], rule.Facts{}, api.ErrRules)
	decides(t, memory[3:], rule.Facts{}, api.Restock, 0)
	if e := rule.Check(slices.Repeat([]api.Row{everything}, 30)[:20]); e != api.OK {
		t.Errorf("Check of 20 of 30 rows = %d", int(e))
	}
}

func TestWhatFitsReturnsIsItsOwn(t *testing.T) {
	for n := 1; n <= most; n++ {
		l := slices.Repeat([]api.Row{everything}, n)
		first, second := rule.Fits(l, someFacts), rule.Fits(l, someFacts)
		first = first[:cap(first)]
		for i := range first {
			first[i] = 77
		}
		if want := fitsOf(l, someFacts); !slices.Equal(second, want) {
			t.Errorf("Fits of %d rows has become %v", n, second)
		}
		compare(t, l, someFacts)
		decides(t, l, someFacts, api.Restock, 0)
	}
}

func TestCallsDoNotDependOnWhatWasCalledBefore(t *testing.T) {
	l := []api.Row{someRow, everything}
	all := func() {
		compareCheck(t, l)
		compareCheck(t, nil)
		for _, f := range append(wrongFacts(someFacts), someFacts, rule.Facts{}) {
			compareFacts(t, f)
			compare(t, l, f)
			compare(t, l[:1], f)
			compare(t, nil, f)
			compareMatch(t, l[0], f)
			compareMatch(t, api.Row{}, f)
		}
	}
	for range 3 {
		all()
	}
	// The same memory holds other rows now.
	l[0].Lo = 101
	all()
	l[0].Way = 6
	all()
	l[0].Lo, l[0].Way = 100, api.Vendor
	all()
}
