package grade_test

import (
	"fmt"
	"math"
	"math/rand"
	"slices"
	"testing"

	"backhaul/api"
	"backhaul/grade"
)

const (
	most  = 8
	worst = 8000
)

// noScores are numbers that are no scores: around the limits, around what 16, 32 and 64 bits hold, and where fewer bits hold a score.
var noScores = []int{
	math.MinInt, math.MinInt + 1, math.MinInt + 5, -1 << 62, -1 << 32, 5 - 1<<32, math.MinInt32, -1 << 16, 5 - 1<<16, 5 - 1<<13, -8001, -8000, -7999, -1000, -2, -1,
	8001, 8002, 1 << 13, 5 + 1<<13, 10000, 16000, math.MaxInt16, 1 << 16, 5 + 1<<16, math.MaxInt32, 1 << 32, 5 + 1<<32, 1 << 62, math.MaxInt - 1, math.MaxInt,
}

// noGrades are numbers that are no grades.
var noGrades = []int{
	math.MinInt, math.MinInt + 1, -1 << 62, -1 << 32, 1 - 1<<32, math.MinInt32, 1 - 1<<16, -256, -255, -8, -4, -3, -2, -1,
	4, 5, 6, 7, 8, 64, 128, 255, 256, 257, 1 << 16, 1<<16 + 1, math.MaxInt32, 1 << 32, 1<<32 + 1, 1 << 62, math.MaxInt - 1, math.MaxInt,
}

// goodCuts are lists that consist of cuts.
var goodCuts = [][]int{
	{0, 5, 20}, {4, 4, 9}, {0, 0, 0}, {8000, 8000, 8000}, {0, 8000, 8000}, {0, 0, 8000}, {0, 4000, 8000}, {1, 1, 1}, {7999, 7999, 7999}, {4000, 4000, 4000},
	{0, 1, 2}, {0, 0, 1}, {0, 1, 1}, {0, 1, 8000}, {1, 2, 3}, {1, 7999, 8000}, {7998, 7999, 8000}, {7999, 8000, 8000}, {7999, 7999, 8000}, {0, 7999, 8000}, {0, 0, 7999}, {0, 7999, 7999},
	{1, 1, 9}, {4, 9, 9}, {0, 3, 3}, {3, 3, 8000}, {3, 8000, 8000}, {1000, 2000, 3000}, {999, 1000, 1001}, {255, 256, 257}, {4095, 4096, 4097}, {127, 128, 160}, {100, 300, 600},
}

// noCuts are lists that do not consist of cuts.
var noCuts = [][]int{
	nil, {}, {0}, {5}, {8000}, {-1}, {8001}, {0, 0}, {0, 5}, {5, 0}, {8000, 8000}, {-1, 8001},
	{0, 0, 0, 0}, {0, 5, 20, 20}, {0, 5, 20, 8000}, {0, 5, 20, 0}, {8000, 8000, 8000, 8000}, {-1, 0, 5, 20}, {0, 5, 20, 8001}, {0, 0, 0, 0, 0}, {1, 2, 3, 4, 5, 6, 7},
	make([]int, 6), make([]int, 8), make([]int, 256), make([]int, 256+3), make([]int, 1<<16+3), make([]int, 100000),
	// These fall: between the first two, between the last two, and at both places.
	{5, 0, 20}, {5, 4, 20}, {8000, 0, 8000}, {5, 0, 5}, {5, 0, 0}, {1, 0, 1}, {1, 0, 8000},
	{0, 20, 5}, {0, 20, 19}, {0, 8000, 0}, {5, 5, 0}, {5, 5, 4}, {0, 1, 0}, {8000, 8000, 7999},
	{20, 5, 0}, {2, 1, 0}, {8000, 7999, 7998}, {8000, 4000, 0},
	// One number or several are no scores.
	{-1, 5, 20}, {-1, -1, 20}, {-1, -1, -1}, {-1, 0, 0}, {0, 5, 8001}, {0, 8001, 8001}, {8001, 8001, 8001}, {-1, 5, 8001}, {8000, 8000, 8001}, {-1, 8001, 8001}, {-1, -1, 8001},
	{0, -1, 20}, {0, 8001, 20}, {0, 5, -1}, {8001, 5, 20}, {5, 20, -1}, {8001, 0, 0}, {0, -1, 0}, {0, 8001, 0}, {8000, 8001, 8000}, {0, 0, -1},
	{math.MinInt, 5, 20}, {0, math.MinInt, 20}, {0, 5, math.MinInt}, {math.MaxInt, 5, 20}, {0, math.MaxInt, 20}, {0, 5, math.MaxInt},
	{math.MinInt, math.MinInt, math.MinInt}, {math.MaxInt, math.MaxInt, math.MaxInt}, {math.MinInt, 0, math.MaxInt}, {math.MaxInt, 0, math.MinInt},
	// A difference of two of these is that of scores as it wraps around.
	{math.MaxInt, math.MinInt, math.MinInt + 1}, {math.MinInt, math.MaxInt, math.MaxInt}, {0, math.MinInt, math.MaxInt},
}

// isCuts is the definition of cuts: sorting leaves them as they are.
func isCuts(cuts []int) bool {
	if len(cuts) != 3 {
		return false
	}
	sorted := slices.Clone(cuts)
	slices.Sort(sorted)
	return slices.Equal(sorted, cuts) && slices.Min(cuts) >= 0 && slices.Max(cuts) <= 8000
}

// isQuestions is the definition of questions.
func isQuestions(asks []int) bool {
	return len(asks) >= 1 && len(asks) <= 8 && slices.Min(asks) >= 0 && slices.Max(asks) <= 1000
}

// checkOf is the definition of Check.
func checkOf(cuts []int) api.Errno {
	if isCuts(cuts) {
		return api.OK
	}
	return api.ErrRules
}

// gradeOf is the definition of the grade of a score: as many cuts as are less than the score are passed over.
func gradeOf(cuts []int, score int) int {
	less := 0
	for _, cut := range cuts {
		if cut < score {
			less++
		}
	}
	return less
}

// ofOf is the definition of Of.
func ofOf(cuts []int, score int) (int, api.Errno) {
	if !isCuts(cuts) {
		return 0, api.ErrRules
	}
	if score < 0 || score > 8000 {
		return 0, api.ErrArg
	}
	return gradeOf(cuts, score), api.OK
}

// spans returns the least and the greatest score of each grade, by looking at each score.
func spans(cuts []int) [4][2]int {
	l := [4][2]int{{1, 0}, {1, 0}, {1, 0}, {1, 0}}
	for score := 8000; score >= 0; score-- {
		of := gradeOf(cuts, score)
		if l[of] == [2]int{1, 0} {
			l[of][1] = score
		}
		l[of][0] = score
	}
	return l
}

// spanOf is the definition of Span.
func spanOf(cuts []int, of int) (int, int, api.Errno) {
	if !isCuts(cuts) {
		return 0, 0, api.ErrRules
	}
	if of < 0 || of > 3 {
		return 0, 0, api.ErrArg
	}
	span := spans(cuts)[of]
	return span[0], span[1], api.OK
}

// scores returns the score of each of the answers to questions: one for each set of questions that are answered by no.
func scores(asks []int) []int {
	l := []int{0}
	for _, weight := range asks {
		for _, score := range l {
			l = append(l, score+weight)
		}
	}
	return l
}

// countOf is the definition of Count.
func countOf(asks, cuts []int) ([4]int, api.Errno) {
	var counts [4]int
	if !isQuestions(asks) || !isCuts(cuts) {
		return counts, api.ErrRules
	}
	for _, score := range scores(asks) {
		counts[gradeOf(cuts, score)]++
	}
	return counts, api.OK
}

// reachedOf is the definition of Reached.
func reachedOf(asks, cuts []int) ([4]bool, api.Errno) {
	var reached [4]bool
	if !isQuestions(asks) || !isCuts(cuts) {
		return reached, api.ErrRules
	}
	for _, score := range scores(asks) {
		reached[gradeOf(cuts, score)] = true
	}
	return reached, api.OK
}

// brief is a list that is shown by its first elements, and its length if it has others.
type brief []int

func (l brief) String() string {
	if len(l) <= 12 {
		return fmt.Sprint([]int(l))
	}
	return fmt.Sprintf("%v and so on, %d in all", []int(l[:12]), len(l))
}

// compareCheck compares Check with its definition.
func compareCheck(t *testing.T, cuts []int) {
	t.Helper()
	before := slices.Clone(cuts)
	if got, want := grade.Check(cuts), checkOf(before); got != want {
		t.Errorf("Check(%v) = %d, want %d", brief(before), int(got), int(want))
	}
	unchanged(t, cuts, before)
}

// compareOf compares Of with its definition.
func compareOf(t *testing.T, cuts []int, score int) {
	t.Helper()
	before := slices.Clone(cuts)
	want, code := ofOf(before, score)
	if got, e := grade.Of(cuts, score); got != want || e != code {
		t.Errorf("Of(%v, %d) = %d, %d, want %d, %d", brief(before), score, got, int(e), want, int(code))
	}
	unchanged(t, cuts, before)
}

// compareSpan compares Span with its definition.
func compareSpan(t *testing.T, cuts []int, of int) {
	t.Helper()
	before := slices.Clone(cuts)
	least, greatest, code := spanOf(before, of)
	if lo, hi, e := grade.Span(cuts, of); lo != least || hi != greatest || e != code {
		t.Errorf("Span(%v, %d) = %d, %d, %d, want %d, %d, %d", brief(before), of, lo, hi, int(e), least, greatest, int(code))
	}
	unchanged(t, cuts, before)
}

// compareSpans compares Span of each grade with its definition, of a list that consists of cuts.
func compareSpans(t *testing.T, cuts []int) {
	t.Helper()
	for of, want := range spans(cuts) {
		if lo, hi, e := grade.Span(cuts, of); lo != want[0] || hi != want[1] || e != api.OK {
			t.Errorf("Span(%v, %d) = %d, %d, %d, want %d, %d", cuts, of, lo, hi, int(e), want[0], want[1])
		}
	}
}

// compareCounts compares Count and Reached with their definitions.
func compareCounts(t *testing.T, asks, cuts []int) {
	t.Helper()
	questions, before := slices.Clone(asks), slices.Clone(cuts)
	counts, code := countOf(questions, before)
	if got, e := grade.Count(asks, cuts); got != counts || e != code {
		t.Errorf("Count(%v, %v) = %v, %d, want %v, %d", brief(questions), brief(before), got, int(e), counts, int(code))
	}
	reached, code := reachedOf(questions, before)
	if got, e := grade.Reached(asks, cuts); got != reached || e != code {
		t.Errorf("Reached(%v, %v) = %v, %d, want %v, %d", brief(questions), brief(before), got, int(e), reached, int(code))
	}
	unchanged(t, asks, questions)
	unchanged(t, cuts, before)
}

func unchanged(t *testing.T, l, before []int) {
	t.Helper()
	if !slices.Equal(l, before) {
		t.Fatalf("%v has been changed into %v", brief(before), brief(l))
	}
}

// lists calls f with each list of n of the numbers.
func lists(n int, numbers []int, f func(l []int)) {
	if n == 0 {
		f(nil)
		return
	}
	lists(n-1, numbers, func(l []int) {
		for _, x := range numbers {
			f(append(slices.Clone(l), x))
		}
	})
}

// drawnScore returns a score, near a limit or any one.
func drawnScore(r *rand.Rand) int {
	return [...]int{0, 1, 7999, 8000, r.Intn(10), r.Intn(100), r.Intn(1001), r.Intn(8001), r.Intn(8001), 8000 - r.Intn(100)}[r.Intn(10)]
}

// drawnCuts returns cuts, some of which are equal.
func drawnCuts(r *rand.Rand) []int {
	cuts := []int{drawnScore(r), drawnScore(r), drawnScore(r)}
	if r.Intn(3) == 0 {
		cuts[r.Intn(3)] = cuts[r.Intn(3)]
	}
	slices.Sort(cuts)
	return cuts
}

// drawnQuestions returns n questions, some of which are equal, 0 or 1000.
func drawnQuestions(r *rand.Rand, n int) []int {
	asks := make([]int, n)
	for i := range asks {
		asks[i] = [...]int{0, 1, 2, 3, 999, 1000, r.Intn(10), r.Intn(1001), r.Intn(1001), asks[r.Intn(i+1)]}[r.Intn(10)]
	}
	return asks
}

// cutsNear returns cuts drawn from the scores that questions have, from those one below and one above them, and from any.
func cutsNear(r *rand.Rand, asks []int) []int {
	cuts, all := make([]int, 3), scores(asks)
	for i := range cuts {
		cuts[i] = drawnScore(r)
		if r.Intn(4) > 0 {
			cuts[i] = min(max(all[r.Intn(len(all))]+r.Intn(3)-1, 0), 8000)
		}
	}
	slices.Sort(cuts)
	return cuts
}

func TestTheLimits(t *testing.T) {
	if api.Grades != 4 || api.MaxAsks != most {
		t.Errorf("there are %d grades, and MaxAsks is %d", api.Grades, api.MaxAsks)
	}
}

// The examples of the chapter.

func TestTheExamples(t *testing.T) {
	if got, e := grade.Of([]int{0, 5, 20}, 5); got != 1 || e != api.OK {
		t.Errorf("with the cuts 0, 5, 20 the score 5 has the grade %d, %d", got, int(e))
	}
	if lo, hi, e := grade.Span([]int{4, 4, 9}, 1); lo != 1 || hi != 0 || e != api.OK {
		t.Errorf("with the cuts 4, 4, 9 the grade 1 has the span %d and %d, %d", lo, hi, int(e))
	}
	if got, e := grade.Count([]int{5, 3, 1}, []int{0, 5, 20}); got != [4]int{1, 4, 3, 0} || e != api.OK {
		t.Errorf("for the weights 5, 3, 1 and the cuts 0, 5, 20 the numbers are %v, %d", got, int(e))
	}
	if got, e := grade.Reached([]int{5, 3, 1}, []int{0, 5, 20}); got != [4]bool{true, true, true, false} || e != api.OK {
		t.Errorf("for the weights 5, 3, 1 and the cuts 0, 5, 20 there are %v, %d", got, int(e))
	}
	for _, x := range []struct{ score, grade int }{{0, 0}, {5, 1}, {6, 2}, {21, 3}} {
		if got, e := grade.Of([]int{0, 5, 20}, x.score); got != x.grade || e != api.OK {
			t.Errorf("cuts 0, 5, 20: %d has grade %d, %d, want %d", x.score, got, int(e), x.grade)
		}
	}
}

// P17.1: Check and Of.

func TestListsOfCuts(t *testing.T) {
	for _, cuts := range goodCuts {
		if e := grade.Check(cuts); e != api.OK {
			t.Errorf("Check(%v) = %d, want OK", cuts, int(e))
		}
		compareCheck(t, cuts)
	}
}

func TestListsThatAreNoCuts(t *testing.T) {
	for _, cuts := range noCuts {
		if e := grade.Check(cuts); e != api.ErrRules {
			t.Errorf("Check(%v) = %d, want ErrRules", brief(cuts), int(e))
		}
		compareCheck(t, cuts)
	}
}

func TestTheNumberOfCuts(t *testing.T) {
	for n := range 300 {
		for _, cut := range []int{0, 1, 7999, 8000} {
			want := api.ErrRules
			if n == 3 {
				want = api.OK
			}
			if e := grade.Check(slices.Repeat([]int{cut}, n)); e != want {
				t.Errorf("Check of %d cuts %d = %d, want %d", n, cut, int(e), int(want))
			}
		}
	}
}

// Lists of up to four of the numbers at the limits.
func TestSmallLists(t *testing.T) {
	for length := range 5 {
		lists(length, []int{math.MinInt, -1, 0, 1, 7999, 8000, 8001, math.MaxInt}, func(l []int) { compareCheck(t, l) })
	}
}

func TestListsOfThree(t *testing.T) {
	right := 0
	lists(3, append([]int{0, 1, 5, 20, 4000, 7999, 8000}, noScores...), func(l []int) {
		compareCheck(t, l)
		if grade.Check(l) == api.OK {
			right++
		}
	})
	// That many lists of three of seven scores never fall.
	if right != 84 {
		t.Errorf("%d lists consist of cuts, want 84", right)
	}
}

// Each number at each place.
func TestANumberAtEachPlace(t *testing.T) {
	for _, cuts := range goodCuts {
		for place := range cuts {
			for n := -3; n <= worst+3; n++ {
				l := slices.Clone(cuts)
				l[place] = n
				want := api.OK
				if n < 0 || n > worst || place > 0 && n < cuts[place-1] || place < 2 && n > cuts[place+1] {
					want = api.ErrRules
				}
				if e := grade.Check(l); e != want {
					t.Errorf("Check(%v) = %d, want %d", l, int(e), int(want))
				}
			}
			for _, wrong := range noScores {
				l := slices.Clone(cuts)
				l[place] = wrong
				if e := grade.Check(l); e != api.ErrRules {
					t.Errorf("Check(%v) = %d, want ErrRules", l, int(e))
				}
			}
		}
	}
}

func TestDrawnLists(t *testing.T) {
	r := rand.New(rand.NewSource(171))
	for range 20000 {
		l := []int{drawnScore(r), drawnScore(r), drawnScore(r)}
		compareCheck(t, l)
		compareCheck(t, l[:r.Intn(4)])
		compareCheck(t, append(l, drawnScore(r)))
		l[r.Intn(3)] = noScores[r.Intn(len(noScores))]
		compareCheck(t, l)
		compareCheck(t, []int{int(r.Uint64()), int(r.Uint64()), int(r.Uint64())})
		compareCheck(t, drawnCuts(r))
	}
}

func TestGradesOfSomeScores(t *testing.T) {
	for _, x := range []struct {
		cuts         []int
		score, grade int
	}{
		{[]int{0, 5, 20}, 0, 0}, {[]int{0, 5, 20}, 1, 1}, {[]int{0, 5, 20}, 4, 1}, {[]int{0, 5, 20}, 5, 1}, {[]int{0, 5, 20}, 6, 2}, {[]int{0, 5, 20}, 19, 2}, {[]int{0, 5, 20}, 20, 2},
		{[]int{0, 5, 20}, 21, 3}, {[]int{0, 5, 20}, 8000, 3},
		{[]int{4, 4, 9}, 0, 0}, {[]int{4, 4, 9}, 3, 0}, {[]int{4, 4, 9}, 4, 0}, {[]int{4, 4, 9}, 5, 2}, {[]int{4, 4, 9}, 9, 2}, {[]int{4, 4, 9}, 10, 3},
		{[]int{4, 9, 9}, 4, 0}, {[]int{4, 9, 9}, 5, 1}, {[]int{4, 9, 9}, 9, 1}, {[]int{4, 9, 9}, 10, 3},
		{[]int{0, 0, 0}, 0, 0}, {[]int{0, 0, 0}, 1, 3}, {[]int{0, 0, 0}, 8000, 3}, {[]int{7, 7, 7}, 7, 0}, {[]int{7, 7, 7}, 8, 3},
		{[]int{8000, 8000, 8000}, 0, 0}, {[]int{8000, 8000, 8000}, 8000, 0}, {[]int{7999, 8000, 8000}, 7999, 0}, {[]int{7999, 8000, 8000}, 8000, 1},
		{[]int{0, 7999, 8000}, 7999, 1}, {[]int{0, 7999, 8000}, 8000, 2}, {[]int{0, 0, 7999}, 7999, 2}, {[]int{0, 0, 7999}, 8000, 3}, {[]int{0, 0, 8000}, 8000, 2},
	} {
		if got, e := grade.Of(x.cuts, x.score); got != x.grade || e != api.OK {
			t.Errorf("Of(%v, %d) = %d, %d, want %d", x.cuts, x.score, got, int(e), x.grade)
		}
		compareOf(t, x.cuts, x.score)
	}
}

func TestEachScore(t *testing.T) {
	for _, cuts := range goodCuts {
		for score := -3; score <= worst+3; score++ {
			compareOf(t, cuts, score)
		}
	}
}

// At each cut, one below and one above it.
func TestScoresAtTheCuts(t *testing.T) {
	r := rand.New(rand.NewSource(172))
	for range 20000 {
		cuts := drawnCuts(r)
		for _, cut := range cuts {
			for score := cut - 1; score <= cut+1; score++ {
				compareOf(t, cuts, score)
			}
		}
		compareOf(t, cuts, r.Intn(8001))
	}
}

func TestNumbersThatAreNoScores(t *testing.T) {
	r := rand.New(rand.NewSource(173))
	for i := range 200 {
		cuts := drawnCuts(r)
		if i < len(goodCuts) {
			cuts = goodCuts[i]
		}
		for _, score := range append(slices.Clone(noScores), -1-r.Intn(1<<40), 8001+r.Intn(1<<40)) {
			if got, e := grade.Of(cuts, score); got != 0 || e != api.ErrArg {
				t.Errorf("Of(%v, %d) = %d, %d, want 0, ErrArg", cuts, score, got, int(e))
			}
		}
	}
}

// The error of the list comes before that of the score, and is returned beside scores that are right, too.
func TestOfWithoutCuts(t *testing.T) {
	for _, cuts := range noCuts {
		for _, score := range append([]int{0, 1, 4, 5, 6, 20, 21, 7999, 8000}, noScores...) {
			if got, e := grade.Of(cuts, score); got != 0 || e != api.ErrRules {
				t.Errorf("Of(%v, %d) = %d, %d, want 0, ErrRules", brief(cuts), score, got, int(e))
			}
		}
	}
}

// P17.2: Span.

func TestSomeSpans(t *testing.T) {
	for _, x := range []struct {
		cuts []int
		want [4][2]int
	}{
		{[]int{0, 5, 20}, [4][2]int{{0, 0}, {1, 5}, {6, 20}, {21, 8000}}},
		{[]int{1, 2, 3}, [4][2]int{{0, 1}, {2, 2}, {3, 3}, {4, 8000}}},
		{[]int{4, 4, 9}, [4][2]int{{0, 4}, {1, 0}, {5, 9}, {10, 8000}}},
		{[]int{4, 9, 9}, [4][2]int{{0, 4}, {5, 9}, {1, 0}, {10, 8000}}},
		{[]int{4, 4, 4}, [4][2]int{{0, 4}, {1, 0}, {1, 0}, {5, 8000}}},
		{[]int{0, 0, 0}, [4][2]int{{0, 0}, {1, 0}, {1, 0}, {1, 8000}}},
		{[]int{0, 0, 1}, [4][2]int{{0, 0}, {1, 0}, {1, 1}, {2, 8000}}},
		{[]int{0, 1, 1}, [4][2]int{{0, 0}, {1, 1}, {1, 0}, {2, 8000}}},
		{[]int{8000, 8000, 8000}, [4][2]int{{0, 8000}, {1, 0}, {1, 0}, {1, 0}}},
		{[]int{0, 8000, 8000}, [4][2]int{{0, 0}, {1, 8000}, {1, 0}, {1, 0}}},
		{[]int{0, 0, 8000}, [4][2]int{{0, 0}, {1, 0}, {1, 8000}, {1, 0}}},
		{[]int{0, 4000, 8000}, [4][2]int{{0, 0}, {1, 4000}, {4001, 8000}, {1, 0}}},
		{[]int{7998, 7999, 8000}, [4][2]int{{0, 7998}, {7999, 7999}, {8000, 8000}, {1, 0}}},
		{[]int{7999, 7999, 7999}, [4][2]int{{0, 7999}, {1, 0}, {1, 0}, {8000, 8000}}},
		{[]int{7999, 8000, 8000}, [4][2]int{{0, 7999}, {8000, 8000}, {1, 0}, {1, 0}}},
		{[]int{0, 7999, 7999}, [4][2]int{{0, 0}, {1, 7999}, {1, 0}, {8000, 8000}}},
	} {
		for of, want := range x.want {
			if lo, hi, e := grade.Span(x.cuts, of); lo != want[0] || hi != want[1] || e != api.OK {
				t.Errorf("Span(%v, %d) = %d, %d, %d, want %d, %d", x.cuts, of, lo, hi, int(e), want[0], want[1])
			}
		}
	}
}

func TestSpansOfEachGrade(t *testing.T) {
	for _, cuts := range goodCuts {
		for of := range 4 {
			compareSpan(t, cuts, of)
		}
	}
	r := rand.New(rand.NewSource(174))
	for range 3000 {
		compareSpans(t, drawnCuts(r))
	}
}

// Spans at the limits: all cuts from 0 to 4, and all from 7996 to 8000.
func TestSpansAtTheLimits(t *testing.T) {
	lists(3, []int{0, 1, 2, 3, 4}, func(l []int) {
		if isCuts(l) {
			compareSpans(t, l)
			compareSpans(t, []int{8000 - l[2], 8000 - l[1], 8000 - l[0]})
		}
	})
}

func TestNumbersThatAreNoGrades(t *testing.T) {
	r := rand.New(rand.NewSource(175))
	for i := range 200 {
		cuts := drawnCuts(r)
		if i < len(goodCuts) {
			cuts = goodCuts[i]
		}
		for _, of := range append(slices.Clone(noGrades), -1-r.Intn(1<<40), 4+r.Intn(1<<40)) {
			if lo, hi, e := grade.Span(cuts, of); lo != 0 || hi != 0 || e != api.ErrArg {
				t.Errorf("Span(%v, %d) = %d, %d, %d, want 0, 0, ErrArg", cuts, of, lo, hi, int(e))
			}
		}
	}
}

// The error of the list comes before that of the grade, and is returned beside grades that are right, too.
func TestSpanWithoutCuts(t *testing.T) {
	for _, cuts := range noCuts {
		for _, of := range append([]int{0, 1, 2, 3}, noGrades...) {
			if lo, hi, e := grade.Span(cuts, of); lo != 0 || hi != 0 || e != api.ErrRules {
				t.Errorf("Span(%v, %d) = %d, %d, %d, want 0, 0, ErrRules", brief(cuts), of, lo, hi, int(e))
			}
		}
	}
}

// P17.3: Count and Reached.

// patterns returns lists of n questions.
func patterns(n int) [][]int {
	each := func(weight func(i int) int) []int {
		l := make([]int, n)
		for i := range l {
			l[i] = weight(i)
		}
		return l
	}
	return [][]int{
		// The noes weigh another sum for each of the answers.
		each(func(i int) int { return 1 << i }),
		each(func(i int) int { return 128 >> i }),
		each(func(int) int { return 0 }),
		each(func(int) int { return 1 }),
		each(func(int) int { return 999 }),
		each(func(int) int { return 1000 }),
		each(func(i int) int { return []int{5, 3, 1, 1000}[i%4] }),
		each(func(i int) int { return i % 2 * 1000 }),
		each(func(i int) int { return 1000 - i }),
		each(func(i int) int { return i / 2 * 7 }),
		each(func(i int) int { return max(0, 1-i) * 1000 }),
		each(func(i int) int { return max(0, i+2-n) * 1000 }),
	}
}

// noQuestions are lists that do not consist of questions.
var noQuestions = [][]int{
	nil, {}, make([]int, 9), make([]int, 10), make([]int, 257), make([]int, 100000), {1, 2, 3, 4, 5, 6, 7, 8, 9},
	{-1}, {1001}, {math.MinInt}, {math.MaxInt}, {-1, 5, 3}, {5, -1, 3}, {5, 3, -1}, {1001, 5, 3}, {5, 1001, 3}, {5, 3, 1001}, {5, 3, 8000}, {math.MinInt, math.MaxInt},
	{1000, 1000, 1000, 1000, 1000, 1000, 1000, 1001}, {0, 0, 0, 0, 0, 0, 0, -1}, {1001, 1001, 1001, 1001, 1001, 1001, 1001, 1001},
}

func TestSomeCounts(t *testing.T) {
	for _, x := range []struct {
		asks, cuts []int
		want       [4]int
	}{
		{[]int{0}, []int{0, 0, 0}, [4]int{2, 0, 0, 0}}, {[]int{1}, []int{0, 0, 0}, [4]int{1, 0, 0, 1}}, {[]int{1}, []int{0, 1, 1}, [4]int{1, 1, 0, 0}},
		{[]int{1}, []int{1, 1, 1}, [4]int{2, 0, 0, 0}}, {[]int{1}, []int{0, 0, 1}, [4]int{1, 0, 1, 0}}, {[]int{1000}, []int{0, 999, 999}, [4]int{1, 0, 0, 1}}, {[]int{1000}, []int{0, 999, 1000}, [4]int{1, 0, 1, 0}},
		{[]int{5, 3, 1}, []int{0, 5, 20}, [4]int{1, 4, 3, 0}}, {[]int{5, 3, 1}, []int{0, 4, 8}, [4]int{1, 3, 3, 1}}, {[]int{5, 3, 1}, []int{8, 8, 8}, [4]int{7, 0, 0, 1}},
		{[]int{5, 3, 1}, []int{9, 9, 9}, [4]int{8, 0, 0, 0}}, {[]int{5, 3, 1}, []int{0, 0, 0}, [4]int{1, 0, 0, 7}}, {[]int{5, 3, 1}, []int{2, 2, 7}, [4]int{2, 0, 4, 2}},
		{[]int{5, 5, 5}, []int{0, 5, 10}, [4]int{1, 3, 3, 1}}, {[]int{5, 5, 5}, []int{4, 9, 14}, [4]int{1, 3, 3, 1}}, {[]int{0, 0, 5}, []int{0, 4, 5}, [4]int{4, 0, 4, 0}},
		{[]int{1, 2, 4, 8, 16, 32, 64, 128}, []int{0, 99, 254}, [4]int{1, 99, 155, 1}}, {[]int{1, 2, 4, 8, 16, 32, 64, 128}, []int{63, 127, 191}, [4]int{64, 64, 64, 64}},
		{[]int{0, 0, 0, 0, 0, 0, 0, 0}, []int{0, 0, 0}, [4]int{256, 0, 0, 0}}, {[]int{1, 1, 1, 1, 1, 1, 1, 1}, []int{1, 4, 7}, [4]int{9, 154, 92, 1}},
		{[]int{1000, 1000, 1000, 1000, 1000, 1000, 1000, 1000}, []int{0, 1000, 7999}, [4]int{1, 8, 246, 1}},
		{[]int{1000, 1000, 1000, 1000, 1000, 1000, 1000, 1000}, []int{0, 1000, 8000}, [4]int{1, 8, 247, 0}},
		{[]int{1000, 1000, 1000, 1000, 1000, 1000, 1000, 1000}, []int{999, 1001, 4000}, [4]int{1, 8, 154, 93}},
		{[]int{1000, 1000, 1000, 1000, 1000, 1000, 1000, 1000}, []int{7999, 7999, 7999}, [4]int{255, 0, 0, 1}},
		{[]int{1000, 1000, 1000, 1000, 1000, 1000, 1000, 1000}, []int{8000, 8000, 8000}, [4]int{256, 0, 0, 0}},
	} {
		if got, e := grade.Count(x.asks, x.cuts); got != x.want || e != api.OK {
			t.Errorf("Count(%v, %v) = %v, %d, want %v", x.asks, x.cuts, got, int(e), x.want)
		}
		reached := [4]bool{x.want[0] > 0, x.want[1] > 0, x.want[2] > 0, x.want[3] > 0}
		if got, e := grade.Reached(x.asks, x.cuts); got != reached || e != api.OK {
			t.Errorf("Reached(%v, %v) = %v, %d, want %v", x.asks, x.cuts, got, int(e), reached)
		}
		compareCounts(t, x.asks, x.cuts)
	}
}

// Cuts at, one below and one above each score that occurs.
func TestCutsAtTheScores(t *testing.T) {
	for n := 1; n <= most; n++ {
		for _, asks := range patterns(n) {
			occur := scores(asks)
			slices.Sort(occur)
			for _, score := range slices.Compact(occur) {
				below, above := max(score-1, 0), min(score+1, worst)
				for _, cuts := range [][]int{{below, score, above}, {below, below, below}, {score, score, score}, {above, above, above}, {0, below, score}, {score, above, worst}} {
					compareCounts(t, asks, cuts)
				}
			}
		}
	}
}

func TestSomeCutsForEachNumberOfQuestions(t *testing.T) {
	for n := 1; n <= most; n++ {
		for _, asks := range patterns(n) {
			for _, cuts := range goodCuts {
				compareCounts(t, asks, cuts)
			}
		}
	}
}

// Each weight of a single question, with cuts that lie around it.
func TestEachWeight(t *testing.T) {
	for weight := range 1001 {
		compareCounts(t, []int{weight}, []int{max(weight-1, 0), weight, weight + 1})
		compareCounts(t, []int{weight}, []int{0, max(weight-1, 0), weight})
		compareCounts(t, []int{weight, weight}, []int{weight, weight, 2 * weight})
	}
}

func TestDrawnQuestionsAndCuts(t *testing.T) {
	r := rand.New(rand.NewSource(176))
	for range 4000 {
		asks := drawnQuestions(r, 1+r.Intn(most))
		compareCounts(t, asks, drawnCuts(r))
		compareCounts(t, asks, cutsNear(r, asks))
	}
}

// Both errors are the same, and no number is returned beside them.
func TestCountsWithoutQuestionsOrCuts(t *testing.T) {
	refused := func(asks, cuts []int) {
		if got, e := grade.Count(asks, cuts); got != [4]int{} || e != api.ErrRules {
			t.Errorf("Count(%v, %v) = %v, %d, want zeros, ErrRules", brief(asks), brief(cuts), got, int(e))
		}
		if got, e := grade.Reached(asks, cuts); got != [4]bool{} || e != api.ErrRules {
			t.Errorf("Reached(%v, %v) = %v, %d, want none, ErrRules", brief(asks), brief(cuts), got, int(e))
		}
	}
	for _, asks := range noQuestions {
		for _, cuts := range append(slices.Clone(goodCuts), noCuts...) {
			refused(asks, cuts)
		}
	}
	for n := 1; n <= most; n++ {
		for _, asks := range patterns(n) {
			for _, cuts := range noCuts {
				refused(asks, cuts)
			}
		}
	}
}

// A number that is wrong, at each place of the questions and of the cuts.
func TestWrongNumbersOfQuestionsAndCuts(t *testing.T) {
	r := rand.New(rand.NewSource(177))
	for n := 1; n <= most; n++ {
		for _, wrong := range append([]int{1001, 1002, 7999, 8000}, noScores...) {
			asks := drawnQuestions(r, n)
			asks[r.Intn(n)] = wrong
			compareCounts(t, asks, goodCuts[r.Intn(len(goodCuts))])
		}
		for _, wrong := range noScores {
			for place := range 3 {
				cuts := slices.Clone(goodCuts[r.Intn(len(goodCuts))])
				cuts[place] = wrong
				compareCounts(t, drawnQuestions(r, n), cuts)
			}
		}
	}
}

// P17.4: steps.

func TestAGreaterScoreNeverHasABetterGrade(t *testing.T) {
	r := rand.New(rand.NewSource(178))
	for range 300 {
		cuts, last := drawnCuts(r), 0
		for score := range worst + 1 {
			got, e := grade.Of(cuts, score)
			if e != api.OK || got < last || got > 3 {
				t.Errorf("Of(%v, %d) = %d, %d, but one below it %d", cuts, score, got, int(e), last)
			}
			last = got
		}
	}
}

func TestWithGreaterCutsNoScoreHasAWorseGrade(t *testing.T) {
	r := rand.New(rand.NewSource(179))
	for range 3000 {
		cuts, greater := drawnCuts(r), drawnCuts(r)
		for i, cut := range cuts {
			cuts[i], greater[i] = min(cut, greater[i]), max(cut, greater[i])
		}
		for range 20 {
			score := drawnScore(r)
			with, e := grade.Of(cuts, score)
			after, code := grade.Of(greater, score)
			if e != api.OK || code != api.OK || after > with {
				t.Errorf("Of(%v, %d) = %d, %d, but Of(%v, %d) = %d, %d", greater, score, after, int(code), cuts, score, with, int(e))
			}
		}
	}
}

// So many answers have a grade or a better one: with greater cuts no fewer of them.
func TestWithGreaterCutsNoFewerAnswersAreBetter(t *testing.T) {
	r := rand.New(rand.NewSource(180))
	for range 1000 {
		asks := drawnQuestions(r, 1+r.Intn(most))
		cuts, greater := cutsNear(r, asks), cutsNear(r, asks)
		for i, cut := range cuts {
			cuts[i], greater[i] = min(cut, greater[i]), max(cut, greater[i])
		}
		with, _ := grade.Count(asks, cuts)
		after, _ := grade.Count(asks, greater)
		less, more := 0, 0
		for of := range 4 {
			less, more = less+with[of], more+after[of]
			if more < less {
				t.Errorf("Count(%v, %v) = %v, but Count(%v, %v) = %v", asks, greater, after, asks, cuts, with)
			}
		}
	}
}

// P17.5: all.

// holding returns the grades in whose span a score lies.
func holding(t *testing.T, cuts []int, score int) []int {
	t.Helper()
	var grades []int
	for of := range 4 {
		lo, hi, e := grade.Span(cuts, of)
		if e != api.OK {
			t.Errorf("Span(%v, %d): %d", cuts, of, int(e))
		}
		if lo <= score && score <= hi {
			grades = append(grades, of)
		}
	}
	return grades
}

func TestEachScoreLiesInTheSpanOfItsGradeAlone(t *testing.T) {
	for _, cuts := range goodCuts {
		for score := range worst + 1 {
			of, _ := grade.Of(cuts, score)
			if in := holding(t, cuts, score); !slices.Equal(in, []int{of}) {
				t.Errorf("with the cuts %v the score %d has the grade %d, and lies in the spans of %v", cuts, score, of, in)
			}
		}
	}
	r := rand.New(rand.NewSource(181))
	for range 5000 {
		cuts := drawnCuts(r)
		for _, score := range []int{0, 1, 7999, 8000, drawnScore(r), max(cuts[0]-1, 0), cuts[0], cuts[1], cuts[2], min(cuts[2]+1, worst)} {
			of, _ := grade.Of(cuts, score)
			if in := holding(t, cuts, score); !slices.Equal(in, []int{of}) {
				t.Errorf("with the cuts %v the score %d has the grade %d, and lies in the spans of %v", cuts, score, of, in)
			}
		}
	}
}

func TestTheSpansAreAllScores(t *testing.T) {
	r := rand.New(rand.NewSource(182))
	for range 5000 {
		cuts, all, next := drawnCuts(r), 0, 0
		for of := range 4 {
			lo, hi, _ := grade.Span(cuts, of)
			all += hi - lo + 1
			if lo == 1 && hi == 0 {
				continue
			}
			if lo != next || hi < lo || hi > worst {
				t.Errorf("Span(%v, %d) = %d, %d, but those before it end at %d", cuts, of, lo, hi, next-1)
			}
			next = hi + 1
		}
		if all != 8001 || next != 8001 {
			t.Errorf("the spans of %v hold %d scores and end at %d", cuts, all, next-1)
		}
	}
}

func TestTheCountsAreAllAnswers(t *testing.T) {
	r := rand.New(rand.NewSource(183))
	for range 3000 {
		asks := drawnQuestions(r, 1+r.Intn(most))
		cuts := cutsNear(r, asks)
		counts, e := grade.Count(asks, cuts)
		reached, code := grade.Reached(asks, cuts)
		if counts[0]+counts[1]+counts[2]+counts[3] != 1<<len(asks) || e != api.OK || code != api.OK {
			t.Errorf("Count(%v, %v) = %v, %d, and Reached returns %d", asks, cuts, counts, int(e), int(code))
		}
		for of, n := range counts {
			if n < 0 || reached[of] != (n > 0) {
				t.Errorf("Count(%v, %v) = %v, but Reached returns %v", asks, cuts, counts, reached)
			}
			if lo, hi, _ := grade.Span(cuts, of); n > 0 && lo > hi {
				t.Errorf("Count(%v, %v) = %v, but no score has the grade %d", asks, cuts, counts, of)
			}
		}
		// All yes has the best grade that is reached, since its score is 0.
		if !reached[0] {
			t.Errorf("Reached(%v, %v) = %v", asks, cuts, reached)
		}
	}
}

// Rule 4: arguments are not modified, nor is the memory beyond their length.

func TestCutsAndWhatIsBehindThemStay(t *testing.T) {
	for _, memory := range [][]int{{0, 5, 20, 20, 8000, 1, 7}, {4, 4, 9, 8, 7, 6, 5}, {20, 5, 0, -1, 8001, 3, 3}, {0, 0, 8000, 8001, 0, 0, 0}, make([]int, 7)} {
		before := slices.Clone(memory)
		for n := range len(memory) + 1 {
			cuts := memory[:n]
			compareCheck(t, cuts)
			for _, x := range []int{math.MinInt, -1, 0, 1, 2, 3, 4, 5, 20, 8000, 8001, math.MaxInt} {
				compareOf(t, cuts, x)
				compareSpan(t, cuts, x)
			}
			compareCounts(t, []int{5, 3, 1}, cuts)
			compareCounts(t, nil, cuts)
			if !slices.Equal(memory, before) {
				t.Fatalf("after calls with %d cuts %v has become %v", n, before, memory)
			}
		}
	}
}

func TestQuestionsAndWhatIsBehindThemStay(t *testing.T) {
	for _, memory := range [][]int{{5, 3, 1, 1000, 0, 0, 7, 7, 1, 2, 3}, {1000, 999, 1, 0, 1000, 999, 1, 0, 0, 0, 0}, {7, 6, 5, 4, 3, -1, 1001, 0, 8, 9, 10}, make([]int, 11)} {
		before := slices.Clone(memory)
		for n := range len(memory) + 1 {
			for _, cuts := range [][]int{{0, 5, 20}, {4, 4, 9}, {20, 5, 0}, nil} {
				compareCounts(t, memory[:n], cuts)
			}
			if !slices.Equal(memory, before) {
				t.Fatalf("after calls with %d questions %v has become %v", n, before, memory)
			}
		}
	}
}

// What lies behind a list's length counts as little as if it were not there.
func TestListsEndAtTheirLength(t *testing.T) {
	memory := []int{0, 5, 20, 3, 8001, -1}
	for n := range len(memory) + 1 {
		want := api.ErrRules
		if n == 3 {
			want = api.OK
		}
		if e := grade.Check(memory[:n]); e != want {
			t.Errorf("Check of the first %d of %v = %d, want %d", n, memory, int(e), int(want))
		}
	}
}

// Both arguments can be the same memory.
func TestQuestionsThatAreTheCuts(t *testing.T) {
	for _, memory := range [][]int{{0, 5, 20}, {1, 1, 2, 3}, {0, 0, 0, 0}, {1, 2, 3, 4, 5, 6, 7, 8}, {1000, 1000, 1000}, {999, 1000, 1001}, {3, 2, 1}} {
		for from := range memory {
			for to := from; to <= len(memory); to++ {
				compareCounts(t, memory, memory[from:to])
				compareCounts(t, memory[from:to], memory)
			}
		}
	}
}

func TestCallsDoNotDependOnWhatWasCalledBefore(t *testing.T) {
	asks, cuts := []int{5, 3, 1}, []int{0, 5, 20}
	all := func() {
		compareCheck(t, cuts)
		compareCounts(t, asks, cuts)
		compareCounts(t, nil, cuts)
		compareCounts(t, asks, nil)
		for of := -1; of <= 4; of++ {
			compareSpan(t, cuts, of)
			compareSpan(t, cuts[:2], of)
		}
		for score := -1; score <= 25; score++ {
			compareOf(t, cuts, score)
			compareOf(t, cuts[:2], score)
		}
		compareCounts(t, asks, cuts)
	}
	for range 3 {
		all()
	}
	// The same memory holds other questions and other cuts now.
	asks[1], cuts[1] = 9, 17
	all()
	asks[1], cuts[1] = -1, 21
	all()
	asks[1], cuts[1] = 3, 5
	all()
}

// Results that are changed do not change those of other calls.
func TestResultsAreNew(t *testing.T) {
	counts, _ := grade.Count([]int{5, 3, 1}, []int{0, 5, 20})
	reached, _ := grade.Reached([]int{5, 3, 1}, []int{0, 5, 20})
	counts[0], reached[0] = 77, false
	compareCounts(t, []int{5, 3, 1}, []int{0, 5, 20})
}
