package quiz_test

import (
	"fmt"
	"math"
	"math/rand"
	"slices"
	"strconv"
	"testing"

	"backhaul/api"
	"backhaul/quiz"
)

const (
	most     = 8
	heaviest = 1000
)

// noWeights are numbers that are no weights: around the limits, around what 16, 32 and 64 bits hold, and where fewer bits hold a weight.
var noWeights = []int{
	math.MinInt, math.MinInt + 1, math.MinInt + 5, -1 << 62, -1 << 32, 5 - 1<<32, math.MinInt32, -1 << 16, 5 - 1<<16, 5 - 1<<10, -1001, -1000, -999, -2, -1,
	1001, 1002, 1 << 10, 5 + 1<<10, 2000, 1 << 16, 5 + 1<<16, math.MaxInt32, 1 << 32, 5 + 1<<32, 1 << 62, math.MaxInt - 1, math.MaxInt,
}

// noQuestions are lists that do not consist of questions.
var noQuestions = [][]int{
	nil, {},
	make([]int, 9), make([]int, 10), make([]int, 16), make([]int, 256), make([]int, 257), make([]int, 1<<16+1), make([]int, 100000),
	{1, 2, 3, 4, 5, 6, 7, 8, 9}, {1000, 1000, 1000, 1000, 1000, 1000, 1000, 1000, 1000},
	// The first eight of these, or the last eight, are no questions either.
	{0, 0, 0, 0, 0, 0, 0, 0, -1}, {0, 0, 0, 0, 0, 0, 0, 0, 1001}, {-1, 0, 0, 0, 0, 0, 0, 0, 0}, {1001, 0, 0, 0, 0, 0, 0, 0, 0},
	{-1}, {1001}, {math.MinInt}, {math.MaxInt},
	{-1, 5}, {5, -1}, {5, 1001}, {1001, 5}, {-1, 5, 3}, {5, -1, 3}, {5, 3, -1}, {1001, 5, 3}, {5, 1001, 3}, {5, 3, 1001},
	{-1, -1}, {1001, 1001}, {-1, -1, -1, -1, -1, -1, -1, -1}, {1001, 1001, 1001, 1001, 1001, 1001, 1001, 1001},
	// The sum or the mean of these is that of weights, and so is the sum as it wraps around.
	{-1, 1}, {1, -1}, {-1, 1001}, {1001, -1}, {-1000, 1000}, {2000, -1000, 0}, {math.MinInt, math.MaxInt}, {math.MinInt, math.MaxInt, 1},
	{math.MinInt, math.MinInt}, {math.MaxInt, math.MaxInt, 2}, {1 << 62, 1 << 62, 1 << 62, 1 << 62},
	{0, 1, 2, math.MinInt, math.MaxInt, 3, 4, 5},
}

// patterns returns lists of n questions.
func patterns(n int) [][]int {
	each := func(weight func(i int) int) []int {
		l := make([]int, n)
		for i := range l {
			l[i] = weight(i)
		}
		return l
	}
	return [][]int{
		// The noes weigh another sum for each of the answers.
		each(func(i int) int { return 1 << i }),
		each(func(i int) int { return 128 >> i }),
		each(func(int) int { return 0 }),
		each(func(int) int { return 1 }),
		each(func(int) int { return 999 }),
		each(func(int) int { return 1000 }),
		each(func(i int) int { return []int{5, 3, 1, 1000}[i%4] }),
		each(func(i int) int { return i % 2 * 1000 }),
		each(func(i int) int { return (i + 1) % 2 * 999 }),
		each(func(i int) int { return 1000 - i }),
		each(func(i int) int { return i / 2 * 7 }),
		each(func(i int) int { return max(0, 1-i) * 1000 }),
		each(func(i int) int { return max(0, i+2-n) * 1000 }),
	}
}

// drawnQuestions returns n questions, some of which are equal, 0 or 1000.
func drawnQuestions(r *rand.Rand, n int) []int {
	l := make([]int, n)
	for i := range l {
		l[i] = [...]int{0, 1, 2, 3, 999, 1000, r.Intn(10), r.Intn(1001), r.Intn(1001), l[r.Intn(i+1)]}[r.Intn(10)]
	}
	return l
}

// noAnswers returns numbers that are no answers to n questions: around the limits, around what 8, 16, 32 and 64 bits hold, and where fewer bits hold answers.
func noAnswers(n int) []int {
	two := 1 << n
	return []int{
		math.MinInt, math.MinInt + 1, math.MinInt + two, -1 << 62, -1 << 32, 1 - 1<<32, math.MinInt32, 1 - 1<<16, -256, -255, -2 * two, -two - 1, -two, -two + 1, -2, -1,
		two, two + 1, two + 2, 2*two - 1, 2 * two, 256, 257, 1 << 16, 1<<16 + 1, math.MaxInt32, 1 << 32, 1<<32 + 1, 1 << 62, math.MaxInt - 1, math.MaxInt,
	}
}

// noNumbers returns numbers that none of n questions has.
func noNumbers(n int) []int {
	return []int{
		math.MinInt, math.MinInt + 1, -1 << 32, 1 - 1<<32, math.MinInt32, -256, -64, -63, -9, -8, -n - 1, -n, -2, -1,
		n, n + 1, n + 2, 8, 9, 63, 64, 65, 128, 256, 1 << 16, math.MaxInt32, 1 << 32, 1<<32 + 1, 1 << 62, math.MaxInt - 1, math.MaxInt,
	}
}

// isQuestions is the definition of questions.
func isQuestions(asks []int) bool {
	if len(asks) == 0 || len(asks) >= 9 {
		return false
	}
	right := 0
	for _, weight := range asks {
		if 0 <= weight && weight <= 1000 {
			right++
		}
	}
	return right == len(asks)
}

// brief is a list that is shown by its first elements, and its length if it has others.
type brief []int

func (l brief) String() string {
	if len(l) <= 12 {
		return fmt.Sprint([]int(l))
	}
	return fmt.Sprintf("%v and so on, %d in all", []int(l[:12]), len(l))
}

// checkOf is the definition of Check.
func checkOf(asks []int) api.Errno {
	if isQuestions(asks) {
		return api.OK
	}
	return api.ErrRules
}

// worstOf is the definition of Worst.
func worstOf(asks []int) int {
	sum := 0
	if isQuestions(asks) {
		for _, weight := range asks {
			sum += weight
		}
	}
	return sum
}

// said returns, for each of n questions, whether it is answered by yes, by the binary digits of the answers, and whether these are answers to n questions.
func said(n, answers int) ([]bool, bool) {
	digits := strconv.FormatInt(int64(answers), 2)
	if digits[0] == '-' || len(digits) > n {
		return nil, false
	}
	yes := make([]bool, n)
	for i := range len(digits) {
		yes[len(digits)-1-i] = digits[i] == '1'
	}
	return yes, true
}

// failedOf is the definition of Failed.
func failedOf(asks []int, answers int) ([]int, api.Errno) {
	if !isQuestions(asks) {
		return nil, api.ErrRules
	}
	yes, ok := said(len(asks), answers)
	if !ok {
		return nil, api.ErrArg
	}
	var l []int
	for question, is := range yes {
		if !is {
			l = append(l, question)
		}
	}
	return l, api.OK
}

// scoreOf is the definition of Score.
func scoreOf(asks []int, answers int) (int, api.Errno) {
	if !isQuestions(asks) {
		return 0, api.ErrRules
	}
	yes, ok := said(len(asks), answers)
	if !ok {
		return 0, api.ErrArg
	}
	score := 0
	for question, weight := range asks {
		if !yes[question] {
			score += weight
		}
	}
	return score, api.OK
}

// answersOf is the definition of Answers: sorting numbers that are strictly increasing and dropping those that are equal leaves them as they are.
func answersOf(asks, failed []int) (int, api.Errno) {
	if !isQuestions(asks) {
		return 0, api.ErrRules
	}
	sorted := slices.Clone(failed)
	slices.Sort(sorted)
	if !slices.Equal(slices.Compact(sorted), failed) || len(failed) > 0 && (slices.Min(failed) < 0 || slices.Max(failed) >= len(asks)) {
		return 0, api.ErrArg
	}
	answers, power := 0, 1
	for question := range asks {
		if !slices.Contains(failed, question) {
			answers += power
		}
		power += power
	}
	return answers, api.OK
}

// compareList compares Check and Worst with their definitions.
func compareList(t *testing.T, asks []int) {
	t.Helper()
	before := slices.Clone(asks)
	if got, want := quiz.Check(asks), checkOf(before); got != want {
		t.Errorf("Check(%v) = %d, want %d", brief(before), int(got), int(want))
	}
	if got, want := quiz.Worst(asks), worstOf(before); got != want {
		t.Errorf("Worst(%v) = %d, want %d", brief(before), got, want)
	}
	if !slices.Equal(asks, before) {
		t.Fatalf("%v has been changed into %v", brief(before), brief(asks))
	}
}

// compareAnswers compares Score and Failed with their definitions.
func compareAnswers(t *testing.T, asks []int, answers int) {
	t.Helper()
	before := slices.Clone(asks)
	score, code := scoreOf(before, answers)
	if got, e := quiz.Score(asks, answers); got != score || e != code {
		t.Errorf("Score(%v, %d) = %d, %d, want %d, %d", brief(before), answers, got, int(e), score, int(code))
	}
	failed, code := failedOf(before, answers)
	if got, e := quiz.Failed(asks, answers); !slices.Equal(got, failed) || e != code {
		t.Errorf("Failed(%v, %d) = %v, %d, want %v, %d", brief(before), answers, got, int(e), failed, int(code))
	}
	if !slices.Equal(asks, before) {
		t.Fatalf("%v has been changed into %v", brief(before), brief(asks))
	}
}

// compareFailed compares Answers with its definition.
func compareFailed(t *testing.T, asks, failed []int) {
	t.Helper()
	before, numbers := slices.Clone(asks), slices.Clone(failed)
	answers, code := answersOf(before, numbers)
	if got, e := quiz.Answers(asks, failed); got != answers || e != code {
		t.Errorf("Answers(%v, %v) = %d, %d, want %d, %d", brief(before), brief(numbers), got, int(e), answers, int(code))
	}
	if !slices.Equal(asks, before) || !slices.Equal(failed, numbers) {
		t.Fatalf("%v and %v have been changed into %v and %v", brief(before), brief(numbers), brief(asks), brief(failed))
	}
}

// refused checks that Answers returns ErrArg.
func refused(t *testing.T, asks, failed []int) {
	t.Helper()
	if got, e := quiz.Answers(asks, failed); got != 0 || e != api.ErrArg {
		t.Errorf("Answers(%v, %v) = %d, %d, want 0, ErrArg", asks, brief(failed), got, int(e))
	}
	compareFailed(t, asks, failed)
}

// sets calls f with each set of numbers below n, in increasing order.
func sets(n int, f func(l []int)) {
	if n == 0 {
		f(nil)
		return
	}
	sets(n-1, func(l []int) {
		f(l)
		f(append(slices.Clone(l), n-1))
	})
}

// lists calls f with each list of n of the numbers.
func lists(n int, numbers []int, f func(l []int)) {
	if n == 0 {
		f(nil)
		return
	}
	lists(n-1, numbers, func(l []int) {
		for _, x := range numbers {
			f(append(slices.Clone(l), x))
		}
	})
}

// upTo returns the numbers from 0 to n - 1.
func upTo(n int) []int {
	l := make([]int, n)
	for i := range l {
		l[i] = i
	}
	return l
}

func TestTheLimits(t *testing.T) {
	if api.MaxAsks != most {
		t.Errorf("MaxAsks is %d", api.MaxAsks)
	}
}

// The examples of the chapter.

func TestTheExamples(t *testing.T) {
	if got, e := quiz.Score([]int{5, 3, 1, 1000}, 13); got != 3 || e != api.OK {
		t.Errorf("for the weights 5, 3, 1, 1000 and the answers 13: %d, %d", got, int(e))
	}
	if got, e := quiz.Failed([]int{1, 1, 1, 1}, 10); !slices.Equal(got, []int{0, 2}) || e != api.OK {
		t.Errorf("for four questions and the answers 10: %v, %d", got, int(e))
	}
	if got, e := quiz.Answers([]int{1, 1, 1, 1}, []int{0, 2}); got != 10 || e != api.OK {
		t.Errorf("for four questions and 0, 2: %d, %d", got, int(e))
	}
	if got, e := quiz.Score([]int{5, 3, 1}, 5); got != 3 || e != api.OK {
		t.Errorf("for the weights 5, 3, 1 and the answers 5: %d, %d", got, int(e))
	}
}

// P16.1: Check and Worst.

func TestListsOfQuestions(t *testing.T) {
	for _, x := range []struct {
		asks  []int
		worst int
	}{
		{[]int{0}, 0}, {[]int{1}, 1}, {[]int{2}, 2}, {[]int{500}, 500}, {[]int{999}, 999}, {[]int{1000}, 1000},
		{[]int{0, 0}, 0}, {[]int{0, 1000}, 1000}, {[]int{1000, 0}, 1000}, {[]int{1000, 1000}, 2000}, {[]int{7, 7}, 14},
		{[]int{5, 3, 1}, 9}, {[]int{5, 3, 1, 1000}, 1009}, {[]int{1, 999, 0}, 1000}, {[]int{999, 999, 999}, 2997},
		{[]int{1, 2, 3, 4, 5, 6, 7}, 28}, {[]int{0, 0, 0, 0, 0, 0, 0}, 0},
		{[]int{0, 0, 0, 0, 0, 0, 0, 0}, 0}, {[]int{1, 1, 1, 1, 1, 1, 1, 1}, 8}, {[]int{1000, 1000, 1000, 1000, 1000, 1000, 1000, 1000}, 8000},
		{[]int{999, 999, 999, 999, 999, 999, 999, 999}, 7992}, {[]int{1, 2, 4, 8, 16, 32, 64, 128}, 255}, {[]int{0, 1, 999, 1000, 0, 1, 999, 1000}, 4000},
		{[]int{1000, 0, 0, 0, 0, 0, 0, 0}, 1000}, {[]int{0, 0, 0, 0, 0, 0, 0, 1000}, 1000}, {[]int{0, 0, 0, 1, 0, 0, 0, 0}, 1},
	} {
		if e := quiz.Check(x.asks); e != api.OK {
			t.Errorf("Check(%v) = %d, want OK", x.asks, int(e))
		}
		if got := quiz.Worst(x.asks); got != x.worst {
			t.Errorf("Worst(%v) = %d, want %d", x.asks, got, x.worst)
		}
		compareList(t, x.asks)
	}
}

func TestListsThatAreNoQuestions(t *testing.T) {
	for _, asks := range noQuestions {
		if e := quiz.Check(asks); e != api.ErrRules {
			t.Errorf("Check(%v) = %d, want ErrRules", brief(asks), int(e))
		}
		if got := quiz.Worst(asks); got != 0 {
			t.Errorf("Worst(%v) = %d, want 0", brief(asks), got)
		}
		compareList(t, asks)
	}
}

func TestTheNumberOfQuestions(t *testing.T) {
	for n := range 300 {
		for _, weight := range []int{0, 1, 999, 1000} {
			asks := slices.Repeat([]int{weight}, n)
			code, worst := api.ErrRules, 0
			if 1 <= n && n <= 8 {
				code, worst = api.OK, n*weight
			}
			if e, got := quiz.Check(asks), quiz.Worst(asks); e != code || got != worst {
				t.Errorf("%d weights %d: %d, %d, want %d, %d", n, weight, int(e), got, int(code), worst)
			}
		}
	}
}

// Each number at each place, also beside others that are no weights.
func TestANumberAtEachPlace(t *testing.T) {
	for n := 1; n <= most; n++ {
		for _, asks := range patterns(n) {
			for place := range asks {
				rest := worstOf(asks) - asks[place]
				for weight := range heaviest + 1 {
					l := slices.Clone(asks)
					l[place] = weight
					if e, got := quiz.Check(l), quiz.Worst(l); e != api.OK || got != rest+weight {
						t.Errorf("%v: %d, %d, want OK, %d", l, int(e), got, rest+weight)
					}
				}
				for _, wrong := range noWeights {
					l := slices.Clone(asks)
					l[place] = wrong
					if e, got := quiz.Check(l), quiz.Worst(l); e != api.ErrRules || got != 0 {
						t.Errorf("%v: %d, %d, want ErrRules, 0", l, int(e), got)
					}
				}
			}
		}
	}
}

func TestTwoNumbersThatAreNoWeights(t *testing.T) {
	for n := 2; n <= most; n++ {
		for first := range n {
			for second := first + 1; second < n; second++ {
				for _, one := range noWeights {
					for _, other := range noWeights {
						l := slices.Repeat([]int{7}, n)
						l[first], l[second] = one, other
						if e, got := quiz.Check(l), quiz.Worst(l); e != api.ErrRules || got != 0 {
							t.Errorf("%v: %d, %d, want ErrRules, 0", l, int(e), got)
						}
					}
				}
			}
		}
	}
}

func TestSmallLists(t *testing.T) {
	numbers := []int{math.MinInt, -1, 0, 1, 999, 1000, 1001, math.MaxInt}
	for n := range 5 {
		lists(n, numbers, func(l []int) { compareList(t, l) })
	}
	for n := range 11 {
		lists(n, []int{0, 1000}, func(l []int) { compareList(t, l) })
	}
}

func TestDrawnLists(t *testing.T) {
	r := rand.New(rand.NewSource(161))
	for range 5000 {
		l := drawnQuestions(r, r.Intn(11))
		compareList(t, l)
		if len(l) > 0 {
			l[r.Intn(len(l))] = noWeights[r.Intn(len(noWeights))]
			compareList(t, l)
		}
	}
}

// P16.2: Score and Failed.

func TestScoreAndFailedOfSomeAnswers(t *testing.T) {
	for _, x := range []struct {
		asks    []int
		answers int
		score   int
		failed  []int
	}{
		{[]int{7}, 0, 7, []int{0}},
		{[]int{7}, 1, 0, nil},
		{[]int{0}, 0, 0, []int{0}},
		{[]int{1000}, 0, 1000, []int{0}},
		{[]int{5, 3}, 0, 8, []int{0, 1}},
		{[]int{5, 3}, 1, 3, []int{1}},
		{[]int{5, 3}, 2, 5, []int{0}},
		{[]int{5, 3}, 3, 0, nil},
		{[]int{5, 3, 1}, 0, 9, []int{0, 1, 2}},
		{[]int{5, 3, 1}, 1, 4, []int{1, 2}},
		{[]int{5, 3, 1}, 2, 6, []int{0, 2}},
		{[]int{5, 3, 1}, 3, 1, []int{2}},
		{[]int{5, 3, 1}, 4, 8, []int{0, 1}},
		{[]int{5, 3, 1}, 5, 3, []int{1}},
		{[]int{5, 3, 1}, 6, 5, []int{0}},
		{[]int{5, 3, 1}, 7, 0, nil},
		{[]int{5, 3, 1, 1000}, 13, 3, []int{1}},
		{[]int{5, 3, 1, 1000}, 10, 6, []int{0, 2}},
		{[]int{5, 3, 1, 1000}, 7, 1000, []int{3}},
		{[]int{5, 3, 1, 1000}, 8, 9, []int{0, 1, 2}},
		{[]int{5, 3, 1, 1000}, 15, 0, nil},
		{[]int{4, 4, 4}, 2, 8, []int{0, 2}},
		{[]int{4, 0, 4}, 2, 8, []int{0, 2}},
		{[]int{0, 9, 0}, 2, 0, []int{0, 2}},
		{[]int{0, 0, 0, 0, 0, 0, 0, 0}, 0, 0, []int{0, 1, 2, 3, 4, 5, 6, 7}},
		{[]int{1000, 1000, 1000, 1000, 1000, 1000, 1000, 1000}, 0, 8000, []int{0, 1, 2, 3, 4, 5, 6, 7}},
		{[]int{1000, 1000, 1000, 1000, 1000, 1000, 1000, 1000}, 255, 0, nil},
		{[]int{1, 2, 4, 8, 16, 32, 64, 128}, 127, 128, []int{7}},
		{[]int{1, 2, 4, 8, 16, 32, 64, 128}, 128, 127, []int{0, 1, 2, 3, 4, 5, 6}},
		{[]int{1, 2, 4, 8, 16, 32, 64, 128}, 170, 85, []int{0, 2, 4, 6}},
		{[]int{1, 2, 4, 8, 16, 32, 64, 128}, 254, 1, []int{0}},
	} {
		if got, e := quiz.Score(x.asks, x.answers); got != x.score || e != api.OK {
			t.Errorf("Score(%v, %d) = %d, %d, want %d", x.asks, x.answers, got, int(e), x.score)
		}
		if got, e := quiz.Failed(x.asks, x.answers); !slices.Equal(got, x.failed) || e != api.OK {
			t.Errorf("Failed(%v, %d) = %v, %d, want %v", x.asks, x.answers, got, int(e), x.failed)
		}
		compareAnswers(t, x.asks, x.answers)
	}
}

func TestAllAnswers(t *testing.T) {
	for n := 1; n <= most; n++ {
		for _, asks := range patterns(n) {
			for answers := -2; answers <= 1<<n+2; answers++ {
				compareAnswers(t, asks, answers)
			}
		}
	}
}

func TestNumbersThatAreNoAnswers(t *testing.T) {
	for n := 1; n <= most; n++ {
		for _, asks := range patterns(n) {
			for _, answers := range noAnswers(n) {
				if got, e := quiz.Score(asks, answers); got != 0 || e != api.ErrArg {
					t.Errorf("Score(%v, %d) = %d, %d, want 0, ErrArg", asks, answers, got, int(e))
				}
				if got, e := quiz.Failed(asks, answers); len(got) != 0 || e != api.ErrArg {
					t.Errorf("Failed(%v, %d) = %v, %d, want none, ErrArg", asks, answers, got, int(e))
				}
				compareAnswers(t, asks, answers)
			}
		}
	}
}

// The greatest answers are those to the questions that there are, not to as many as there may be.
func TestTheGreatestAnswers(t *testing.T) {
	for n := 1; n <= most; n++ {
		asks := slices.Repeat([]int{3}, n)
		for answers, want := range map[int]api.Errno{1<<n - 1: api.OK, 1 << n: api.ErrArg} {
			if _, e := quiz.Score(asks, answers); e != want {
				t.Errorf("Score(%v, %d): %d, want %d", asks, answers, int(e), int(want))
			}
			if _, e := quiz.Failed(asks, answers); e != want {
				t.Errorf("Failed(%v, %d): %d, want %d", asks, answers, int(e), int(want))
			}
		}
	}
}

func TestAllYesAndAllNo(t *testing.T) {
	for n := 1; n <= most; n++ {
		for _, asks := range patterns(n) {
			if got, e := quiz.Score(asks, 1<<n-1); got != 0 || e != api.OK {
				t.Errorf("Score(%v, all yes) = %d, %d", asks, got, int(e))
			}
			if got, e := quiz.Failed(asks, 1<<n-1); len(got) != 0 || e != api.OK {
				t.Errorf("Failed(%v, all yes) = %v, %d", asks, got, int(e))
			}
			if got, e := quiz.Score(asks, 0); got != worstOf(asks) || e != api.OK {
				t.Errorf("Score(%v, all no) = %d, %d", asks, got, int(e))
			}
			if got, e := quiz.Failed(asks, 0); !slices.Equal(got, upTo(n)) || e != api.OK {
				t.Errorf("Failed(%v, all no) = %v, %d", asks, got, int(e))
			}
		}
	}
}

// The error of the list comes before that of the answers, and is returned beside answers that are right, too.
func TestScoreAndFailedOfNoQuestions(t *testing.T) {
	for _, asks := range noQuestions {
		for _, answers := range append(noAnswers(min(len(asks), most)), 0, 1, 2, 3, 5, 7, 15, 127, 254, 255) {
			if got, e := quiz.Score(asks, answers); got != 0 || e != api.ErrRules {
				t.Errorf("Score(%v, %d) = %d, %d, want 0, ErrRules", brief(asks), answers, got, int(e))
			}
			if got, e := quiz.Failed(asks, answers); len(got) != 0 || e != api.ErrRules {
				t.Errorf("Failed(%v, %d) = %v, %d, want none, ErrRules", brief(asks), answers, got, int(e))
			}
		}
	}
}

// A weight that is none counts also where its question is answered by yes.
func TestANumberThatIsNoWeightAtEachPlace(t *testing.T) {
	for n := 1; n <= most; n++ {
		for place := range n {
			for _, wrong := range noWeights {
				asks := slices.Repeat([]int{7}, n)
				asks[place] = wrong
				for _, answers := range []int{-1, 0, 1, 1 << place, 1<<n - 1, 1<<n - 1 - 1<<place, 1 << n, math.MinInt, math.MaxInt} {
					compareAnswers(t, asks, answers)
					if _, e := quiz.Score(asks, answers); e != api.ErrRules {
						t.Errorf("Score(%v, %d): %d, want ErrRules", asks, answers, int(e))
					}
				}
			}
		}
	}
}

func TestDrawnAnswers(t *testing.T) {
	r := rand.New(rand.NewSource(162))
	for range 5000 {
		asks := drawnQuestions(r, 1+r.Intn(most))
		if r.Intn(10) == 0 {
			asks[r.Intn(len(asks))] = noWeights[r.Intn(len(noWeights))]
		}
		compareAnswers(t, asks, r.Intn(1<<len(asks)))
		compareAnswers(t, asks, r.Intn(1<<len(asks)+20)-10)
		compareAnswers(t, asks, int(r.Uint64()))
	}
}

// P16.3: Answers.

func TestAnswersOfSomeNumbers(t *testing.T) {
	for _, x := range []struct {
		n      int
		failed []int
		want   int
		e      api.Errno
	}{
		{1, nil, 1, api.OK}, {1, []int{}, 1, api.OK}, {1, []int{0}, 0, api.OK},
		{4, nil, 15, api.OK}, {4, []int{}, 15, api.OK}, {4, []int{0}, 14, api.OK}, {4, []int{3}, 7, api.OK}, {4, []int{0, 2}, 10, api.OK},
		{4, []int{1, 3}, 5, api.OK}, {4, []int{0, 1, 2}, 8, api.OK}, {4, []int{0, 1, 2, 3}, 0, api.OK},
		{8, nil, 255, api.OK}, {8, []int{}, 255, api.OK}, {8, []int{7}, 127, api.OK}, {8, []int{0, 7}, 126, api.OK}, {8, []int{1, 3, 5, 7}, 85, api.OK},
		{8, []int{0, 1, 2, 3, 4, 5, 6, 7}, 0, api.OK},
		{1, []int{1}, 0, api.ErrArg}, {1, []int{-1}, 0, api.ErrArg}, {1, []int{0, 0}, 0, api.ErrArg}, {1, []int{0, 1}, 0, api.ErrArg},
		{4, []int{4}, 0, api.ErrArg}, {4, []int{5}, 0, api.ErrArg}, {4, []int{-1}, 0, api.ErrArg}, {4, []int{math.MinInt}, 0, api.ErrArg}, {4, []int{math.MaxInt}, 0, api.ErrArg},
		{4, []int{2, 0}, 0, api.ErrArg}, {4, []int{2, 2}, 0, api.ErrArg}, {4, []int{0, 0}, 0, api.ErrArg}, {4, []int{0, 2, 1}, 0, api.ErrArg}, {4, []int{0, 2, 2}, 0, api.ErrArg},
		{4, []int{0, 2, 0}, 0, api.ErrArg}, {4, []int{3, 2, 1, 0}, 0, api.ErrArg}, {4, []int{0, 1, 2, 3, 4}, 0, api.ErrArg}, {4, []int{0, 1, 2, 3, 3}, 0, api.ErrArg},
		{4, []int{-1, 0}, 0, api.ErrArg}, {4, []int{0, 4}, 0, api.ErrArg}, {4, []int{0, -1, 2}, 0, api.ErrArg}, {4, []int{0, 64}, 0, api.ErrArg}, {4, []int{math.MinInt, math.MaxInt}, 0, api.ErrArg},
		{8, []int{8}, 0, api.ErrArg}, {8, []int{9}, 0, api.ErrArg}, {8, []int{0, 1, 2, 3, 4, 5, 6, 7, 8}, 0, api.ErrArg},
	} {
		for _, asks := range patterns(x.n) {
			if got, e := quiz.Answers(asks, x.failed); got != x.want || e != x.e {
				t.Errorf("Answers(%v, %v) = %d, %d, want %d, %d", asks, x.failed, got, int(e), x.want, int(x.e))
			}
			compareFailed(t, asks, x.failed)
		}
	}
}

func TestEachSetOfNumbers(t *testing.T) {
	for n := 1; n <= most; n++ {
		for _, asks := range patterns(n) {
			seen := map[int]int{}
			sets(n, func(l []int) {
				got, e := quiz.Answers(asks, l)
				seen[got]++
				if e != api.OK || got < 0 || got >= 1<<n || seen[got] != 1 {
					t.Errorf("Answers(%v, %v) = %d, %d, returned %d times", asks, l, got, int(e), seen[got])
				}
				compareFailed(t, asks, l)
			})
			if len(seen) != 1<<n {
				t.Errorf("%d answers to %v, want %d", len(seen), asks, 1<<n)
			}
		}
	}
}

func TestNumbersOfNoQuestion(t *testing.T) {
	for n := 1; n <= most; n++ {
		asks := slices.Repeat([]int{7}, n)
		sets(n, func(l []int) {
			for _, wrong := range noNumbers(n) {
				for place := range len(l) + 1 {
					refused(t, asks, slices.Insert(slices.Clone(l), place, wrong))
				}
				for place := range l {
					with := slices.Clone(l)
					with[place] = wrong
					refused(t, asks, with)
				}
			}
		})
	}
}

func TestNumbersThatRepeatOrFall(t *testing.T) {
	for n := 1; n <= most; n++ {
		asks := slices.Repeat([]int{7}, n)
		sets(n, func(l []int) {
			for from := range l {
				// A number that is inserted again repeats, beside itself or elsewhere.
				for place := range len(l) + 1 {
					refused(t, asks, slices.Insert(slices.Clone(l), place, l[from]))
				}
				for to := range from {
					swapped := slices.Clone(l)
					swapped[from], swapped[to] = l[to], l[from]
					refused(t, asks, swapped)
					repeated := slices.Clone(l)
					repeated[from] = l[to]
					refused(t, asks, repeated)
					repeated[from], repeated[to] = l[from], l[from]
					refused(t, asks, repeated)
				}
			}
		})
	}
}

func TestMoreNumbersThanQuestions(t *testing.T) {
	for n := 1; n <= most; n++ {
		asks := slices.Repeat([]int{7}, n)
		for more := 1; more <= 80; more++ {
			refused(t, asks, upTo(n+more))
			refused(t, asks, append(upTo(n), slices.Repeat([]int{n - 1}, more)...))
			refused(t, asks, slices.Repeat([]int{0}, n+more))
		}
		refused(t, asks, upTo(100000))
		refused(t, asks, slices.Repeat(upTo(n), 2))
		refused(t, asks, slices.Repeat(upTo(n), 10000))
	}
}

func TestSmallListsOfNumbers(t *testing.T) {
	for n := 1; n <= 3; n++ {
		asks := []int{5, 3, 1}[:n]
		numbers := append(upTo(n), -1, n, n+1, math.MinInt, math.MaxInt)
		for length := range n + 3 {
			lists(length, numbers, func(l []int) { compareFailed(t, asks, l) })
		}
	}
	for n := 4; n <= most; n++ {
		asks := slices.Repeat([]int{5}, n)
		for length := range 5 {
			lists(length, upTo(n+1), func(l []int) { compareFailed(t, asks, l) })
		}
	}
}

// The error of the list comes before that of the numbers, and is returned beside numbers that are right, too.
func TestAnswersOfNoQuestions(t *testing.T) {
	for _, asks := range noQuestions {
		for _, failed := range [][]int{
			nil, {}, {0}, {0, 1}, upTo(len(asks)), upTo(8), {-1}, {8}, {9}, {len(asks)}, {0, 0}, {1, 0}, upTo(9), {math.MinInt}, {math.MaxInt}, {0, 1, 1}, {0, 64},
		} {
			if got, e := quiz.Answers(asks, failed); got != 0 || e != api.ErrRules {
				t.Errorf("Answers(%v, %v) = %d, %d, want 0, ErrRules", brief(asks), brief(failed), got, int(e))
			}
		}
	}
	for n := 1; n <= most; n++ {
		for place := range n {
			for _, wrong := range noWeights {
				asks := slices.Repeat([]int{7}, n)
				asks[place] = wrong
				for _, failed := range [][]int{nil, {place}, upTo(n), {n}, {-1}, {0, 0}} {
					compareFailed(t, asks, failed)
				}
			}
		}
	}
}

func TestDrawnNumbers(t *testing.T) {
	r := rand.New(rand.NewSource(163))
	for range 20000 {
		asks := drawnQuestions(r, 1+r.Intn(most))
		var l []int
		for question := range asks {
			if r.Intn(2) == 0 {
				l = append(l, question)
			}
		}
		compareFailed(t, asks, l)
		if len(l) > 0 {
			l[r.Intn(len(l))] = r.Intn(len(asks)+4) - 2
			compareFailed(t, asks, l)
		}
		if r.Intn(10) == 0 {
			asks[r.Intn(len(asks))] = noWeights[r.Intn(len(noWeights))]
			compareFailed(t, asks, l)
		}
	}
}

// P16.4: bounds.

// someQuestions calls f with the patterns of each number of questions, and with drawn ones.
func someQuestions(seed int64, f func(asks []int)) {
	r := rand.New(rand.NewSource(seed))
	for n := 1; n <= most; n++ {
		for _, asks := range patterns(n) {
			f(asks)
		}
		for range 100 {
			f(drawnQuestions(r, n))
		}
	}
}

func TestAScoreIsFromZeroToWorst(t *testing.T) {
	someQuestions(164, func(asks []int) {
		worst, all := quiz.Worst(asks), 1<<len(asks)
		for answers := range all {
			score, e := quiz.Score(asks, answers)
			if e != api.OK || score < 0 || score > worst {
				t.Errorf("Score(%v, %d) = %d, %d, but Worst %d", asks, answers, score, int(e), worst)
			}
			if answers == 0 && score != worst || answers == all-1 && score != 0 {
				t.Errorf("Score(%v, %d) = %d, but Worst %d", asks, answers, score, worst)
			}
			// A score is 0, or that of all no, just where the noes, or the yeses, weigh nothing.
			if against, _ := quiz.Score(asks, all-1-answers); score+against != worst {
				t.Errorf("Score(%v, %d) = %d, and of the contrary answers %d, but Worst %d", asks, answers, score, against, worst)
			}
			compareAnswers(t, asks, answers)
		}
	})
}

// P16.5: more.

func TestOneMoreNoAddsItsWeight(t *testing.T) {
	someQuestions(165, func(asks []int) {
		for answers := range 1 << len(asks) {
			score, _ := quiz.Score(asks, answers)
			failed, _ := quiz.Failed(asks, answers)
			yes, _ := said(len(asks), answers)
			power := 1
			for question, weight := range asks {
				if yes[question] {
					more, e := quiz.Score(asks, answers-power)
					if more != score+weight || e != api.OK {
						t.Errorf("Score(%v, %d) = %d, but with a no to %d %d, %d", asks, answers, score, question, more, int(e))
					}
					want := append(slices.Clone(failed), question)
					slices.Sort(want)
					if got, e := quiz.Failed(asks, answers-power); !slices.Equal(got, want) || e != api.OK {
						t.Errorf("Failed(%v, %d) = %v, but with a no to %d %v, %d", asks, answers, failed, question, got, int(e))
					}
				}
				power += power
			}
		}
	})
}

func TestAnswersOfWhatFailed(t *testing.T) {
	someQuestions(1655, func(asks []int) {
		for answers := range 1 << len(asks) {
			failed, e := quiz.Failed(asks, answers)
			got, f := quiz.Answers(asks, failed)
			if e != api.OK || f != api.OK || got != answers {
				t.Errorf("Failed(%v, %d) = %v, %d, and Answers %d, %d", asks, answers, failed, int(e), got, int(f))
			}
		}
		sets(len(asks), func(l []int) {
			answers, e := quiz.Answers(asks, l)
			got, f := quiz.Failed(asks, answers)
			if e != api.OK || f != api.OK || !slices.Equal(got, l) {
				t.Errorf("Answers(%v, %v) = %d, %d, and Failed %v, %d", asks, l, answers, int(e), got, int(f))
			}
		})
	})
}

// The weights count for the score alone.
func TestFailedAndAnswersDoNotDependOnWeights(t *testing.T) {
	for n := 1; n <= most; n++ {
		for answers := range 1 << n {
			want, _ := failedOf(make([]int, n), answers)
			for _, asks := range patterns(n) {
				if got, e := quiz.Failed(asks, answers); !slices.Equal(got, want) || e != api.OK {
					t.Errorf("Failed(%v, %d) = %v, %d, want %v", asks, answers, got, int(e), want)
				}
				if got, e := quiz.Answers(asks, want); got != answers || e != api.OK {
					t.Errorf("Answers(%v, %v) = %d, %d, want %d", asks, want, got, int(e), answers)
				}
			}
		}
	}
}

// The general rules.

// What is written to a result, to the memory behind it or by appending to it, changes nothing else.
func TestWhatFailedIsNewlyAllocated(t *testing.T) {
	for n := 1; n <= most; n++ {
		for answers := range 1 << n {
			memory := append(slices.Repeat([]int{5}, n), 0, 1, 2, 3, 4, 5, 6, 7)
			before, asks := slices.Clone(memory), memory[:n]
			want, _ := failedOf(asks, answers)
			first, _ := quiz.Failed(asks, answers)
			second, _ := quiz.Failed(asks, answers)
			all := first[:cap(first)]
			for i := range all {
				all[i] = -7
			}
			longer := append(first, -8)
			longer[0] = -9
			third, _ := quiz.Failed(asks, answers)
			if !slices.Equal(second, want) || !slices.Equal(third, want) {
				t.Errorf("Failed(%v, %d) became %v, and then %v, want %v", asks, answers, second, third, want)
			}
			if !slices.Equal(memory, before) {
				t.Fatalf("Failed(%v, %d): what was written to the result changed the questions, or what is behind them, into %v", before[:n], answers, memory)
			}
			if got, e := quiz.Answers(asks, second); got != answers || e != api.OK {
				t.Errorf("Answers(%v, %v) = %d, %d, want %d", asks, second, got, int(e), answers)
			}
		}
	}
}

// Questions that are written to after a call do not change what it returned.
func TestWhatFailedStays(t *testing.T) {
	for n := 1; n <= most; n++ {
		for answers := range 1 << n {
			asks := upTo(n)
			want, _ := failedOf(asks, answers)
			got, _ := quiz.Failed(asks, answers)
			for i := range asks {
				asks[i] = 999
			}
			if !slices.Equal(got, want) {
				t.Errorf("Failed(%v, %d) became %v, want %v", upTo(n), answers, got, want)
			}
		}
	}
}

func TestQuestionsAndWhatIsBehindThemStay(t *testing.T) {
	for _, memory := range [][]int{{5, 3, 1, 1000, 0, 0, 7, 7, 1, 2, 3}, {1000, 999, 1, 0, 1000, 999, 1, 0, 0, 0, 0}, {7, 6, 5, 4, 3, -1, 1001, 0, 8, 9, 10}, make([]int, 11)} {
		before := slices.Clone(memory)
		for n := range len(memory) + 1 {
			asks := memory[:n]
			compareList(t, asks)
			for _, answers := range []int{math.MinInt, -1, 0, 1, 5, 1<<n - 1, 1 << n, math.MaxInt} {
				compareAnswers(t, asks, answers)
			}
			for _, failed := range [][]int{nil, {0}, {n - 1}, {n}, {1, 0}, upTo(n), upTo(n + 1)} {
				compareFailed(t, asks, failed)
			}
			if !slices.Equal(memory, before) {
				t.Fatalf("after calls with %d questions %v has become %v", n, before, memory)
			}
		}
	}
}

func TestNumbersAndWhatIsBehindThemStay(t *testing.T) {
	asks := []int{5, 3, 1, 1000}
	for _, memory := range [][]int{{0, 2, 3, 1, 5, 7}, {0, 1, 2, 3, 4, 5}, {3, 2, 1, 0, 0, 0}, {-1, 0, 1, 9, 9, 9}} {
		before := slices.Clone(memory)
		for n := range len(memory) + 1 {
			compareFailed(t, asks, memory[:n])
			compareFailed(t, nil, memory[:n])
			if !slices.Equal(memory, before) {
				t.Fatalf("after calls with %d numbers %v has become %v", n, before, memory)
			}
		}
	}
}

// Both arguments can be the same memory.
func TestQuestionsThatAreTheirOwnNumbers(t *testing.T) {
	for _, memory := range [][]int{{0}, {0, 1, 2}, {0, 2, 2}, {1}, {0, 1, 2, 3, 4, 5, 6, 7}, {0, 1, 2, 3, 4, 5, 6, 7, 8}, {-1, 0}} {
		for from := range memory {
			for to := from; to <= len(memory); to++ {
				compareFailed(t, memory, memory[from:to])
				compareFailed(t, memory[from:to], memory)
			}
		}
	}
}

// What lies behind a list's length counts as little as if it were not there.
func TestListsEndAtTheirLength(t *testing.T) {
	memory := []int{5, 3, 1, -1, 1001, 4, 4, 4, 4, 4}
	for n := range len(memory) + 1 {
		want := api.ErrRules
		if 1 <= n && n <= 3 {
			want = api.OK
		}
		if e := quiz.Check(memory[:n]); e != want {
			t.Errorf("Check of the first %d of %v = %d, want %d", n, memory, int(e), int(want))
		}
	}
	numbers := []int{0, 2, 2, 9, -1}
	for n := range len(numbers) + 1 {
		want := api.ErrArg
		if n <= 2 {
			want = api.OK
		}
		if _, e := quiz.Answers(memory[:3], numbers[:n]); e != want {
			t.Errorf("Answers of the first %d of %v: %d, want %d", n, numbers, int(e), int(want))
		}
	}
}

func TestCallsDoNotDependOnWhatWasCalledBefore(t *testing.T) {
	asks, failed := []int{5, 3, 1, 1000}, []int{0, 2}
	for range 3 {
		compareList(t, asks)
		compareAnswers(t, asks, 13)
		compareAnswers(t, asks, -1)
		compareAnswers(t, asks[:3], 13)
		compareFailed(t, asks, failed)
		compareFailed(t, asks[:2], failed)
		compareList(t, nil)
		compareAnswers(t, nil, 0)
		compareAnswers(t, asks[:3], 5)
		compareFailed(t, asks, nil)
	}
	// The same memory holds other questions and other numbers now.
	asks[1], failed[1] = 9, 3
	compareList(t, asks)
	compareAnswers(t, asks, 13)
	compareFailed(t, asks, failed)
	asks[1], failed[1] = -1, 0
	compareList(t, asks)
	compareAnswers(t, asks, 13)
	compareFailed(t, asks, failed)
}
