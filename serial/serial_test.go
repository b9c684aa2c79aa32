package serial_test

import (
	"fmt"
	"math"
	"math/big"
	"math/rand"
	"regexp"
	"slices"
	"strings"
	"testing"
	"unicode/utf8"

	"backhaul/api"
	"backhaul/serial"
)

const (
	capitals = "ABCDEFGHIJKLMNOPQRSTUVWXYZ"
	smalls   = "abcdefghijklmnopqrstuvwxyz"
	digits   = "0123456789"
	valued   = digits + capitals + "*"
)

// serialForm is the definition of a serial, but for its length, written another way than the program's.
var serialForm = regexp.MustCompile(`\A[A-Z0-9]+(-[A-Z0-9]+)*\z`)

func isSerial(s string) bool { return len(s) <= 16 && serialForm.MatchString(s) }

// capitalised folds bytes, not runes: in UTF-8 no byte of a longer rune is a letter.
func capitalised(s string) string {
	b := []byte(s)
	for i, c := range b {
		if at := strings.IndexByte(smalls, c); at >= 0 {
			b[i] = capitals[at]
		}
	}
	return string(b)
}

// everyRune calls f with every rune that there is, and with numbers around them that are none.
func everyRune(f func(r rune)) {
	for r := rune(-300); r <= utf8.MaxRune+300; r++ {
		f(r)
	}
	for _, r := range []rune{math.MinInt32, math.MinInt32 + 'A', math.MaxInt32, 1<<24 + 'A', 1<<16 + '0', 1<<30 + '-'} {
		f(r)
	}
}

// wrongTexts are neither serials nor do they become serials when they are folded.
var wrongTexts = []string{
	"", "-", "--", "---",
	"-A", "A-", "-A-", "--A", "A--", "A--B", "A---B", "A-B--C", "A-B-", "-1", "1-", "1--2",
	"-a", "a-", "a--b",
	"A_B", "A B", " A", "A ", "A.B", "A*", "*", "A+B", "A\n", "\nA", "A\x00", "\x00", "A\t",
	"/", ":", "@", "[", "`", "{", ",", ".",
	"\u00e9", "\u00c4", "K\u212a", "\u017f", "\u0131", "\uff21", "\uff41", "\uff11", "\u0661", "\u2010", "\u2013", "\u2212", "A\u2010B", "\ufffd",
	"\xff", "A\xff", "\xffA", "\x80", "\xc1\x81", "\xed\xa0\x80", "A\xc3",
	"ABCDEFGHIJKLMNOPQ", "0123456789abcdefg", "A-B-C-D-E-F-G-H-I", "ABCDEFGHIJKLMNO-", "-ABCDEFGHIJKLMNO", "ABCDEFGHIJKLMNOP-", "ABCDEFG--HIJKLMN",
	"\u00e9\u00e9\u00e9\u00e9\u00e9\u00e9\u00e9\u00e9", strings.Repeat("A", 32), strings.Repeat("A", 272), strings.Repeat("A", 65537), strings.Repeat("A-", 500) + "A",
}

// serials are edges and ordinary ones.
var serials = []string{
	"A", "Z", "M", "0", "9", "5", "AZ", "09", "A-1", "1-A", "A-B-C", "1-2-3", "AB-12", "SN-2041-X7", "A1-B2-C3",
	"ABCDEFGHIJKLMNOP", "0123456789ABCDEF", "QRSTUVWXYZ", "A-BCDEFGHIJKLMNO", "ABCDEFGHIJKLMN-O", "A-B-C-D-E-F-G-H", "AA-B-C-D-E-F-G-H",
	"ABCDEFGHIJKLMNO", "ZZZZZZZZZZZZZZZZ", "0000000000000000",
}

// texts returns all texts of at most n parts of an alphabet.
func texts(n int, alphabet ...string) []string {
	all := []string{""}
	last := all
	for range n {
		var next []string
		for _, s := range last {
			for _, c := range alphabet {
				next = append(next, s+c)
			}
		}
		all = append(all, next...)
		last = next
	}
	return all
}

// randomSerials returns serials of every length, with dashes and without, the same ones in each run.
func randomSerials(count int) []string {
	r := rand.New(rand.NewSource(1))
	var l []string
	for len(l) < count {
		b := make([]byte, 1+len(l)%16)
		for i := range b {
			b[i] = valued[r.Intn(36)]
			if len(l)%3 > 0 && r.Intn(4) == 0 {
				b[i] = '-'
			}
		}
		if isSerial(string(b)) {
			l = append(l, string(b))
		}
	}
	return l
}

// randomTexts returns texts, most of which are nearly serials.
func randomTexts(count int) []string {
	const alphabet = "AZaz09--Mm5 _*\xff"
	r := rand.New(rand.NewSource(2))
	var l []string
	for range count {
		b := make([]byte, r.Intn(19))
		for i := range b {
			b[i] = alphabet[r.Intn(11)]
			if r.Intn(30) == 0 {
				b[i] = alphabet[r.Intn(len(alphabet))]
			}
		}
		l = append(l, string(b))
	}
	return l
}

// manyTexts returns all the texts on which calls are compared with their definitions.
func manyTexts() []string {
	l := slices.Concat(wrongTexts, serials, randomSerials(2000), randomTexts(20000))
	for _, s := range serials {
		l = append(l, strings.ToLower(s), strings.ToLower(s[:1])+s[1:], s+" ", " "+s, s+"-", "-"+s, s+"\n", s+"\xff")
	}
	return append(l, texts(5, "A", "z", "0", "-", "_", "\u00e9")...)
}

// P1.1

func TestClassOfEveryRune(t *testing.T) {
	everyRune(func(r rune) {
		want := 0
		switch {
		case strings.ContainsRune(capitals+smalls, r) && r < utf8.RuneSelf:
			want = 1
		case strings.ContainsRune(digits, r) && r < utf8.RuneSelf:
			want = 2
		case r == 0x2d:
			want = 3
		}
		if got := serial.Class(r); got != want {
			t.Errorf("Class(%d) = %d, want %d", r, got, want)
		}
	})
}

func TestClassOfSomeRunes(t *testing.T) {
	for r, want := range map[rune]int{'a': 1, 'z': 1, 'A': 1, 'Z': 1, 'k': 1, 'K': 1, '0': 2, '9': 2, '-': 3, '*': 0, '_': 0, ' ': 0, '/': 0, ':': 0, '@': 0, '[': 0, '`': 0, '{': 0, 0: 0, -1: 0, 'é': 0, 0x212a: 0, 0x2010: 0, 0x661: 0, 0xfffd: 0} {
		if got := serial.Class(r); got != want {
			t.Errorf("Class(%q) = %d, want %d", r, got, want)
		}
	}
}

func TestValueOfEveryRune(t *testing.T) {
	everyRune(func(r rune) {
		want := -1
		for i, v := range []byte(valued) {
			if rune(v) == r {
				want = i
			}
		}
		if got := serial.Value(r); got != want {
			t.Errorf("Value(%d) = %d, want %d", r, got, want)
		}
	})
}

func TestValueOfSomeRunes(t *testing.T) {
	for r, want := range map[rune]int{'0': 0, '1': 1, '9': 9, 'A': 10, 'B': 11, 'I': 18, 'Z': 35, '*': 36, '-': -1, 'a': -1, 'z': -1, ')': -1, '+': -1, '/': -1, ':': -1, '@': -1, '[': -1, 0: -1, -1: -1, 'é': -1} {
		if got := serial.Value(r); got != want {
			t.Errorf("Value(%q) = %d, want %d", r, got, want)
		}
	}
}

// P1.2

func TestFoldGivesTheSerial(t *testing.T) {
	for s, want := range map[string]string{
		"ab-12": "AB-12", "a": "A", "z": "Z", "AB-12": "AB-12", "aB-1c": "AB-1C", "0": "0", "9-9": "9-9",
		"abcdefghijklm": "ABCDEFGHIJKLM", "nopqrstuvwxyz": "NOPQRSTUVWXYZ",
		"0123456789abcdef": "0123456789ABCDEF", "a-b-c-d-e-f-g-hh": "A-B-C-D-E-F-G-HH",
	} {
		if got, e := serial.Fold(s); got != want || e != api.OK {
			t.Errorf("Fold(%q) = %q, %d, want %q", s, got, int(e), want)
		}
	}
}

func TestFoldRefuses(t *testing.T) {
	for _, s := range wrongTexts {
		if got, e := serial.Fold(s); got != "" || e != api.ErrSerial {
			t.Errorf("Fold(%.40q) = %q, %d, want ErrSerial", s, got, int(e))
		}
	}
}

func TestFoldOfManyTexts(t *testing.T) {
	for _, s := range manyTexts() {
		want, code := capitalised(s), api.OK
		if !isSerial(want) {
			want, code = "", api.ErrSerial
		}
		if got, e := serial.Fold(s); got != want || e != code {
			t.Errorf("Fold(%.40q) = %q, %d, want %q, %d", s, got, int(e), want, int(code))
		}
	}
}

func TestCheckTakesSerials(t *testing.T) {
	for _, s := range serials {
		if e := serial.Check(s); e != api.OK {
			t.Errorf("Check(%q) = %d, want OK", s, int(e))
		}
	}
}

func TestCheckRefuses(t *testing.T) {
	for _, s := range append(slices.Clone(wrongTexts), "a", "z", "a-1", "A-b", "ABc", "aBC", "1k", "0123456789ABCDEf") {
		if e := serial.Check(s); e != api.ErrSerial {
			t.Errorf("Check(%.40q) = %d, want ErrSerial", s, int(e))
		}
	}
}

func TestCheckOfManyTexts(t *testing.T) {
	for _, s := range manyTexts() {
		want := api.OK
		if !isSerial(s) {
			want = api.ErrSerial
		}
		if e := serial.Check(s); e != want {
			t.Errorf("Check(%.40q) = %d, want %d", s, int(e), int(want))
		}
	}
}

func TestCheckAndFoldOfEveryRune(t *testing.T) {
	for r := rune(0); r <= utf8.MaxRune; r++ {
		s := string(r)
		if strings.Contains(digits+capitals, s) {
			continue
		}
		if e := serial.Check(s); e != api.ErrSerial {
			t.Errorf("Check(%q) = %d, want ErrSerial", s, int(e))
		}
		if got, e := serial.Fold("A" + s + "1"); e != api.ErrSerial && r != '-' && !strings.Contains(smalls, s) {
			t.Errorf("Fold(%q) = %q, %d, want ErrSerial", "A"+s+"1", got, int(e))
		}
	}
}

func TestLengthsOfSerials(t *testing.T) {
	for n := range 40 {
		want := api.OK
		if n < 1 || n > api.MaxSerial {
			want = api.ErrSerial
		}
		s := strings.Repeat("A", n)
		if e := serial.Check(s); e != want {
			t.Errorf("Check of %d letters = %d, want %d", n, int(e), int(want))
		}
		if _, e := serial.Fold(strings.ToLower(s)); e != want {
			t.Errorf("Fold of %d letters = %d, want %d", n, int(e), int(want))
		}
	}
}

// P1.3

// markOf computes the check character by whole powers of 2: the sum of all values, the mark's own included, each times 2 to the number of values behind it, leaves 1 modulo 37.
func markOf(s string) rune {
	sum := new(big.Int)
	for _, c := range strings.ReplaceAll(s, "-", "") {
		sum.Add(sum, big.NewInt(int64(strings.IndexRune(valued, c))))
		sum.Mul(sum, big.NewInt(2))
	}
	for i, c := range valued {
		whole := new(big.Int).Add(sum, big.NewInt(int64(i)))
		if whole.Mod(whole, big.NewInt(37)).Int64() == 1 {
			return c
		}
	}
	return 0
}

func TestMarkOfSomeSerials(t *testing.T) {
	for s, want := range map[string]rune{
		"A": 'I', "0": '1', "1": '*', "1-1": 'W', "11": 'W', "Z": '5', "B": 'G', "9": 'K', "0000000000000000": '1',
		"G123498654321": 'H', "G-1234-98-654321": 'H',
	} {
		if got, e := serial.Mark(s); got != want || e != api.OK {
			t.Errorf("Mark(%q) = %q, %d, want %q", s, got, int(e), want)
		}
	}
}

func TestMarkByItsDefinition(t *testing.T) {
	seen := map[rune]bool{}
	for _, s := range slices.Concat(serials, randomSerials(5000)) {
		want := markOf(s)
		seen[want] = true
		if got, e := serial.Mark(s); got != want || e != api.OK {
			t.Errorf("Mark(%q) = %q, %d, want %q", s, got, int(e), want)
		}
	}
	if len(seen) != 37 {
		t.Errorf("only %d marks were tested", len(seen))
	}
}

func TestMarkRefuses(t *testing.T) {
	for _, s := range append(slices.Clone(wrongTexts), "a", "a-1", "ab-12", "ABc") {
		if got, e := serial.Mark(s); got != 0 || e != api.ErrSerial {
			t.Errorf("Mark(%.40q) = %q, %d, want ErrSerial", s, got, int(e))
		}
	}
}

// P1.4

func TestRowOfSomeLists(t *testing.T) {
	for _, x := range []struct {
		l    []string
		want api.Errno
	}{
		{nil, api.OK},
		{[]string{}, api.OK},
		{[]string{"A"}, api.OK},
		{[]string{"A", "B", "C"}, api.OK},
		{[]string{"1", "A"}, api.OK},
		{[]string{"10", "9"}, api.OK},
		{[]string{"A", "A-1", "A0", "AA", "B"}, api.OK},
		{[]string{"9", "10"}, api.ErrDup},
		{[]string{"A", "1"}, api.ErrDup},
		{[]string{"A0", "A-1"}, api.ErrDup},
		{[]string{"AA", "A"}, api.ErrDup},
		{[]string{"A", "A"}, api.ErrDup},
		{[]string{"A", "B", "B"}, api.ErrDup},
		{[]string{"A", "C", "B"}, api.ErrDup},
		{[]string{"B", "C", "A"}, api.ErrDup},
		{[]string{"A", "B", "A"}, api.ErrDup},
		{[]string{""}, api.ErrSerial},
		{[]string{"a"}, api.ErrSerial},
		{[]string{"A", "b"}, api.ErrSerial},
		{[]string{"A", ""}, api.ErrSerial},
		{[]string{"A", "-"}, api.ErrSerial},
		{[]string{"A", "ABCDEFGHIJKLMNOPQ"}, api.ErrSerial},
		{[]string{"a", "B", "A"}, api.ErrSerial},
		{[]string{"", ""}, api.ErrSerial},
		{[]string{"a", "a"}, api.ErrSerial},
		{[]string{"B", "A", ""}, api.ErrDup},
		{[]string{"B", "", "A"}, api.ErrSerial},
		{[]string{"B", "B", "b"}, api.ErrDup},
		{[]string{"B", "b", "B"}, api.ErrSerial},
	} {
		if e := serial.Row(x.l); e != x.want {
			t.Errorf("Row(%q) = %d, want %d", x.l, int(e), int(x.want))
		}
	}
}

// rowOf is the definition of Row: the first element with a fault decides.
func rowOf(l []string) api.Errno {
	for i := range l {
		if !isSerial(l[i]) {
			return api.ErrSerial
		}
		if i > 0 && l[i-1] >= l[i] {
			return api.ErrDup
		}
	}
	return api.OK
}

// findOf is the definition of Find.
func findOf(l []string, s string) (int, bool) {
	for i, x := range l {
		if x == s {
			return i, true
		}
	}
	if rowOf(l) != api.OK {
		return 0, false
	}
	less := 0
	for _, x := range l {
		if x < s {
			less++
		}
	}
	return less, false
}

// lists calls f with all lists of at most n elements of some texts.
func lists(n int, elements []string, f func(l []string)) {
	var grow func(l []string)
	grow = func(l []string) {
		f(l)
		if len(l) == n {
			return
		}
		for _, s := range elements {
			grow(append(slices.Clone(l), s))
		}
	}
	grow(nil)
}

func TestRowAndFindOfManyLists(t *testing.T) {
	elements := []string{"", "A", "A-1", "B", "b"}
	lists(5, elements, func(l []string) {
		before := slices.Clone(l)
		if e, want := serial.Row(l), rowOf(l); e != want {
			t.Errorf("Row(%q) = %d, want %d", l, int(e), int(want))
		}
		for _, s := range append(slices.Clone(elements), "A0", "C", "0") {
			at, ok := serial.Find(l, s)
			if wantAt, wantOk := findOf(l, s); at != wantAt || ok != wantOk {
				t.Errorf("Find(%q, %q) = %d, %t, want %d, %t", l, s, at, ok, wantAt, wantOk)
			}
		}
		if !slices.Equal(l, before) {
			t.Errorf("%q was changed to %q", before, l)
		}
	})
}

func TestFindInSomeLists(t *testing.T) {
	for _, x := range []struct {
		l  []string
		s  string
		at int
		ok bool
	}{
		{nil, "A", 0, false},
		{[]string{}, "", 0, false},
		{[]string{"A"}, "A", 0, true},
		{[]string{"A", "C"}, "A", 0, true},
		{[]string{"A", "C"}, "C", 1, true},
		{[]string{"A", "C"}, "0", 0, false},
		{[]string{"A", "C"}, "B", 1, false},
		{[]string{"A", "C"}, "D", 2, false},
		{[]string{"A", "C"}, "", 0, false},
		{[]string{"A", "C"}, "a", 2, false},
		{[]string{"A", "C"}, "B--", 1, false},
		{[]string{"C", "A"}, "A", 1, true},
		{[]string{"C", "A"}, "C", 0, true},
		{[]string{"C", "A"}, "D", 0, false},
		{[]string{"C", "A"}, "B", 0, false},
		{[]string{"A", "A"}, "A", 0, true},
		{[]string{"A", "A"}, "B", 0, false},
		{[]string{"B", "A", "A"}, "A", 1, true},
		{[]string{"A", "B", "c"}, "c", 2, true},
		{[]string{"A", "B", "c"}, "C", 0, false},
		{[]string{"A", "B", ""}, "", 2, true},
		{[]string{"A", "B", ""}, "B", 1, true},
		{[]string{"A", "B", ""}, "Z", 0, false},
	} {
		if at, ok := serial.Find(x.l, x.s); at != x.at || ok != x.ok {
			t.Errorf("Find(%q, %q) = %d, %t, want %d, %t", x.l, x.s, at, ok, x.at, x.ok)
		}
	}
}

func TestFindInLongLists(t *testing.T) {
	var l []string
	for i := range 600 {
		l = append(l, fmt.Sprintf("SN-%04d", 2*i+1))
	}
	unsorted := append(slices.Clone(l), "SN-0000")
	for i := range 600 {
		if at, ok := serial.Find(l, l[i]); at != i || !ok {
			t.Errorf("Find of element %d = %d, %t", i, at, ok)
		}
		between := fmt.Sprintf("SN-%04d", 2*i)
		if at, ok := serial.Find(l, between); at != i || ok {
			t.Errorf("Find(%q) = %d, %t, want %d, false", between, at, ok, i)
		}
		if at, ok := serial.Find(unsorted, l[i]); at != i || !ok {
			t.Errorf("Find of element %d of an unsorted list = %d, %t", i, at, ok)
		}
	}
	if at, ok := serial.Find(l, "T"); at != 600 || ok {
		t.Errorf("Find behind the end = %d, %t", at, ok)
	}
	if at, ok := serial.Find(unsorted, "T"); at != 0 || ok {
		t.Errorf("Find of what an unsorted list lacks = %d, %t", at, ok)
	}
}

// P1.5

func TestFoldsAreSerialsAndStay(t *testing.T) {
	folded := 0
	for _, s := range manyTexts() {
		once, e := serial.Fold(s)
		if e != api.OK {
			continue
		}
		folded++
		if c := serial.Check(once); c != api.OK {
			t.Errorf("Check(Fold(%q)) = %d", s, int(c))
		}
		if twice, e := serial.Fold(once); twice != once || e != api.OK {
			t.Errorf("Fold(Fold(%q)) = %q, %d, want %q", s, twice, int(e), once)
		}
	}
	if folded < 1000 {
		t.Errorf("only %d texts could be folded", folded)
	}
}

func TestFoldIgnoresTheCase(t *testing.T) {
	swap := func(r rune) rune {
		switch {
		case 'a' <= r && r <= 'z':
			return r - 32
		case 'A' <= r && r <= 'Z':
			return r + 32
		}
		return r
	}
	for _, s := range manyTexts() {
		want, code := serial.Fold(s)
		if got, e := serial.Fold(strings.Map(swap, s)); got != want || e != code {
			t.Errorf("Fold(%.40q) with the other case = %q, %d, want %q, %d", s, got, int(e), want, int(code))
		}
	}
}

// P1.6

// marked returns the mark of a text that must be a serial.
func marked(t *testing.T, s string) rune {
	t.Helper()
	m, e := serial.Mark(s)
	if e != api.OK {
		t.Fatalf("Mark(%q) = %d", s, int(e))
	}
	return m
}

func TestOneOtherRuneGivesAnotherMark(t *testing.T) {
	for _, s := range slices.Concat(serials, randomSerials(300)) {
		m := marked(t, s)
		for i := range s {
			for _, c := range []byte(digits + capitals) {
				if s[i] == '-' || s[i] == c {
					continue
				}
				other := s[:i] + string(c) + s[i+1:]
				if marked(t, other) == m {
					t.Errorf("%q and %q have the same mark", s, other)
				}
			}
		}
	}
}

func TestExchangedRunesGiveAnotherMark(t *testing.T) {
	exchanged := 0
	for _, s := range slices.Concat(serials, randomSerials(3000), texts(2, strings.Split(digits+capitals, "")...)[1:]) {
		m := marked(t, s)
		for i := 1; i < len(s); i++ {
			if s[i] == s[i-1] || s[i] == '-' || s[i-1] == '-' {
				continue
			}
			exchanged++
			other := s[:i-1] + s[i:i+1] + s[i-1:i] + s[i+1:]
			if marked(t, other) == m {
				t.Errorf("%q and %q have the same mark", s, other)
			}
		}
	}
	if exchanged < 10000 {
		t.Errorf("only %d exchanges were tested", exchanged)
	}
}
