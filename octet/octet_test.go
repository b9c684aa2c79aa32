package octet_test

import (
	"encoding/hex"
	"math"
	"math/big"
	"math/rand"
	"slices"
	"strings"
	"testing"
	"unsafe"

	"backhaul/api"
	"backhaul/octet"
)

// widths are those that there are, those around them, and those that a number of fewer bits makes out of greater ones.
var widths = []int{
	math.MinInt, math.MinInt + 1, -1 << 32, 4 - 1<<32, -64, -8, -4, -2, -1, 0, 1, 2, 3, 4, 5, 6, 7, 8, 9, 10, 16, 32, 64,
	1<<8 + 1, 1<<16 + 2, 1 << 32, 1<<32 + 4, 1<<32 + 8, 1<<61 + 1, math.MaxInt - 1, math.MaxInt,
}

// taken are the widths that there are.
var taken = []int{1, 2, 4, 8}

// numbers lie around the limits of each width, around those of lengths and lists, and around 0.
var numbers = []int{
	math.MinInt, math.MinInt + 1, -1 << 62, -1<<32 - 1, -1 << 32, 1 - 1<<32, math.MinInt32, -65536, -65535, -256, -255, -128, -2, -1,
	0, 1, 2, 127, 128, 254, 255, 256, 257, 258, 511, 512, 999, 1000, 1001, 32767, 32768, 65534, 65535, 65536, 65537, 1<<24 - 1, 1 << 24,
	math.MaxInt32, math.MaxInt32 + 1, 1<<32 - 2, 1<<32 - 1, 1 << 32, 1<<32 + 1, 1 << 40, 1<<48 + 258, 1<<56 - 1, 1 << 56, 1 << 62,
	0x0102030405060708, math.MaxInt - 1, math.MaxInt,
}

// offsets lie around the beginning and the end of a text, around its middle, and where an offset plus a width leaves the range of int.
func offsets(length int) []int {
	return []int{
		math.MinInt, math.MinInt + 1, -1 << 32, length - 1<<32, -length - 1, -length, -2, -1,
		0, 1, 2, 3, 4, length / 2, length - 9, length - 8, length - 7, length - 4, length - 3, length - 2, length - 1,
		length, length + 1, length + 2, length + 8, 1 << 16, 1 << 32, 1<<32 + length, 1 << 62,
		math.MaxInt - 8, math.MaxInt - 7, math.MaxInt - 4, math.MaxInt - 2, math.MaxInt - 1, math.MaxInt,
	}
}

// mosts lie around a length, around the limits of strings and lists, and where a number of fewer bits wraps around.
func mosts(length int) []int {
	return []int{
		math.MinInt, math.MinInt + 1, -1 << 32, length - 1<<32, -length, -1, 0, 1, length - 1, length, length + 1,
		999, 1000, 1001, 65534, 65535, 65536, 1<<16 + length, 1 << 32, 1<<32 + length, math.MaxInt - 1, math.MaxInt,
	}
}

func isWidth(n int) bool { return slices.Contains(taken, n) }

// places is how many numbers a width has.
func places(width int) *big.Int {
	return new(big.Int).Exp(big.NewInt(256), big.NewInt(int64(width)), nil)
}

// digits is the definition of the encoding of a number: the last byte is the rest by 256, and ahead of it stands the encoding of the quotient.
func digits(n, width int) string {
	if width == 0 {
		return ""
	}
	return digits(n/256, width-1) + string([]byte{byte(n % 256)})
}

// putOf is the definition of Put.
func putOf(n, width int) (string, api.Errno) {
	switch {
	case !isWidth(width):
		return "", api.ErrArg
	case n < 0 || big.NewInt(int64(n)).Cmp(places(width)) >= 0:
		return "", api.ErrOver
	}
	return digits(n, width), api.OK
}

// getOf is the definition of Get.
func getOf(s string, at, width int) (octet.Pair[int], api.Errno) {
	if !isWidth(width) || at < 0 || at > len(s) {
		return octet.Pair[int]{}, api.ErrArg
	}
	rest := s[at:]
	if len(rest) < width {
		return octet.Pair[int]{}, api.ErrShort
	}
	n := new(big.Int).SetBytes([]byte(rest[:width]))
	if n.Cmp(big.NewInt(math.MaxInt)) > 0 {
		return octet.Pair[int]{}, api.ErrOver
	}
	return octet.Pair[int]{Got: int(n.Int64()), To: at + width}, api.OK
}

// layOf is the definition of Lay.
func layOf(text string) (string, api.Errno) {
	if len(text) > 65535 {
		return "", api.ErrBig
	}
	return digits(len(text), 2) + text, api.OK
}

// takeOf is the definition of Take.
func takeOf(s string, at, most int) (octet.Pair[string], api.Errno) {
	if at < 0 || at > len(s) || most < 0 {
		return octet.Pair[string]{}, api.ErrArg
	}
	rest := s[at:]
	if len(rest) < 2 {
		return octet.Pair[string]{}, api.ErrShort
	}
	length := 256*int(rest[0]) + int(rest[1])
	if length > most {
		return octet.Pair[string]{}, api.ErrBig
	}
	if rest = rest[2:]; len(rest) < length {
		return octet.Pair[string]{}, api.ErrShort
	}
	return octet.Pair[string]{Got: rest[:length], To: at + 2 + length}, api.OK
}

// rowOf is the definition of Row.
func rowOf(width int, l []int) (string, api.Errno) {
	if !isWidth(width) {
		return "", api.ErrArg
	}
	if len(l) > 1000 {
		return "", api.ErrBig
	}
	all := []string{digits(len(l), 2)}
	for _, n := range l {
		s, e := putOf(n, width)
		if e != api.OK {
			return "", e
		}
		all = append(all, s)
	}
	return strings.Join(all, ""), api.OK
}

// unrowOf is the definition of Unrow.
func unrowOf(s string, at, width, most int) (octet.Pair[[]int], api.Errno) {
	if !isWidth(width) || at < 0 || at > len(s) || most < 0 {
		return octet.Pair[[]int]{}, api.ErrArg
	}
	if len(s[at:]) < 2 {
		return octet.Pair[[]int]{}, api.ErrShort
	}
	count := 256*int(s[at]) + int(s[at+1])
	if count > most || count > 1000 {
		return octet.Pair[[]int]{}, api.ErrBig
	}
	var l []int
	to := at + 2
	for range count {
		element, e := getOf(s, to, width)
		if e != api.OK {
			return octet.Pair[[]int]{}, e
		}
		l = append(l, element.Got)
		to = element.To
	}
	return octet.Pair[[]int]{Got: l, To: to}, api.OK
}

func comparePut(t *testing.T, n, width int) {
	t.Helper()
	want, code := putOf(n, width)
	if got, e := octet.Put(n, width); got != want || e != code {
		t.Errorf("Put(%d, %d) = % x, %d, want % x, %d", n, width, got, int(e), want, int(code))
	}
}

func compareGet(t *testing.T, s string, at, width int) {
	t.Helper()
	want, code := getOf(s, at, width)
	if got, e := octet.Get(s, at, width); got != want || e != code {
		t.Errorf("Get(% .60x of %d bytes, %d, %d) = %v, %d, want %v, %d", s, len(s), at, width, got, int(e), want, int(code))
	}
}

func compareLay(t *testing.T, text string) {
	t.Helper()
	want, code := layOf(text)
	if got, e := octet.Lay(text); got != want || e != code {
		t.Errorf("Lay(% .60x of %d bytes) = % .60x of %d bytes, %d, want % .60x of %d bytes, %d", text, len(text), got, len(got), int(e), want, len(want), int(code))
	}
}

func compareTake(t *testing.T, s string, at, most int) {
	t.Helper()
	want, code := takeOf(s, at, most)
	if got, e := octet.Take(s, at, most); got != want || e != code {
		t.Errorf("Take(% .60x of %d bytes, %d, %d) = % .60x to %d, %d, want % .60x to %d, %d", s, len(s), at, most, got.Got, got.To, int(e), want.Got, want.To, int(code))
	}
}

func compareRow(t *testing.T, width int, l []int) {
	t.Helper()
	want, code := rowOf(width, l)
	if got, e := octet.Row(width, l...); got != want || e != code {
		t.Errorf("Row(%d, %.12v of %d) = % .60x of %d bytes, %d, want % .60x of %d bytes, %d", width, l, len(l), got, len(got), int(e), want, len(want), int(code))
	}
}

func compareUnrow(t *testing.T, s string, at, width, most int) {
	t.Helper()
	want, code := unrowOf(s, at, width, most)
	got, e := octet.Unrow(s, at, width, most)
	if !slices.Equal(got.Got, want.Got) || got.To != want.To || e != code {
		t.Errorf("Unrow(% .60x of %d bytes, %d, %d, %d) = %.12v of %d to %d, %d, want %.12v of %d to %d, %d", s, len(s), at, width, most, got.Got, len(got.Got), got.To, int(e), want.Got, len(want.Got), want.To, int(code))
	}
	if e != api.OK && got.Got != nil {
		t.Errorf("Unrow(% .60x of %d bytes, %d, %d, %d): a list beside the error %d", s, len(s), at, width, most, int(e))
	}
}

// raw returns the bytes that are written in hexadecimal, with spaces or without.
func raw(t *testing.T, written string) string {
	t.Helper()
	b, err := hex.DecodeString(strings.ReplaceAll(written, " ", ""))
	if err != nil {
		t.Fatal(err)
	}
	return string(b)
}

// randomText returns a text of so many bytes, of which many are 0, 1, or the greatest one.
func randomText(r *rand.Rand, length int) string {
	b := make([]byte, length)
	for i := range b {
		switch r.Intn(4) {
		case 0:
			b[i] = byte(r.Intn(256))
		case 1:
			b[i] = 255
		default:
			b[i] = byte(r.Intn(3))
		}
	}
	return string(b)
}

// randomNumber returns a number that fits a width, of each length in bits as often as of each other.
func randomNumber(r *rand.Rand, width int) int {
	return int(r.Uint64() >> (64 - min(r.Intn(8*width+1), 63)))
}

// randomRow returns a list of so many numbers that fit a width.
func randomRow(r *rand.Rand, width, length int) []int {
	l := make([]int, length)
	for i := range l {
		l[i] = randomNumber(r, width)
	}
	return l
}

// P5.1

func TestPutOfSomeNumbers(t *testing.T) {
	for _, x := range []struct {
		n, width int
		want     string
	}{
		{258, 4, "00 00 01 02"},
		{0, 1, "00"}, {1, 1, "01"}, {127, 1, "7f"}, {128, 1, "80"}, {254, 1, "fe"}, {255, 1, "ff"},
		{0, 2, "00 00"}, {1, 2, "00 01"}, {255, 2, "00 ff"}, {256, 2, "01 00"}, {258, 2, "01 02"}, {65534, 2, "ff fe"}, {65535, 2, "ff ff"},
		{0, 4, "00 00 00 00"}, {1, 4, "00 00 00 01"}, {65536, 4, "00 01 00 00"}, {0x01020304, 4, "01 02 03 04"}, {1<<24 - 1, 4, "00 ff ff ff"},
		{math.MaxInt32, 4, "7f ff ff ff"}, {math.MaxInt32 + 1, 4, "80 00 00 00"}, {1<<32 - 1, 4, "ff ff ff ff"},
		{0, 8, "00 00 00 00 00 00 00 00"}, {1, 8, "00 00 00 00 00 00 00 01"}, {258, 8, "00 00 00 00 00 00 01 02"},
		{1 << 32, 8, "00 00 00 01 00 00 00 00"}, {0x0102030405060708, 8, "01 02 03 04 05 06 07 08"}, {1<<56 - 1, 8, "00 ff ff ff ff ff ff ff"},
		{1 << 56, 8, "01 00 00 00 00 00 00 00"}, {math.MaxInt - 1, 8, "7f ff ff ff ff ff ff fe"}, {math.MaxInt, 8, "7f ff ff ff ff ff ff ff"},
	} {
		if got, e := octet.Put(x.n, x.width); got != raw(t, x.want) || e != api.OK {
			t.Errorf("Put(%d, %d) = % x, %d, want %s", x.n, x.width, got, int(e), x.want)
		}
	}
}

// The error of the width comes before that of the number.
func TestPutRefuses(t *testing.T) {
	for _, x := range []struct {
		n, width int
		e        api.Errno
	}{
		{-1, 1, api.ErrOver}, {256, 1, api.ErrOver}, {math.MinInt, 1, api.ErrOver}, {math.MaxInt, 1, api.ErrOver}, {1 << 32, 1, api.ErrOver}, {-256, 1, api.ErrOver},
		{-1, 2, api.ErrOver}, {65536, 2, api.ErrOver}, {math.MinInt, 2, api.ErrOver}, {math.MaxInt, 2, api.ErrOver}, {1 << 32, 2, api.ErrOver}, {-65536, 2, api.ErrOver},
		{-1, 4, api.ErrOver}, {1 << 32, 4, api.ErrOver}, {math.MinInt, 4, api.ErrOver}, {math.MaxInt, 4, api.ErrOver}, {-1 << 32, 4, api.ErrOver},
		{-1, 8, api.ErrOver}, {math.MinInt, 8, api.ErrOver}, {math.MinInt + 1, 8, api.ErrOver}, {-1 << 32, 8, api.ErrOver},
		{0, -1, api.ErrArg}, {0, 0, api.ErrArg}, {0, 3, api.ErrArg}, {0, 5, api.ErrArg}, {0, 6, api.ErrArg}, {0, 7, api.ErrArg}, {0, 9, api.ErrArg}, {0, 16, api.ErrArg},
		{0, math.MinInt, api.ErrArg}, {0, math.MaxInt, api.ErrArg}, {0, -2, api.ErrArg}, {0, -4, api.ErrArg}, {0, -8, api.ErrArg}, {1, 1<<32 + 1, api.ErrArg},
		{-1, -1, api.ErrArg}, {-1, 0, api.ErrArg}, {-1, 3, api.ErrArg}, {1 << 24, 3, api.ErrArg}, {-1, 9, api.ErrArg}, {math.MinInt, math.MinInt, api.ErrArg}, {math.MaxInt, math.MaxInt, api.ErrArg},
	} {
		if got, e := octet.Put(x.n, x.width); got != "" || e != x.e {
			t.Errorf("Put(%d, %d) = % x, %d, want nothing, %d", x.n, x.width, got, int(e), int(x.e))
		}
	}
}

func TestPutByItsDefinition(t *testing.T) {
	for _, width := range widths {
		for _, n := range numbers {
			comparePut(t, n, width)
		}
	}
	for n := -300; n < 66000; n++ {
		for _, width := range taken {
			comparePut(t, n, width)
		}
	}
	r := rand.New(rand.NewSource(1))
	for range 20000 {
		comparePut(t, int(r.Uint64()>>r.Intn(64)), taken[r.Intn(4)])
	}
}

func TestGetOfSomeBytes(t *testing.T) {
	for _, x := range []struct {
		s             string
		at, width     int
		number, after int
	}{
		{"00 00 01 02", 0, 4, 258, 4}, {"00 00 01 02", 0, 1, 0, 1}, {"00 00 01 02", 2, 1, 1, 3}, {"00 00 01 02", 3, 1, 2, 4},
		{"00 00 01 02", 0, 2, 0, 2}, {"00 00 01 02", 1, 2, 1, 3}, {"00 00 01 02", 2, 2, 258, 4},
		{"ff", 0, 1, 255, 1}, {"80", 0, 1, 128, 1}, {"ff ff", 0, 2, 65535, 2}, {"80 00", 0, 2, 32768, 2},
		{"ff ff ff ff", 0, 4, 1<<32 - 1, 4}, {"80 00 00 00", 0, 4, 1 << 31, 4}, {"aa ff ff ff ff bb", 1, 4, 1<<32 - 1, 5},
		{"7f ff ff ff ff ff ff ff", 0, 8, math.MaxInt, 8}, {"7f ff ff ff ff ff ff fe", 0, 8, math.MaxInt - 1, 8}, {"00 00 00 00 00 00 00 00", 0, 8, 0, 8},
		{"01 02 03 04 05 06 07 08", 0, 8, 0x0102030405060708, 8}, {"ff 01 02 03 04 05 06 07 08 ff", 1, 8, 0x0102030405060708, 9},
	} {
		if got, e := octet.Get(raw(t, x.s), x.at, x.width); got != (octet.Pair[int]{Got: x.number, To: x.after}) || e != api.OK {
			t.Errorf("Get(%s, %d, %d) = %v, %d, want %d to %d", x.s, x.at, x.width, got, int(e), x.number, x.after)
		}
	}
}

func TestGetRefuses(t *testing.T) {
	for _, x := range []struct {
		s         string
		at, width int
		e         api.Errno
	}{
		{"01 02 03 04 05 06 07 08 09", 0, -1, api.ErrArg}, {"01 02 03 04 05 06 07 08 09", 0, 0, api.ErrArg}, {"01 02 03 04 05 06 07 08 09", 0, 3, api.ErrArg},
		{"01 02 03 04 05 06 07 08 09", 0, 5, api.ErrArg}, {"01 02 03 04 05 06 07 08 09", 0, 6, api.ErrArg}, {"01 02 03 04 05 06 07 08 09", 0, 7, api.ErrArg},
		{"01 02 03 04 05 06 07 08 09", 0, 9, api.ErrArg}, {"01", 0, math.MinInt, api.ErrArg}, {"01", 0, math.MaxInt, api.ErrArg}, {"01", 0, 1<<32 + 1, api.ErrArg},
		{"01", -1, 1, api.ErrArg}, {"01", 2, 1, api.ErrArg}, {"01", math.MinInt, 1, api.ErrArg}, {"01", math.MaxInt, 1, api.ErrArg}, {"01", math.MaxInt - 7, 8, api.ErrArg},
		{"01 02", -1, 2, api.ErrArg}, {"01 02", 3, 2, api.ErrArg}, {"", 1, 1, api.ErrArg}, {"", -1, 8, api.ErrArg},
		// There is nothing.
		{"", 0, 1, api.ErrShort}, {"", 0, 2, api.ErrShort}, {"", 0, 4, api.ErrShort}, {"", 0, 8, api.ErrShort},
		{"01", 1, 1, api.ErrShort}, {"01 02", 2, 2, api.ErrShort}, {"01 02 03 04", 4, 4, api.ErrShort}, {"01 02 03 04 05 06 07 08", 8, 8, api.ErrShort},
		// There is too little.
		{"01", 0, 2, api.ErrShort}, {"01 02 03", 0, 4, api.ErrShort}, {"01 02 03 04 05 06 07", 0, 8, api.ErrShort}, {"01 02 03 04", 1, 4, api.ErrShort}, {"01 02 03 04 05 06 07 08", 1, 8, api.ErrShort},
		{"ff ff ff ff ff ff ff", 0, 8, api.ErrShort}, {"80", 0, 8, api.ErrShort},
		// It is greater than the greatest int.
		{"80 00 00 00 00 00 00 00", 0, 8, api.ErrOver}, {"80 00 00 00 00 00 00 01", 0, 8, api.ErrOver}, {"ff ff ff ff ff ff ff ff", 0, 8, api.ErrOver},
		{"00 80 00 00 00 00 00 00 00", 1, 8, api.ErrOver}, {"ff 00 00 00 00 00 00 00 00", 0, 8, api.ErrOver},
		// A width or an offset that there is not comes before what the bytes are.
		{"", 0, 3, api.ErrArg}, {"", 1, 8, api.ErrArg}, {"80 00 00 00 00 00 00 00", 9, 8, api.ErrArg}, {"80 00 00 00 00 00 00 00", -1, 8, api.ErrArg}, {"ff ff ff ff ff ff ff ff ff", 0, 9, api.ErrArg},
	} {
		if got, e := octet.Get(raw(t, x.s), x.at, x.width); got != (octet.Pair[int]{}) || e != x.e {
			t.Errorf("Get(%s, %d, %d) = %v, %d, want nothing, %d", x.s, x.at, x.width, got, int(e), int(x.e))
		}
	}
}

func TestGetByItsDefinition(t *testing.T) {
	r := rand.New(rand.NewSource(2))
	for length := range 21 {
		for _, s := range []string{strings.Repeat("\x00", length), strings.Repeat("\xff", length), strings.Repeat("\x7f", length), strings.Repeat("\x80", length), randomText(r, length), randomText(r, length)} {
			for _, width := range widths {
				for _, at := range offsets(length) {
					compareGet(t, s, at, width)
				}
			}
		}
	}
	for range 20000 {
		s := randomText(r, r.Intn(24))
		compareGet(t, s, r.Intn(len(s)+3)-1, taken[r.Intn(4)])
	}
}

func TestGetOfEachPairOfBytes(t *testing.T) {
	for n := range 65536 {
		s := string([]byte{byte(n / 256), byte(n % 256)})
		compareGet(t, s, 0, 1)
		compareGet(t, s, 1, 1)
		compareGet(t, s, 0, 2)
		compareGet(t, "\x00\x00"+s, 0, 4)
		compareGet(t, s+"\x00\x00\x00\x00\x00\x00", 0, 8)
	}
}

// P5.2

// lengths lie around the limits of lengths.
var lengths = []int{0, 1, 2, 3, 127, 128, 254, 255, 256, 257, 511, 512, 1000, 1001, 32767, 32768, 65279, 65280, 65534, 65535, 65536, 65537, 66000, 131071, 131072, 1 << 20}

func TestLayOfSomeTexts(t *testing.T) {
	for _, x := range []struct{ text, want string }{
		{"hi", "\x00\x02hi"}, {"", "\x00\x00"}, {"a", "\x00\x01a"}, {"\x00", "\x00\x01\x00"}, {"\xff\xfe", "\x00\x02\xff\xfe"}, {"ä", "\x00\x02\xc3\xa4"},
		{strings.Repeat("x", 255), "\x00\xff" + strings.Repeat("x", 255)}, {strings.Repeat("x", 256), "\x01\x00" + strings.Repeat("x", 256)}, {strings.Repeat("x", 258), "\x01\x02" + strings.Repeat("x", 258)},
		{strings.Repeat("x", 65534), "\xff\xfe" + strings.Repeat("x", 65534)}, {strings.Repeat("x", 65535), "\xff\xff" + strings.Repeat("x", 65535)},
	} {
		if got, e := octet.Lay(x.text); got != x.want || e != api.OK {
			t.Errorf("Lay(%.20q of %d bytes) = % .40x of %d bytes, %d, want % .40x of %d bytes", x.text, len(x.text), got, len(got), int(e), x.want, len(x.want))
		}
	}
}

func TestLayRefuses(t *testing.T) {
	for _, length := range []int{65536, 65537, 65538, 131071, 131072, 1 << 20} {
		if got, e := octet.Lay(strings.Repeat("x", length)); got != "" || e != api.ErrBig {
			t.Errorf("Lay of %d bytes = % .40x of %d bytes, %d, want nothing, ErrBig", length, got, len(got), int(e))
		}
	}
	// Bytes count, and not runes: these are 65535 runes, and twice as many bytes.
	if got, e := octet.Lay(strings.Repeat("ä", 65535)); got != "" || e != api.ErrBig {
		t.Errorf("Lay of 65535 runes of two bytes each: %d bytes, %d, want nothing, ErrBig", len(got), int(e))
	}
}

func TestLayByItsDefinition(t *testing.T) {
	r := rand.New(rand.NewSource(3))
	for _, length := range lengths {
		compareLay(t, strings.Repeat("\x00", length))
		compareLay(t, randomText(r, length))
	}
	for length := range 1100 {
		compareLay(t, randomText(r, length))
	}
}

func TestTakeOfSomeBytes(t *testing.T) {
	long := strings.Repeat("x", 65535)
	for _, x := range []struct {
		s        string
		at, most int
		text     string
		after    int
	}{
		{"\x00\x02hi", 0, 2, "hi", 4}, {"\x00\x02hi", 0, 3, "hi", 4}, {"\x00\x02hi", 0, math.MaxInt, "hi", 4}, {"\x00\x02hi!", 0, 2, "hi", 4}, {"..\x00\x02hi!", 2, 2, "hi", 6},
		{"\x00\x00", 0, 0, "", 2}, {"\x00\x00", 0, math.MaxInt, "", 2}, {"\x00\x00\x00\x00", 2, 0, "", 4}, {"\x00\x00x", 0, 1, "", 2},
		{"\x00\x01\x00", 0, 1, "\x00", 3}, {"\x00\x03\x00\x01a", 0, 3, "\x00\x01a", 5}, {"\x00\x03\x00\x01a", 2, 1, "a", 5}, {"\x00\x02\xff\xfe", 0, 2, "\xff\xfe", 4},
		{"\x00\xff" + long, 0, 255, long[:255], 257}, {"\x01\x00" + long, 0, 256, long[:256], 258}, {"\x80\x00" + long, 0, 32768, long[:32768], 32770},
		{"\xff\xff" + long, 0, 65535, long, 65537}, {"\xff\xff" + long, 0, 65536, long, 65537}, {"\xff\xff" + long, 0, math.MaxInt, long, 65537}, {"\xff\xff\xff" + long, 1, 65535, long, 65538},
	} {
		if got, e := octet.Take(x.s, x.at, x.most); got != (octet.Pair[string]{Got: x.text, To: x.after}) || e != api.OK {
			t.Errorf("Take(%.20q of %d bytes, %d, %d) = %.20q of %d bytes to %d, %d, want %.20q to %d", x.s, len(x.s), x.at, x.most, got.Got, len(got.Got), got.To, int(e), x.text, x.after)
		}
	}
}

func TestTakeRefuses(t *testing.T) {
	long := strings.Repeat("x", 65535)
	for _, x := range []struct {
		s        string
		at, most int
		e        api.Errno
	}{
		{"\x00\x02hi", 0, 1, api.ErrBig}, {"\x00\x02hi", 0, 0, api.ErrBig}, {"\x00\x01a", 0, 0, api.ErrBig},
		{"\xff\xff" + long, 0, 65534, api.ErrBig}, {"\x01\x00" + long, 0, 255, api.ErrBig}, {"\x01\x00" + long, 0, 0, api.ErrBig},
		{"\x00\x02hi", 0, -1, api.ErrArg}, {"\x00\x02hi", 0, math.MinInt, api.ErrArg}, {"\x00\x00", 0, -1, api.ErrArg}, {"\x00\x02hi", 0, 2 - 1<<32, api.ErrArg},
		{"\x00\x02hi", -1, 2, api.ErrArg}, {"\x00\x02hi", 5, 2, api.ErrArg}, {"\x00\x02hi", math.MinInt, 2, api.ErrArg}, {"\x00\x02hi", math.MaxInt, 2, api.ErrArg}, {"\x00\x02hi", math.MaxInt - 1, 2, api.ErrArg}, {"", 1, 2, api.ErrArg},
		// Of the length there is nothing, or too little.
		{"", 0, 2, api.ErrShort}, {"", 0, 0, api.ErrShort}, {"\x00", 0, 2, api.ErrShort}, {"\xff", 0, 2, api.ErrShort}, {"\x00\x02hi", 4, 2, api.ErrShort}, {"\x00\x02hi", 3, 2, api.ErrShort},
		// Of the string there is nothing, or too little.
		{"\x00\x02", 0, 2, api.ErrShort}, {"\x00\x02h", 0, 2, api.ErrShort}, {"\x00\x03hi", 0, 3, api.ErrShort}, {"\xff\xff" + long[1:], 0, 65535, api.ErrShort}, {"\xff\xff", 0, math.MaxInt, api.ErrShort}, {"\x00\x02hi", 1, 1000, api.ErrShort},
		// A length that is greater than the most comes before a string that is too short, and an argument that may not be comes before all.
		{"\x00\x02", 0, 1, api.ErrBig}, {"\x00\x02h", 0, 1, api.ErrBig}, {"\xff\xff", 0, 0, api.ErrBig}, {"\xff\xff", 0, 65534, api.ErrBig},
		{"", 0, -1, api.ErrArg}, {"\x00", 0, -1, api.ErrArg}, {"\x00", 2, 5, api.ErrArg}, {"\x00\x02", 0, -1, api.ErrArg}, {"\x00\x02", 3, -1, api.ErrArg},
	} {
		if got, e := octet.Take(x.s, x.at, x.most); got != (octet.Pair[string]{}) || e != x.e {
			t.Errorf("Take(%.20q of %d bytes, %d, %d) = %.20q to %d, %d, want nothing, %d", x.s, len(x.s), x.at, x.most, got.Got, got.To, int(e), int(x.e))
		}
	}
}

func TestTakeByItsDefinition(t *testing.T) {
	r := rand.New(rand.NewSource(4))
	for _, length := range []int{0, 1, 2, 3, 255, 256, 1000, 1001, 65534, 65535} {
		text := randomText(r, length)
		encoded := digits(length, 2) + text
		for _, s := range []string{encoded, encoded + "\x00", encoded + randomText(r, 9), encoded[:len(encoded)-1], encoded[:len(encoded)/2], encoded[:min(2, len(encoded))], "\x00" + encoded, randomText(r, 5) + encoded + randomText(r, 3)} {
			for _, at := range append(offsets(len(s)), 5) {
				for _, most := range mosts(length) {
					compareTake(t, s, at, most)
				}
			}
		}
	}
	for range 20000 {
		s := randomText(r, r.Intn(12))
		compareTake(t, s, r.Intn(len(s)+3)-1, r.Intn(6)-1)
		compareTake(t, s, r.Intn(len(s)+3)-1, 65535)
	}
}

// P5.3

// most is the number of elements that a list may have.
const most = 1000

func TestRowOfSomeLists(t *testing.T) {
	for _, x := range []struct {
		width int
		l     []int
		want  string
	}{
		{2, []int{1, 258}, "00 02 00 01 01 02"},
		{1, nil, "00 00"}, {2, []int{}, "00 00"}, {4, nil, "00 00"}, {8, nil, "00 00"},
		{1, []int{7}, "00 01 07"}, {1, []int{0, 255}, "00 02 00 ff"}, {1, []int{3, 2, 1, 2}, "00 04 03 02 01 02"},
		{2, []int{65535, 0}, "00 02 ff ff 00 00"}, {4, []int{258, 1<<32 - 1}, "00 02 00 00 01 02 ff ff ff ff"},
		{8, []int{math.MaxInt, 0, 258}, "00 03 7f ff ff ff ff ff ff ff 00 00 00 00 00 00 00 00 00 00 00 00 00 00 01 02"},
		{1, make([]int, 255), "00 ff" + strings.Repeat("00", 255)}, {1, make([]int, 256), "01 00" + strings.Repeat("00", 256)},
		{2, slices.Repeat([]int{5}, most), "03 e8" + strings.Repeat("00 05", most)}, {1, make([]int, 999), "03 e7" + strings.Repeat("00", 999)},
	} {
		if got, e := octet.Row(x.width, x.l...); got != raw(t, x.want) || e != api.OK {
			t.Errorf("Row(%d, %.12v of %d) = % .60x of %d bytes, %d, want %.120s", x.width, x.l, len(x.l), got, len(got), int(e), x.want)
		}
	}
}

func TestRowRefuses(t *testing.T) {
	tooMany, wrong := make([]int, most+1), slices.Repeat([]int{-1}, most+1)
	for _, x := range []struct {
		width int
		l     []int
		e     api.Errno
	}{
		{-1, nil, api.ErrArg}, {0, nil, api.ErrArg}, {3, nil, api.ErrArg}, {5, nil, api.ErrArg}, {6, nil, api.ErrArg}, {7, nil, api.ErrArg}, {9, nil, api.ErrArg}, {math.MinInt, nil, api.ErrArg}, {math.MaxInt, nil, api.ErrArg},
		{0, []int{1}, api.ErrArg}, {3, []int{1}, api.ErrArg}, {1<<32 + 1, []int{1}, api.ErrArg},
		{1, tooMany, api.ErrBig}, {2, tooMany, api.ErrBig}, {4, tooMany, api.ErrBig}, {8, tooMany, api.ErrBig}, {1, make([]int, 65536), api.ErrBig}, {1, make([]int, 65537), api.ErrBig}, {1, make([]int, 66000), api.ErrBig},
		{1, []int{-1}, api.ErrOver}, {1, []int{256}, api.ErrOver}, {1, []int{0, 256}, api.ErrOver}, {1, []int{256, 0}, api.ErrOver}, {1, []int{1, -1, 2}, api.ErrOver}, {1, []int{math.MinInt}, api.ErrOver}, {1, []int{math.MaxInt}, api.ErrOver},
		{2, []int{-1}, api.ErrOver}, {2, []int{65536}, api.ErrOver}, {2, []int{1, 2, 3, 65536}, api.ErrOver}, {4, []int{-1}, api.ErrOver}, {4, []int{1 << 32}, api.ErrOver}, {4, []int{0, 1 << 32, 0}, api.ErrOver},
		{8, []int{-1}, api.ErrOver}, {8, []int{0, math.MinInt}, api.ErrOver}, {1, append(make([]int, 999), 256), api.ErrOver}, {1, append([]int{256}, make([]int, 999)...), api.ErrOver},
		// The error of the width comes before that of the number of elements, and that one before that of an element.
		{0, tooMany, api.ErrArg}, {3, wrong, api.ErrArg}, {-1, []int{-1}, api.ErrArg}, {9, []int{256}, api.ErrArg},
		{1, wrong, api.ErrBig}, {8, wrong, api.ErrBig}, {1, append([]int{256}, tooMany...), api.ErrBig}, {2, append(make([]int, most), -1), api.ErrBig},
	} {
		if got, e := octet.Row(x.width, x.l...); got != "" || e != x.e {
			t.Errorf("Row(%d, %.12v of %d) = % .60x of %d bytes, %d, want nothing, %d", x.width, x.l, len(x.l), got, len(got), int(e), int(x.e))
		}
	}
}

func TestRowByItsDefinition(t *testing.T) {
	r := rand.New(rand.NewSource(5))
	for _, width := range widths {
		for _, n := range numbers {
			for _, l := range [][]int{{n}, {0, n}, {n, 0}, {1, n, 255}, {n, n}, {n, -1}, {-1, n}} {
				compareRow(t, width, l)
			}
		}
		for _, length := range []int{0, 1, 2, 3, 254, 255, 256, 257, 999, 1000, 1001, 1002, 65536} {
			compareRow(t, width, make([]int, length))
			compareRow(t, width, randomRow(r, 1, length))
			compareRow(t, width, randomRow(r, 2, length))
		}
	}
	for range 2000 {
		width := taken[r.Intn(4)]
		l := randomRow(r, width, r.Intn(40))
		compareRow(t, width, l)
		compareRow(t, taken[r.Intn(4)], l)
	}
}

func TestUnrowOfSomeBytes(t *testing.T) {
	for _, x := range []struct {
		s               string
		at, width, most int
		l               []int
		after           int
	}{
		{"00 02 00 01 01 02", 0, 2, 2, []int{1, 258}, 6}, {"00 02 00 01 01 02", 0, 2, most, []int{1, 258}, 6}, {"00 02 00 01 01 02", 0, 2, math.MaxInt, []int{1, 258}, 6},
		{"00 02 00 01 01 02", 0, 1, 2, []int{0, 1}, 4}, {"00 02 00 01 01 02", 2, 1, 1, []int{1}, 5}, {"00 02 00 01 01 02", 2, 2, 1, []int{258}, 6}, {"ff 00 02 00 01 01 02 ff", 1, 2, 2, []int{1, 258}, 7},
		{"00 00", 0, 1, 0, nil, 2}, {"00 00", 0, 2, 0, nil, 2}, {"00 00", 0, 4, math.MaxInt, nil, 2}, {"00 00 ff", 0, 8, most, nil, 2}, {"ff 00 00", 1, 1, 0, nil, 3},
		{"00 01 ff", 0, 1, 1, []int{255}, 3}, {"00 01 80 00 00 00", 0, 4, 1, []int{1 << 31}, 6}, {"00 01 7f ff ff ff ff ff ff ff", 0, 8, 1, []int{math.MaxInt}, 10},
		{"00 03" + strings.Repeat("00 00 00 01", 4), 0, 4, 3, []int{1, 1, 1}, 14},
		{"01 00" + strings.Repeat("07", 256), 0, 1, 256, slices.Repeat([]int{7}, 256), 258},
		{"03 e8" + strings.Repeat("00 05", most), 0, 2, most, slices.Repeat([]int{5}, most), 2002}, {"03 e8" + strings.Repeat("09", most+1), 0, 1, math.MaxInt, slices.Repeat([]int{9}, most), 1002},
		{"03 e8" + strings.Repeat("09", most), 0, 1, most + 1, slices.Repeat([]int{9}, most), 1002}, {"03 e7" + strings.Repeat("09", 999), 0, 1, 999, slices.Repeat([]int{9}, 999), 1001},
	} {
		if got, e := octet.Unrow(raw(t, x.s), x.at, x.width, x.most); !slices.Equal(got.Got, x.l) || got.To != x.after || e != api.OK {
			t.Errorf("Unrow(%.60s, %d, %d, %d) = %.12v of %d to %d, %d, want %.12v of %d to %d", x.s, x.at, x.width, x.most, got.Got, len(got.Got), got.To, int(e), x.l, len(x.l), x.after)
		}
	}
}

func TestUnrowRefuses(t *testing.T) {
	over := "80 00 00 00 00 00 00 00"
	small := "00 00 00 00 00 00 00 07"
	for _, x := range []struct {
		s               string
		at, width, most int
		e               api.Errno
	}{
		{"00 00", 0, -1, 5, api.ErrArg}, {"00 00", 0, 0, 5, api.ErrArg}, {"00 00", 0, 3, 5, api.ErrArg}, {"00 00", 0, 5, 5, api.ErrArg}, {"00 00", 0, 6, 5, api.ErrArg}, {"00 00", 0, 7, 5, api.ErrArg}, {"00 00", 0, 9, 5, api.ErrArg}, {"00 00", 0, math.MinInt, 5, api.ErrArg}, {"00 00", 0, math.MaxInt, 5, api.ErrArg},
		{"00 01 02 03 04", 0, 3, 5, api.ErrArg}, {"00 00", 0, 1<<32 + 1, 5, api.ErrArg},
		{"00 00", -1, 1, 5, api.ErrArg}, {"00 00", 3, 1, 5, api.ErrArg}, {"00 00", math.MinInt, 1, 5, api.ErrArg}, {"00 00", math.MaxInt, 1, 5, api.ErrArg}, {"00 00", math.MaxInt - 1, 1, 5, api.ErrArg}, {"", 1, 1, 5, api.ErrArg},
		{"00 00", 0, 1, -1, api.ErrArg}, {"00 00", 0, 1, math.MinInt, api.ErrArg}, {"00 01 07", 0, 1, 1 - 1<<32, api.ErrArg},
		// Of the number of elements there is nothing, or too little.
		{"", 0, 1, 5, api.ErrShort}, {"", 0, 8, 0, api.ErrShort}, {"00", 0, 1, 5, api.ErrShort}, {"ff", 0, 1, 5, api.ErrShort}, {"00 00", 1, 1, 5, api.ErrShort}, {"00 00", 2, 1, 5, api.ErrShort},
		// There are too many elements.
		{"00 01 07", 0, 1, 0, api.ErrBig}, {"00 02 07 07", 0, 1, 1, api.ErrBig}, {"01 00" + strings.Repeat("07", 256), 0, 1, 255, api.ErrBig}, {"01 00" + strings.Repeat("07", 256), 0, 1, 0, api.ErrBig},
		{"03 e8" + strings.Repeat("07", most), 0, 1, 999, api.ErrBig}, {"03 e9" + strings.Repeat("07", most+1), 0, 1, most, api.ErrBig}, {"03 e9" + strings.Repeat("07", most+1), 0, 1, most + 1, api.ErrBig},
		{"03 e9" + strings.Repeat("07", most+1), 0, 1, math.MaxInt, api.ErrBig}, {"ff ff" + strings.Repeat("07", 65535), 0, 1, math.MaxInt, api.ErrBig}, {"ff ff" + strings.Repeat("07", 65535), 0, 1, 65535, api.ErrBig},
		// An element is too short.
		{"00 01", 0, 1, 5, api.ErrShort}, {"00 02 07", 0, 1, 5, api.ErrShort}, {"00 01 07", 0, 2, 5, api.ErrShort}, {"00 02 00 01 01", 0, 2, 5, api.ErrShort}, {"00 02 00 00 00 01 00 00 00", 0, 4, 5, api.ErrShort}, {"00 01 00 00 00 00 00 00 00", 0, 8, 5, api.ErrShort},
		{"03 e8" + strings.Repeat("07", 999), 0, 1, most, api.ErrShort}, {"00 01 80 00 00 00 00 00 00", 0, 8, 5, api.ErrShort},
		// An element is greater than the greatest int.
		{"00 01" + over, 0, 8, 5, api.ErrOver}, {"00 02" + small + over, 0, 8, 5, api.ErrOver}, {"00 02" + over + small, 0, 8, 5, api.ErrOver}, {"00 01 ff ff ff ff ff ff ff ff", 0, 8, 5, api.ErrOver},
		// The first element that is wrong gives the error.
		{"00 02" + over, 0, 8, 5, api.ErrOver}, {"00 02" + over + "00", 0, 8, 5, api.ErrOver}, {"00 03" + small + over + "80", 0, 8, 5, api.ErrOver}, {"00 02" + small + "80 00 00 00 00 00 00", 0, 8, 5, api.ErrShort}, {"03 e8" + over, 0, 8, most, api.ErrOver},
		// Too many elements come before elements that are wrong, and an argument that may not be comes before all.
		{"00 02" + over, 0, 8, 1, api.ErrBig}, {"00 02", 0, 1, 1, api.ErrBig}, {"03 e9", 0, 1, math.MaxInt, api.ErrBig}, {"ff ff" + over, 0, 8, math.MaxInt, api.ErrBig},
		{"", 0, 3, 5, api.ErrArg}, {"", 0, 1, -1, api.ErrArg}, {"", 1, 1, 0, api.ErrArg}, {"03 e9", 0, 1, -1, api.ErrArg}, {"03 e9", 0, 0, most, api.ErrArg}, {"00 01" + over, 0, 7, 5, api.ErrArg}, {"00 01" + over, 0, 8, -1, api.ErrArg},
	} {
		got, e := octet.Unrow(raw(t, x.s), x.at, x.width, x.most)
		if got.Got != nil || got.To != 0 || e != x.e {
			t.Errorf("Unrow(%.60s, %d, %d, %d) = %.12v to %d, %d, want nothing, %d", x.s, x.at, x.width, x.most, got.Got, got.To, int(e), int(x.e))
		}
	}
}

func TestUnrowByItsDefinition(t *testing.T) {
	r := rand.New(rand.NewSource(6))
	for _, length := range []int{0, 1, 2, 3, 255, 256, 999, 1000, 1001} {
		elements := randomText(r, 8*length)
		if length > 3 {
			elements = strings.Repeat("\x00\x01\x02\x03", 2*length)
		}
		for _, width := range taken {
			encoded := digits(length, 2) + elements[:width*length]
			for _, s := range []string{encoded, encoded + "\x00", encoded[:len(encoded)-1], encoded[:len(encoded)/2], "\x00\x00\x00" + encoded + "\xff"} {
				for _, at := range offsets(len(s)) {
					for _, m := range mosts(length) {
						compareUnrow(t, s, at, width, m)
					}
				}
			}
		}
	}
	for range 5000 {
		s := "\x00" + randomText(r, r.Intn(30))
		for _, width := range widths {
			compareUnrow(t, s, r.Intn(len(s)+3)-1, width, r.Intn(6)-1)
			compareUnrow(t, s, 0, width, most)
		}
	}
}

func TestFlag(t *testing.T) {
	if yes, no := octet.Flag(true), octet.Flag(false); yes != "\x01" || no != "\x00" {
		t.Errorf("Flag(true) = % x, Flag(false) = % x", yes, no)
	}
}

// P5.4

// amid calls f with an encoding that stands alone, at the beginning, at the end, and amid other bytes, and with its offset.
func amid(r *rand.Rand, encoded string, f func(s string, at int)) {
	for _, ahead := range []int{0, 1, 2, 3, 8, 100} {
		for _, behind := range []int{0, 1, 9} {
			f(randomText(r, ahead)+encoded+randomText(r, behind), ahead)
		}
	}
}

func TestNumbersComeBack(t *testing.T) {
	r := rand.New(rand.NewSource(7))
	back := 0
	for _, width := range taken {
		for _, n := range append(randomRow(r, width, 1000), numbers...) {
			encoded, e := octet.Put(n, width)
			if e != api.OK {
				continue
			}
			back++
			if len(encoded) != width {
				t.Errorf("Put(%d, %d) has %d bytes", n, width, len(encoded))
			}
			amid(r, encoded, func(s string, at int) {
				if got, e := octet.Get(s, at, width); got.Got != n || got.To != at+width || e != api.OK {
					t.Errorf("%d in width %d came back as %v, %d, at %d of %d bytes", n, width, got, int(e), at, len(s))
				}
			})
		}
	}
	if back < 4000 {
		t.Errorf("only %d numbers came back", back)
	}
}

func TestTextsComeBack(t *testing.T) {
	r := rand.New(rand.NewSource(8))
	for _, length := range []int{0, 1, 2, 3, 16, 254, 255, 256, 257, 999, 1000, 65534, 65535} {
		text := randomText(r, length)
		encoded, e := octet.Lay(text)
		if e != api.OK || len(encoded) != length+2 {
			t.Fatalf("Lay of %d bytes: %d bytes, %d", length, len(encoded), int(e))
		}
		amid(r, encoded, func(s string, at int) {
			for _, limit := range []int{length, length + 1, 65535, math.MaxInt} {
				if got, e := octet.Take(s, at, limit); got.Got != text || got.To != at+length+2 || e != api.OK {
					t.Errorf("a text of %d bytes came back with %d to %d, %d, at %d of %d bytes", length, len(got.Got), got.To, int(e), at, len(s))
				}
			}
		})
	}
}

func TestListsComeBack(t *testing.T) {
	r := rand.New(rand.NewSource(9))
	for _, width := range taken {
		for _, length := range []int{0, 1, 2, 3, 16, 255, 256, 257, 999, 1000} {
			l := randomRow(r, width, length)
			encoded, e := octet.Row(width, l...)
			if e != api.OK || len(encoded) != 2+width*length {
				t.Fatalf("Row of %d numbers in width %d: %d bytes, %d", length, width, len(encoded), int(e))
			}
			amid(r, encoded, func(s string, at int) {
				for _, limit := range []int{length, length + 1, most, math.MaxInt} {
					if got, e := octet.Unrow(s, at, width, limit); !slices.Equal(got.Got, l) || got.To != at+len(encoded) || e != api.OK {
						t.Errorf("%d numbers in width %d came back as %d to %d, %d, at %d of %d bytes", length, width, len(got.Got), got.To, int(e), at, len(s))
					}
				}
			})
		}
	}
}

// Several values that stand one behind the other come back, each at the offset that the one before it gave.
func TestValuesFollowEachOther(t *testing.T) {
	number, _ := octet.Put(258, 4)
	text, _ := octet.Lay("hi")
	list, _ := octet.Row(2, 1, 258)
	s := number + text + list + octet.Flag(true)
	n, e := octet.Get(s, 0, 4)
	x, f := octet.Take(s, n.To, 2)
	l, g := octet.Unrow(s, x.To, 2, 2)
	flag, h := octet.Get(s, l.To, 1)
	if n.Got != 258 || x.Got != "hi" || !slices.Equal(l.Got, []int{1, 258}) || flag.Got != 1 || flag.To != len(s) {
		t.Errorf("%v, %v, %v, %v of %d bytes", n, x, l, flag, len(s))
	}
	if e != api.OK || f != api.OK || g != api.OK || h != api.OK {
		t.Errorf("errors %d, %d, %d, %d", int(e), int(f), int(g), int(h))
	}
	if end, e := octet.Get(s, flag.To, 1); end != (octet.Pair[int]{}) || e != api.ErrShort {
		t.Errorf("behind the end: %v, %d", end, int(e))
	}
}

// P5.5

// canon checks that what is decoded at an offset was encoded so, and returns how much was decoded.
func canon(t *testing.T, s string, at int) int {
	t.Helper()
	decoded := 0
	for _, width := range taken {
		if n, e := octet.Get(s, at, width); e == api.OK {
			decoded++
			if again, e := octet.Put(n.Got, width); again != s[at:n.To] || e != api.OK {
				t.Errorf("Get(% .60x, %d, %d) = %v, and Put returns % x, %d", s, at, width, n, again, int(e))
			}
		}
		if l, e := octet.Unrow(s, at, width, math.MaxInt); e == api.OK {
			decoded++
			if again, e := octet.Row(width, l.Got...); again != s[at:l.To] || e != api.OK {
				t.Errorf("Unrow(% .60x, %d, %d, ..) = %.12v to %d, and Row returns % .60x, %d", s, at, width, l.Got, l.To, again, int(e))
			}
		}
	}
	if text, e := octet.Take(s, at, math.MaxInt); e == api.OK {
		decoded++
		if again, e := octet.Lay(text.Got); again != s[at:text.To] || e != api.OK {
			t.Errorf("Take(% .60x, %d, ..) = % .60x to %d, and Lay returns % .60x, %d", s, at, text.Got, text.To, again, int(e))
		}
	}
	return decoded
}

func TestWhatIsDecodedWasEncodedSo(t *testing.T) {
	r := rand.New(rand.NewSource(10))
	decoded := 0
	for range 20000 {
		s := randomText(r, r.Intn(40))
		if r.Intn(2) == 0 {
			s = "\x00" + s
		}
		for at := range len(s) + 1 {
			decoded += canon(t, s, at)
		}
	}
	if decoded < 1000000 {
		t.Errorf("only %d values were decoded", decoded)
	}
}

func TestWhatIsDecodedOfShortBytesWasEncodedSo(t *testing.T) {
	all := []string{""}
	for range 5 {
		for _, s := range all {
			for _, b := range []string{"\x00", "\x01", "\x02", "\x80", "\xff"} {
				all = append(all, s+b)
			}
		}
		slices.Sort(all)
		all = slices.Compact(all)
	}
	if len(all) != 3906 {
		t.Fatalf("%d short texts", len(all))
	}
	for _, s := range all {
		for at := range len(s) + 1 {
			canon(t, s, at)
		}
	}
}

// P5.6

func TestAGreaterNumberHasAGreaterEncoding(t *testing.T) {
	r := rand.New(rand.NewSource(11))
	for _, width := range taken {
		var l []int
		for _, n := range append(randomRow(r, width, 300), numbers...) {
			if _, e := putOf(n, width); e == api.OK {
				l = append(l, n)
			}
		}
		for _, a := range l {
			for _, b := range l {
				x, e := octet.Put(a, width)
				y, f := octet.Put(b, width)
				if a < b != (x < y) || a == b != (x == y) || e != api.OK || f != api.OK {
					t.Errorf("in width %d: %d is % x, %d; %d is % x, %d", width, a, x, int(e), b, y, int(f))
				}
			}
		}
	}
}

func TestTheNextNumberHasAGreaterEncoding(t *testing.T) {
	for _, width := range taken {
		last := 66000
		if width == 1 {
			last = 255
		} else if width == 2 {
			last = 65535
		}
		previous := ""
		for n := range last + 1 {
			encoded, e := octet.Put(n, width)
			if encoded <= previous || e != api.OK {
				t.Errorf("in width %d: %d is % x, %d, after % x", width, n, encoded, int(e), previous)
			}
			previous = encoded
		}
	}
}

// The general rules

func TestListsAndWhatIsBehindThemStay(t *testing.T) {
	for _, memory := range [][]int{{1, 258, 3, -1, 70000, 1 << 40}, {-1, math.MinInt, math.MaxInt, 0, 5, 256}, make([]int, 1003)} {
		before := slices.Clone(memory)
		for _, n := range []int{0, 1, 2, 3, 5, 6, 999, 1000, 1001, 1002} {
			if n > len(memory) {
				continue
			}
			for _, width := range widths {
				compareRow(t, width, memory[:n])
			}
			if !slices.Equal(memory, before) {
				t.Fatalf("after calls with %d numbers the list has become %.12v", n, memory)
			}
		}
	}
}

// What is decoded is new each time: to change one result changes no other one.
func TestListsAreNew(t *testing.T) {
	s := "\x00\x02\x05\x06\x00\x00"
	first, _ := octet.Unrow(s, 0, 1, 2)
	second, _ := octet.Unrow(s, 0, 1, 2)
	first.Got[0] = 9
	_ = append(first.Got, 9)
	third, _ := octet.Unrow(s, 0, 1, 2)
	if !slices.Equal(second.Got, []int{5, 6}) || !slices.Equal(third.Got, []int{5, 6}) {
		t.Errorf("%v and %v after a change", second.Got, third.Got)
	}
}

// within reports whether a text lies in the memory of another one.
func within(text, whole string) bool {
	from := uintptr(unsafe.Pointer(unsafe.StringData(whole)))
	at := uintptr(unsafe.Pointer(unsafe.StringData(text)))
	return len(text) > 0 && from <= at && at < from+uintptr(len(whole))
}

func TestTextsAreNew(t *testing.T) {
	for _, length := range []int{1, 2, 300, 65535} {
		s := digits(length, 2) + strings.Repeat("x", length)
		text, e := octet.Take(s, 0, length)
		encoded, f := octet.Lay(s[2:])
		if e != api.OK || f != api.OK {
			t.Fatalf("errors %d and %d of %d bytes", int(e), int(f), length)
		}
		if within(text.Got, s) || within(encoded, s) {
			t.Errorf("a result lies in its argument of %d bytes", len(s))
		}
	}
}

func TestCallsDoNotDependOnWhatWasCalledBefore(t *testing.T) {
	l := []int{1, 258}
	for range 3 {
		comparePut(t, 258, 4)
		comparePut(t, -1, 4)
		compareGet(t, "\x00\x00\x01\x02", 0, 4)
		compareGet(t, "\x00\x00\x01\x02", 5, 4)
		compareLay(t, "hi")
		compareLay(t, "")
		compareTake(t, "\x00\x02hi", 0, 2)
		compareTake(t, "\x00\x02hi", 0, 1)
		compareRow(t, 2, l)
		compareRow(t, 1, l)
		compareUnrow(t, "\x00\x02\x00\x01\x01\x02", 0, 2, 2)
		compareUnrow(t, "\x00\x02\x00\x01\x01\x02", 0, 2, 1)
	}
	// The same memory holds other numbers now.
	l[0] = 7
	compareRow(t, 2, l)
}
