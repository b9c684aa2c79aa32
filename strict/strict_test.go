package strict_test

import (
	"errors"
	"fmt"
	"math"
	"math/big"
	"math/rand"
	"regexp"
	"runtime"
	"slices"
	"strconv"
	"strings"
	"testing"
	"unsafe"

	"backhaul/api"
	"backhaul/octet"
	"backhaul/strict"
)

// reader is what both a Reader and its definition do.
type reader interface {
	Num(width, most int) int
	Text(most int) string
	Serial() string
	Row(width, most int) []int
	Serials(most int) []string
	Flag() bool
	End()
	At() int
	Err() error
}

// definition is a reader by the words of the chapter, on what the words of the layers below say of bytes.
type definition struct {
	s  string
	at int
	e  api.Errno
}

// value is what is read at some place: how many bytes it has, and its error.
type value[T any] struct {
	got    T
	length int
	e      api.Errno
}

func refused[T any](e api.Errno) value[T] { return value[T]{e: e} }

// number is the definition of octet.Get, for an offset that there is.
func number(rest string, width int) value[int] {
	switch {
	case width != 1 && width != 2 && width != 4 && width != 8:
		return refused[int](api.ErrArg)
	case len(rest) < width:
		return refused[int](api.ErrShort)
	}
	n := new(big.Int).SetBytes([]byte(rest[:width]))
	if n.Cmp(big.NewInt(math.MaxInt)) > 0 {
		return refused[int](api.ErrOver)
	}
	return value[int]{got: int(n.Int64()), length: width}
}

// text is the definition of octet.Take, for an offset that there is.
func text(rest string, most int) value[string] {
	switch {
	case most < 0:
		return refused[string](api.ErrArg)
	case len(rest) < 2:
		return refused[string](api.ErrShort)
	}
	length := 256*int(rest[0]) + int(rest[1])
	switch {
	case length > most:
		return refused[string](api.ErrBig)
	case len(rest)-2 < length:
		return refused[string](api.ErrShort)
	}
	return value[string]{got: rest[2 : 2+length], length: 2 + length}
}

// list is the definition of octet.Unrow, for an offset that there is.
func list(rest string, width, most int) value[[]int] {
	switch {
	case most < 0 || number("01234567", width).e == api.ErrArg:
		return refused[[]int](api.ErrArg)
	case len(rest) < 2:
		return refused[[]int](api.ErrShort)
	}
	count := 256*int(rest[0]) + int(rest[1])
	if count > most || count > 1000 {
		return refused[[]int](api.ErrBig)
	}
	l := value[[]int]{length: 2}
	for range count {
		n := number(rest[l.length:], width)
		if n.e != api.OK {
			return refused[[]int](n.e)
		}
		l.got, l.length = append(l.got, n.got), l.length+width
	}
	return l
}

// serialForm is the definition of a serial, but for its length.
var serialForm = regexp.MustCompile(`\A[A-Z0-9]+(-[A-Z0-9]+)*\z`)

func isSerial(s string) bool { return len(s) <= 16 && serialForm.MatchString(s) }

// take moves the offset of a definition behind a value, or keeps its error.
func take[T any](d *definition, v value[T]) T {
	if d.e == api.OK {
		d.at += v.length
		d.e = v.e
		return v.got
	}
	return refused[T](d.e).got
}

func (d *definition) rest() string { return d.s[d.at:] }

func (d *definition) Num(width, most int) int {
	n := number(d.rest(), width)
	if n.e == api.OK && n.got > most {
		n = refused[int](api.ErrBig)
	}
	return take(d, n)
}

func (d *definition) Text(most int) string { return take(d, text(d.rest(), most)) }

func (d *definition) Serial() string {
	s := text(d.rest(), 16)
	if s.e == api.OK && !isSerial(s.got) {
		s = refused[string](api.ErrSerial)
	}
	return take(d, s)
}

func (d *definition) Row(width, most int) []int { return take(d, list(d.rest(), width, most)) }

func (d *definition) Serials(most int) []string {
	var l []string
	for range d.Num(1, most) {
		l = append(l, d.Serial())
	}
	if d.e != api.OK {
		return nil
	}
	return l
}

func (d *definition) Flag() bool {
	rest := d.rest()
	switch {
	case rest == "":
		return take(d, refused[bool](api.ErrShort))
	case rest[0] > 1:
		return take(d, refused[bool](api.ErrForm))
	}
	return take(d, value[bool]{got: rest[0] == 1, length: 1})
}

func (d *definition) End() {
	if d.rest() != "" {
		take(d, refused[int](api.ErrRest))
	}
}

func (d *definition) At() int { return d.at }

func (d *definition) Err() error {
	if d.e == api.OK {
		return nil
	}
	return strict.Fault{Err: d.e, At: d.at}
}

// call is a call of a reader, by the name of its method.
type call struct {
	name        string
	width, most int
}

func (c call) String() string {
	switch c.name {
	case "Num", "Row":
		return fmt.Sprintf("%s(%d, %d)", c.name, c.width, c.most)
	case "Text", "Serials":
		return fmt.Sprintf("%s(%d)", c.name, c.most)
	}
	return c.name + "()"
}

// on makes the call, and returns what it returns.
func (c call) on(r reader) any {
	switch c.name {
	case "Num":
		return r.Num(c.width, c.most)
	case "Text":
		return r.Text(c.most)
	case "Serial":
		return r.Serial()
	case "Row":
		return r.Row(c.width, c.most)
	case "Serials":
		return r.Serials(c.most)
	case "Flag":
		return r.Flag()
	case "End":
		r.End()
		return nil
	}
	panic("no method " + c.name)
}

// zero returns what the call returns behind a fault.
func (c call) zero() any {
	return c.on(&definition{e: api.ErrRest})
}

// same reports whether two results are equal; an empty list can be nil.
func same(a, b any) bool {
	if l, ok := a.([]int); ok {
		m, ok := b.([]int)
		return ok && slices.Equal(l, m)
	}
	if l, ok := a.([]string); ok {
		m, ok := b.([]string)
		return ok && slices.Equal(l, m)
	}
	return a == b
}

// nothing reports whether a result is that which stands beside a fault.
func nothing(a any) bool {
	switch x := a.(type) {
	case []int:
		return len(x) == 0
	case []string:
		return len(x) == 0
	}
	return a == nil || a == 0 || a == "" || a == false
}

// compare makes calls of a reader, and checks after each of them that it is as its definition is; it returns the definition.
func compare(t *testing.T, s string, calls ...call) *definition {
	t.Helper()
	r, d := strict.New(s), &definition{s: s}
	for i, c := range calls {
		got, want := c.on(r), c.on(d)
		if !same(got, want) || r.At() != d.At() || r.Err() != d.Err() {
			t.Errorf("of % .60x (%d bytes) %v: the last call returns %.60v at %d, fault %v; want %.60v at %d, fault %v", s, len(s), calls[:i+1], got, r.At(), r.Err(), want, d.At(), d.Err())
			return d
		}
	}
	return d
}

// expect checks the result of one call, the offset and the fault after it.
func expect(t *testing.T, r reader, c call, want any, at int, e api.Errno) {
	t.Helper()
	var fault error
	if e != api.OK {
		fault = strict.Fault{Err: e, At: at}
	}
	if got := c.on(r); !same(got, want) || r.At() != at || r.Err() != fault {
		t.Errorf("%v returns %.60v at %d, fault %v; want %.60v at %d, fault %v", c, got, r.At(), r.Err(), want, at, fault)
	}
}

// everyCall are calls of each method, ones that can succeed and ones that can't.
var everyCall = []call{
	{"Num", 1, 255}, {"Num", 2, math.MaxInt}, {"Num", 4, math.MaxInt}, {"Num", 8, math.MaxInt}, {"Num", 1, 0}, {"Num", 1, 1}, {"Num", 1, -1}, {"Num", 3, 9}, {"Num", 0, 9}, {"Num", -1, 9},
	{"Text", 0, 65535}, {"Text", 0, 0}, {"Text", 0, 1}, {"Text", 0, 2}, {"Text", 0, -1}, {"Text", 0, math.MaxInt},
	{"Serial", 0, 0},
	{"Row", 1, 1000}, {"Row", 2, math.MaxInt}, {"Row", 4, 5}, {"Row", 8, 5}, {"Row", 1, 0}, {"Row", 1, 1}, {"Row", 2, -1}, {"Row", 3, 5}, {"Row", 0, 0},
	{"Serials", 0, 255}, {"Serials", 0, 0}, {"Serials", 0, 1}, {"Serials", 0, 2}, {"Serials", 0, -1}, {"Serials", 0, math.MaxInt},
	{"Flag", 0, 0}, {"End", 0, 0},
}

// widths are those that there are, those around them, and those that a number of fewer bits makes out of greater ones.
var widths = []int{math.MinInt, -1 << 32, 4 - 1<<32, -8, -4, -2, -1, 0, 1, 2, 3, 4, 5, 6, 7, 8, 9, 16, 64, 257, 1 << 32, 1<<32 + 1, 1<<32 + 8, math.MaxInt}

// mosts lie around a number that is not negative, around the limits of strings and lists, and where a number of fewer bits wraps around.
func mosts(n int) []int {
	l := []int{math.MinInt, -1 << 32, -256, -2, -1, 0, 1, 2, 15, 16, 17, 255, 256, 999, 1000, 1001, 65535, 65536, 1 << 32, math.MaxInt - 1, math.MaxInt, n - 1, n}
	if n < math.MaxInt {
		l = append(l, n+1)
	}
	return l
}

// randomText returns a text of so many bytes, most of which are small.
func randomText(r *rand.Rand, length int) string {
	b := make([]byte, length)
	for i := range b {
		switch r.Intn(5) {
		case 0:
			b[i] = byte(r.Intn(256))
		case 1:
			b[i] = "\xffAZ09-a"[r.Intn(7)]
		default:
			b[i] = byte(r.Intn(3))
		}
	}
	return string(b)
}

// randomSerial returns a serial.
func randomSerial(r *rand.Rand) string {
	for {
		b := make([]byte, 1+r.Intn(16))
		for i := range b {
			b[i] = "ABCDEFGHIJKLMNOPQRSTUVWXYZ0123456789-"[r.Intn(37)]
		}
		if s := string(b); isSerial(s) {
			return s
		}
	}
}

// encoded returns what one of octet's functions encodes.
func encoded(t *testing.T) func(s string, e api.Errno) string {
	return func(s string, e api.Errno) string {
		t.Helper()
		if e != api.OK {
			t.Fatalf("no encoding: %v", e)
		}
		return s
	}
}

// lay returns the encodings of short strings, one after the other.
func lay(l ...string) string {
	s := ""
	for _, x := range l {
		s += string([]byte{byte(len(x) >> 8), byte(len(x))}) + x
	}
	return s
}

// The examples

func TestExamples(t *testing.T) {
	r := strict.New("\x01\x0a")
	expect(t, r, call{"Num", 1, 9}, 1, 1, api.OK)
	expect(t, r, call{"Num", 1, 9}, 0, 1, api.ErrBig)

	r = strict.New("\x02\x00\x01\x41\x00\x01\x61")
	expect(t, r, call{"Serials", 0, 5}, []string{}, 4, api.ErrSerial)

	if got := (strict.Fault{Err: api.ErrSum}).Error(); got != "error 7" {
		t.Errorf("the text of ErrSum is %q", got)
	}

	r = strict.New("\x01\x07")
	expect(t, r, call{"Num", 1, 9}, 1, 1, api.OK)
	expect(t, r, call{"Num", 1, 6}, 0, 1, api.ErrBig)
}

// A reader that New did not return

func TestReadersThatNewDidNotReturn(t *testing.T) {
	var missing *strict.Reader
	unmade := &strict.Reader{}
	for name, r := range map[string]*strict.Reader{"a nil reader": missing, "a Reader{}": unmade} {
		for _, c := range everyCall {
			for range 2 {
				if got := c.on(r); !nothing(got) || r.At() != 0 || r.Err() != error(strict.Fault{Err: api.ErrNil}) {
					t.Errorf("%v of %s returns %v at %d, fault %v", c, name, got, r.At(), r.Err())
				}
			}
		}
	}
	if *unmade != (strict.Reader{}) {
		t.Error("calls have changed a Reader{}")
	}
}

func TestEachCallOfAReaderThatNewDidNotReturnIsTheFirst(t *testing.T) {
	for _, c := range everyCall {
		for _, r := range []*strict.Reader{nil, {}} {
			if got := c.on(r); !nothing(got) {
				t.Errorf("%v returns %v", c, got)
			}
		}
	}
	for _, r := range []*strict.Reader{nil, {}} {
		if r.At() != 0 {
			t.Errorf("At returns %d", r.At())
		}
	}
	for _, r := range []*strict.Reader{nil, {}} {
		if r.Err() != error(strict.Fault{Err: api.ErrNil, At: 0}) {
			t.Errorf("Err returns %v", r.Err())
		}
	}
}

// A reader of no bytes is one all the same.
func TestAReaderOfNothing(t *testing.T) {
	r := strict.New("")
	if r == nil || r.At() != 0 || r.Err() != nil {
		t.Fatalf("New returns %v", r)
	}
	expect(t, r, call{name: "End"}, nil, 0, api.OK)
	expect(t, r, call{name: "End"}, nil, 0, api.OK)
	expect(t, r, call{name: "Flag"}, false, 0, api.ErrShort)
}

// P6.1

func TestNumOfSomeBytes(t *testing.T) {
	for _, x := range []struct {
		s           string
		width, most int
		want, at    int
		e           api.Errno
	}{
		// Just enough, and more.
		{"\x07", 1, 9, 7, 1, api.OK}, {"\x01\x02", 2, 9999, 258, 2, api.OK}, {"\x00\x00\x01\x02", 4, 258, 258, 4, api.OK}, {"\x00\x00\x00\x00\x00\x00\x01\x02", 8, 258, 258, 8, api.OK},
		{"\x07\x08", 1, 9, 7, 1, api.OK}, {"\x01\x02\x03", 2, 9999, 258, 2, api.OK}, {"\x00\x00\x01\x02\xff", 4, 258, 258, 4, api.OK}, {"\x00\x00\x00\x00\x00\x00\x01\x02\xff", 8, 258, 258, 8, api.OK},
		{"\x00", 1, 0, 0, 1, api.OK}, {"\x00", 1, math.MaxInt, 0, 1, api.OK}, {"\x80", 1, 255, 128, 1, api.OK}, {"\xff\xff\xff\xff", 4, math.MaxInt, 1<<32 - 1, 4, api.OK},
		// Nothing, and too little.
		{"", 1, 9, 0, 0, api.ErrShort}, {"", 2, 9, 0, 0, api.ErrShort}, {"", 4, 9, 0, 0, api.ErrShort}, {"", 8, 9, 0, 0, api.ErrShort},
		{"\x00", 2, 9, 0, 0, api.ErrShort}, {"\x00\x00\x00", 4, 9, 0, 0, api.ErrShort}, {"\x00\x00\x00\x00\x00\x00\x00", 8, 9, 0, 0, api.ErrShort},
		// The most: just the number, one less, -1, 0, the greatest int.
		{"\x07", 1, 7, 7, 1, api.OK}, {"\x07", 1, 6, 0, 0, api.ErrBig}, {"\x07", 1, 0, 0, 0, api.ErrBig}, {"\x07", 1, -1, 0, 0, api.ErrBig}, {"\x00", 1, -1, 0, 0, api.ErrBig}, {"\x00", 1, math.MinInt, 0, 0, api.ErrBig},
		{"\xff", 1, 255, 255, 1, api.OK}, {"\xff", 1, 254, 0, 0, api.ErrBig}, {"\xff\xff", 2, 65535, 65535, 2, api.OK}, {"\xff\xff", 2, 65534, 0, 0, api.ErrBig}, {"\x01\x00", 2, 255, 0, 0, api.ErrBig},
		{"\xff\xff\xff\xff", 4, 1<<32 - 2, 0, 0, api.ErrBig}, {"\xff\xff\xff\xff", 4, 1<<32 - 1, 1<<32 - 1, 4, api.OK}, {"\xff\xff\xff\xff", 4, -1, 0, 0, api.ErrBig},
		{"\x7f\xff\xff\xff\xff\xff\xff\xff", 8, math.MaxInt, math.MaxInt, 8, api.OK}, {"\x7f\xff\xff\xff\xff\xff\xff\xff", 8, math.MaxInt - 1, 0, 0, api.ErrBig}, {"\x7f\xff\xff\xff\xff\xff\xff\xff", 8, -1, 0, 0, api.ErrBig},
		// Greater than the greatest int.
		{"\x80\x00\x00\x00\x00\x00\x00\x00", 8, math.MaxInt, 0, 0, api.ErrOver}, {"\xff\xff\xff\xff\xff\xff\xff\xff", 8, math.MaxInt, 0, 0, api.ErrOver},
		// Widths that are none.
		{"\x07\x07\x07\x07\x07\x07\x07\x07\x07", 0, 9, 0, 0, api.ErrArg}, {"\x07\x07\x07\x07\x07\x07\x07\x07\x07", 3, 1 << 30, 0, 0, api.ErrArg}, {"\x07\x07\x07\x07\x07\x07\x07\x07\x07", -1, 9, 0, 0, api.ErrArg},
		{"\x07\x07\x07\x07\x07\x07\x07\x07\x07", 9, 9, 0, 0, api.ErrArg}, {"\x07\x07\x07\x07\x07\x07\x07\x07\x07", 5, 9, 0, 0, api.ErrArg}, {"\x07\x07\x07\x07\x07\x07\x07\x07\x07", 1<<32 + 1, 9, 0, 0, api.ErrArg},
		// What Get says comes before the most.
		{"", 1, -1, 0, 0, api.ErrShort}, {"\x07", 2, 0, 0, 0, api.ErrShort}, {"", 3, -1, 0, 0, api.ErrArg}, {"\x07", 0, -1, 0, 0, api.ErrArg}, {"", 0, 9, 0, 0, api.ErrArg}, {"\x80\x00\x00\x00\x00\x00\x00\x00", 8, 0, 0, 0, api.ErrOver}, {"\xff\xff\xff\xff\xff\xff\xff\xff", 8, -1, 0, 0, api.ErrOver},
	} {
		expect(t, strict.New(x.s), call{"Num", x.width, x.most}, x.want, x.at, x.e)
	}
}

func TestTextOfSomeBytes(t *testing.T) {
	long := strings.Repeat("x", 65535)
	for _, x := range []struct {
		s    string
		most int
		want string
		at   int
		e    api.Errno
	}{
		// Just enough, and more.
		{"\x00\x02hi", 9, "hi", 4, api.OK}, {"\x00\x02hi!", 9, "hi", 4, api.OK}, {"\x00\x00", 9, "", 2, api.OK}, {"\x00\x00hi", 9, "", 2, api.OK}, {"\x00\x01\x00", 9, "\x00", 3, api.OK}, {"\x00\x02\xff\xfe", 9, "\xff\xfe", 4, api.OK},
		{"\x01\x00" + long, 256, long[:256], 258, api.OK}, {"\xff\xff" + long, 65535, long, 65537, api.OK},
		// Nothing, and too little, of the length and of the string.
		{"", 9, "", 0, api.ErrShort}, {"\x00", 9, "", 0, api.ErrShort}, {"\x00\x02", 9, "", 0, api.ErrShort}, {"\x00\x02h", 9, "", 0, api.ErrShort}, {"\xff\xff" + long[1:], 65535, "", 0, api.ErrShort},
		// The most: just the length, one less, -1, 0, the greatest int.
		{"\x00\x02hi", 2, "hi", 4, api.OK}, {"\x00\x02hi", 1, "", 0, api.ErrBig}, {"\x00\x02hi", 0, "", 0, api.ErrBig}, {"\x00\x02hi", -1, "", 0, api.ErrArg}, {"\x00\x02hi", math.MinInt, "", 0, api.ErrArg}, {"\x00\x02hi", math.MaxInt, "hi", 4, api.OK},
		{"\x00\x00", 0, "", 2, api.OK}, {"\x00\x00", -1, "", 0, api.ErrArg}, {"\xff\xff" + long, 65534, "", 0, api.ErrBig}, {"\xff\xff" + long, math.MaxInt, long, 65537, api.OK},
		// The most comes before a string that is too short, and a most that may not be comes before all.
		{"\x00\x02h", 1, "", 0, api.ErrBig}, {"\xff\xff", 0, "", 0, api.ErrBig}, {"\x00\x02", -1, "", 0, api.ErrArg}, {"\x00", -1, "", 0, api.ErrArg}, {"", -1, "", 0, api.ErrArg}, {"", 0, "", 0, api.ErrShort},
		// It need not be a serial.
		{"\x00\x01a", 9, "a", 3, api.OK}, {"\x00\x11ABCDEFGHIJKLMNOPQ", 17, "ABCDEFGHIJKLMNOPQ", 19, api.OK},
	} {
		expect(t, strict.New(x.s), call{"Text", 0, x.most}, x.want, x.at, x.e)
	}
}

func TestRowOfSomeBytes(t *testing.T) {
	thousand := "\x03\xe8" + strings.Repeat("\x05", 1000)
	for _, x := range []struct {
		s           string
		width, most int
		want        []int
		at          int
		e           api.Errno
	}{
		// Just enough, and more.
		{"\x00\x02\x05\x06", 1, 9, []int{5, 6}, 4, api.OK}, {"\x00\x02\x05\x06\x07", 1, 9, []int{5, 6}, 4, api.OK}, {"\x00\x02\x00\x01\x01\x02", 2, 9, []int{1, 258}, 6, api.OK},
		{"\x00\x01\x00\x00\x01\x02\xff", 4, 9, []int{258}, 6, api.OK}, {"\x00\x01\x7f\xff\xff\xff\xff\xff\xff\xff", 8, 9, []int{math.MaxInt}, 10, api.OK},
		{"\x00\x00", 1, 9, nil, 2, api.OK}, {"\x00\x00\xff", 8, 0, nil, 2, api.OK}, {thousand, 1, 1000, slices.Repeat([]int{5}, 1000), 1002, api.OK}, {thousand, 1, math.MaxInt, slices.Repeat([]int{5}, 1000), 1002, api.OK},
		// Nothing, and too little, of the number of elements and of the elements.
		{"", 1, 9, nil, 0, api.ErrShort}, {"\x00", 1, 9, nil, 0, api.ErrShort}, {"\x00\x02", 1, 9, nil, 0, api.ErrShort}, {"\x00\x02\x05", 1, 9, nil, 0, api.ErrShort}, {"\x00\x02\x00\x01\x01", 2, 9, nil, 0, api.ErrShort}, {"\x00\x01\x00\x00\x00", 4, 9, nil, 0, api.ErrShort}, {"\x00\x01\x00\x00\x00\x00\x00\x00\x00", 8, 9, nil, 0, api.ErrShort}, {thousand[:1001], 1, 1000, nil, 0, api.ErrShort},
		// The most: just the number of elements, one less, -1, 0, the greatest int; and more than a list may have.
		{"\x00\x02\x05\x06", 1, 2, []int{5, 6}, 4, api.OK}, {"\x00\x02\x05\x06", 1, 1, nil, 0, api.ErrBig}, {"\x00\x02\x05\x06", 1, 0, nil, 0, api.ErrBig}, {"\x00\x02\x05\x06", 1, -1, nil, 0, api.ErrArg}, {"\x00\x02\x05\x06", 1, math.MinInt, nil, 0, api.ErrArg}, {"\x00\x02\x05\x06", 1, math.MaxInt, []int{5, 6}, 4, api.OK},
		{"\x00\x00", 1, 0, nil, 2, api.OK}, {"\x00\x00", 1, -1, nil, 0, api.ErrArg}, {thousand, 1, 999, nil, 0, api.ErrBig}, {"\x03\xe9" + thousand, 1, 1001, nil, 0, api.ErrBig}, {"\x03\xe9" + thousand, 1, math.MaxInt, nil, 0, api.ErrBig},
		// Elements may be as great as they like, but not greater than the greatest int.
		{"\x00\x01\xff", 1, 1, []int{255}, 3, api.OK}, {"\x00\x01\x80\x00\x00\x00\x00\x00\x00\x00", 8, 9, nil, 0, api.ErrOver}, {"\x00\x02\x00\x00\x00\x00\x00\x00\x00\x01\xff\xff\xff\xff\xff\xff\xff\xff", 8, 9, nil, 0, api.ErrOver},
		// Widths that are none come before all, and so does a most that may not be.
		{"\x00\x02\x05\x06", 0, 9, nil, 0, api.ErrArg}, {"\x00\x02\x05\x06", 3, 9, nil, 0, api.ErrArg}, {"\x00\x02\x05\x06", -1, 9, nil, 0, api.ErrArg}, {"\x00\x00", 9, 9, nil, 0, api.ErrArg}, {"", 3, 9, nil, 0, api.ErrArg}, {"", 1, -1, nil, 0, api.ErrArg}, {"\x00\x02\x05\x06", 3, 1, nil, 0, api.ErrArg}, {"\x00", 1, -1, nil, 0, api.ErrArg},
		// The most comes before elements that are missing, and the first element that is wrong counts.
		{"\x00\x02", 1, 1, nil, 0, api.ErrBig}, {"\xff\xff", 1, 1000, nil, 0, api.ErrBig}, {"\x00\x02\x80\x00\x00\x00\x00\x00\x00\x00", 8, 9, nil, 0, api.ErrOver}, {"\x00\x02\x00\x00\x00\x00\x00\x00\x00\x00\x80", 8, 9, nil, 0, api.ErrShort},
	} {
		expect(t, strict.New(x.s), call{"Row", x.width, x.most}, x.want, x.at, x.e)
	}
}

func TestFlagOfSomeBytes(t *testing.T) {
	for _, x := range []struct {
		s    string
		want bool
		at   int
		e    api.Errno
	}{
		{"\x00", false, 1, api.OK}, {"\x01", true, 1, api.OK}, {"\x02", false, 0, api.ErrForm}, {"\xff", false, 0, api.ErrForm}, {"\x03", false, 0, api.ErrForm}, {"\x80", false, 0, api.ErrForm}, {"\x81", false, 0, api.ErrForm},
		{"", false, 0, api.ErrShort},
		{"\x00\x01", false, 1, api.OK}, {"\x01\x00", true, 1, api.OK}, {"\x02\x00", false, 0, api.ErrForm}, {"\x00\xff", false, 1, api.OK}, {"\x01\xff", true, 1, api.OK},
	} {
		expect(t, strict.New(x.s), call{name: "Flag"}, x.want, x.at, x.e)
	}
}

func TestFlagOfEachByte(t *testing.T) {
	for b := range 256 {
		compare(t, string([]byte{byte(b)}), call{name: "Flag"}, call{name: "Flag"})
	}
}

// P6.2

func TestSerialOfSomeBytes(t *testing.T) {
	for _, x := range []struct {
		s    string
		want string
		at   int
		e    api.Errno
	}{
		// Just enough, and more.
		{lay("AB-12"), "AB-12", 7, api.OK}, {lay("AB-12") + "!", "AB-12", 7, api.OK}, {lay("A"), "A", 3, api.OK}, {lay("0") + "0", "0", 3, api.OK},
		// Nothing, and too little.
		{"", "", 0, api.ErrShort}, {"\x00", "", 0, api.ErrShort}, {"\x00\x02", "", 0, api.ErrShort}, {"\x00\x02A", "", 0, api.ErrShort}, {"\x00\x10ABCDEFGHIJKLMNO", "", 0, api.ErrShort},
		// As many bytes as a serial may have, and one more; serials and others.
		{lay("ABCDEFGHIJKLMNOP"), "ABCDEFGHIJKLMNOP", 18, api.OK}, {lay("ABCDEFGHIJKLMNOPQ"), "", 0, api.ErrBig}, {lay("ABCDEFGHIJKLMNOp"), "", 0, api.ErrSerial}, {lay("ABCDEFGHIJKLMNOPq"), "", 0, api.ErrBig}, {lay("-ABCDEFGHIJKLMNO"), "", 0, api.ErrSerial}, {lay("A-BCDEFGHIJKLM-N"), "A-BCDEFGHIJKLM-N", 18, api.OK},
		{lay("abcdefghijklmnop"), "", 0, api.ErrSerial}, {lay("0123456789-01234"), "0123456789-01234", 18, api.OK}, {lay("0123456789-012345"), "", 0, api.ErrBig},
		// What is none, as it stands.
		{lay(""), "", 0, api.ErrSerial}, {lay("a"), "", 0, api.ErrSerial}, {lay("ab-12"), "", 0, api.ErrSerial}, {lay("A--B"), "", 0, api.ErrSerial}, {lay("A-"), "", 0, api.ErrSerial}, {lay("-"), "", 0, api.ErrSerial}, {lay("A B"), "", 0, api.ErrSerial}, {lay("\xff"), "", 0, api.ErrSerial}, {lay("\x00"), "", 0, api.ErrSerial},
		// What Text says comes before what a serial is.
		{"\x00\x11a", "", 0, api.ErrBig}, {"\x00\x03a-", "", 0, api.ErrShort}, {"\x00\x02-", "", 0, api.ErrShort}, {"\xff\xff", "", 0, api.ErrBig},
	} {
		expect(t, strict.New(x.s), call{name: "Serial"}, x.want, x.at, x.e)
	}
}

func TestSerialsOfSomeBytes(t *testing.T) {
	three := "\x03" + lay("B", "A-1", "B")
	for _, x := range []struct {
		s    string
		most int
		want []string
		at   int
		e    api.Errno
	}{
		// Just enough, and more; they need be neither sorted nor different.
		{three, 9, []string{"B", "A-1", "B"}, 12, api.OK}, {three + "\x00", 9, []string{"B", "A-1", "B"}, 12, api.OK}, {"\x01" + lay("A"), 9, []string{"A"}, 4, api.OK}, {"\x00", 9, nil, 1, api.OK}, {"\x00" + lay("A"), 9, nil, 1, api.OK},
		// Nothing, and too little: of the number, and of each serial.
		{"", 9, nil, 0, api.ErrShort}, {"\x03", 9, nil, 1, api.ErrShort}, {three[:2], 9, nil, 1, api.ErrShort}, {three[:3], 9, nil, 1, api.ErrShort}, {three[:4], 9, nil, 4, api.ErrShort}, {three[:5], 9, nil, 4, api.ErrShort}, {three[:8], 9, nil, 4, api.ErrShort}, {three[:9], 9, nil, 9, api.ErrShort}, {three[:11], 9, nil, 9, api.ErrShort},
		// The most: just the number, one less, -1, 0, the greatest int, and that of a byte.
		{three, 3, []string{"B", "A-1", "B"}, 12, api.OK}, {three, 2, nil, 0, api.ErrBig}, {three, 0, nil, 0, api.ErrBig}, {three, -1, nil, 0, api.ErrBig}, {three, math.MinInt, nil, 0, api.ErrBig}, {three, math.MaxInt, []string{"B", "A-1", "B"}, 12, api.OK},
		{"\x00", 0, nil, 1, api.OK}, {"\x00", -1, nil, 0, api.ErrBig}, {"", -1, nil, 0, api.ErrShort}, {"", 0, nil, 0, api.ErrShort},
		{"\xff" + strings.Repeat(lay("A"), 255), 255, slices.Repeat([]string{"A"}, 255), 766, api.OK}, {"\xff" + strings.Repeat(lay("A"), 255), 254, nil, 0, api.ErrBig}, {"\xff" + strings.Repeat(lay("A"), 255), 256, slices.Repeat([]string{"A"}, 255), 766, api.OK},
		// The first, the middle and the last serial are wrong.
		{"\x03" + lay("b", "A", "B"), 9, nil, 1, api.ErrSerial}, {"\x03" + lay("B", "a", "B"), 9, nil, 4, api.ErrSerial}, {"\x03" + lay("B", "A", "b"), 9, nil, 7, api.ErrSerial}, {"\x03" + lay("B", "A", ""), 9, nil, 7, api.ErrSerial},
		{"\x03" + lay("ABCDEFGHIJKLMNOPQ", "A", "B"), 9, nil, 1, api.ErrBig}, {"\x03" + lay("B", "ABCDEFGHIJKLMNOPQ", "B"), 9, nil, 4, api.ErrBig}, {"\x03" + lay("B", "A", "ABCDEFGHIJKLMNOPQ"), 9, nil, 7, api.ErrBig},
		{"\x02" + lay("ABCDEFGHIJKLMNOP", "a"), 9, nil, 19, api.ErrSerial}, {"\xff" + strings.Repeat(lay("A"), 254) + lay("a"), 255, nil, 763, api.ErrSerial},
		// The number comes before the serials, and the first serial that is wrong counts.
		{"\x03" + lay("b", "A", "B"), 2, nil, 0, api.ErrBig}, {"\x03" + lay("b"), 2, nil, 0, api.ErrBig}, {"\x03" + lay("b"), 3, nil, 1, api.ErrSerial}, {"\x03" + lay("B", "", "ABCDEFGHIJKLMNOPQ"), 9, nil, 4, api.ErrSerial}, {"\x03" + lay("B", "ABCDEFGHIJKLMNOPQ", "b"), 9, nil, 4, api.ErrBig},
	} {
		expect(t, strict.New(x.s), call{"Serials", 0, x.most}, x.want, x.at, x.e)
	}
}

// P6.1 and P6.2 by their definition

// someBytes are texts that hold values of each kind, and others.
func someBytes() []string {
	l := []string{
		"\x00", "\x01", "\x02", "\x7f", "\x80", "\xff", "\x00\x00", "\x00\x01", "\x01\x00", "\x00\x02", "\xff\xff", "\x00\x01\x00\x00", "\x7f\xff\xff\xff\xff\xff\xff\xff", "\x80\x00\x00\x00\x00\x00\x00\x00", "\xff\xff\xff\xff\xff\xff\xff\xff",
		lay("A"), lay("a"), lay("AB-12"), lay("A-"), lay("ABCDEFGHIJKLMNOP"), lay("ABCDEFGHIJKLMNOPQ"), lay(strings.Repeat("x", 300)), lay("", "", ""),
		"\x02" + lay("A", "B"), "\x02" + lay("A", "b"), "\x01" + lay("ABCDEFGHIJKLMNOPQ"), "\x03" + lay("A", "B"),
		"\x00\x02\x05\x06", "\x00\x02\x00\x01\x01\x02", "\x00\x01\x00\x00\x01\x02", "\x00\x01\x80\x00\x00\x00\x00\x00\x00\x00", "\x00\x02\x00\x00\x00\x00\x00\x00\x00\x01\x7f\xff\xff\xff\xff\xff\xff\xff",
		"\x03\xe8" + strings.Repeat("\x01", 1000), "\x03\xe9" + strings.Repeat("\x01", 1001), "\x03\xe8" + strings.Repeat("\x01", 999),
	}
	for _, s := range slices.Clone(l) {
		l = append(l, s+"\x00", s+"\xff\xff", s[:len(s)-1], "\x01"+s, "\x00\x01A"+s)
	}
	return append(l, "")
}

func TestOneCallByItsDefinition(t *testing.T) {
	for _, s := range someBytes() {
		for _, most := range mosts(len(s)) {
			for _, width := range widths {
				compare(t, s, call{"Num", width, most})
				compare(t, s, call{"Row", width, most})
				compare(t, s, call{"Flag", 0, 0}, call{"Num", width, most}, call{"Row", width, most})
				compare(t, s, call{"Serial", 0, 0}, call{"Row", width, most})
			}
			compare(t, s, call{"Text", 0, most}, call{"End", 0, 0})
			compare(t, s, call{"Serials", 0, most}, call{"End", 0, 0})
			compare(t, s, call{"Num", 1, 255}, call{"Serials", 0, most})
			compare(t, s, call{"Num", 1, 255}, call{"Text", 0, most})
		}
	}
}

func TestNumbersAndTheirMostByTheirDefinition(t *testing.T) {
	r := rand.New(rand.NewSource(1))
	for range 3000 {
		s := randomText(r, 8)
		for _, width := range []int{1, 2, 4, 8} {
			for _, most := range mosts(number(s, width).got) {
				compare(t, s, call{"Num", width, most})
			}
		}
	}
}

func TestPairsOfCallsByTheirDefinition(t *testing.T) {
	for _, s := range someBytes() {
		for _, a := range everyCall {
			for _, b := range everyCall {
				compare(t, s, a, b)
			}
		}
	}
}

func TestManyCallsByTheirDefinition(t *testing.T) {
	r := rand.New(rand.NewSource(2))
	read := 0
	for range 200000 {
		s := randomText(r, r.Intn(24))
		calls := make([]call, 1+r.Intn(5))
		for i := range calls {
			calls[i] = everyCall[r.Intn(len(everyCall))]
		}
		if d := compare(t, s, calls...); d.e == api.OK && d.at > 0 {
			read++
		}
	}
	if read < 5000 {
		t.Errorf("only %d times all was read", read)
	}
}

// P6.3

func TestEnd(t *testing.T) {
	for _, x := range []struct {
		s     string
		calls []call
		at    int
		e     api.Errno
	}{
		{"", nil, 0, api.OK}, {"\x07", nil, 0, api.ErrRest}, {"\x07\x08\x09", nil, 0, api.ErrRest},
		{"\x07", []call{{"Num", 1, 9}}, 1, api.OK}, {"\x07\x08", []call{{"Num", 1, 9}}, 1, api.ErrRest}, {"\x07\x08", []call{{"Num", 1, 9}, {"Num", 1, 9}}, 2, api.OK}, {"\x07\x08", []call{{"Num", 2, 9999}}, 2, api.OK},
		{lay("A"), []call{{name: "Serial"}}, 3, api.OK}, {lay("A") + "\x00", []call{{name: "Serial"}}, 3, api.ErrRest}, {lay("hi"), []call{{"Text", 0, 2}}, 4, api.OK}, {lay("hi") + lay("hi"), []call{{"Text", 0, 2}}, 4, api.ErrRest},
		{"\x00\x02\x05\x06", []call{{"Row", 1, 2}}, 4, api.OK}, {"\x00\x02\x05\x06\x07", []call{{"Row", 1, 2}}, 4, api.ErrRest}, {"\x01" + lay("A"), []call{{"Serials", 0, 2}}, 4, api.OK}, {"\x01" + lay("A", "B"), []call{{"Serials", 0, 2}}, 4, api.ErrRest}, {"\x00\x01", []call{{name: "Flag"}}, 1, api.ErrRest},
	} {
		r := strict.New(x.s)
		for _, c := range x.calls {
			c.on(r)
		}
		if r.Err() != nil {
			t.Errorf("of % x %v: fault %v", x.s, x.calls, r.Err())
		}
		expect(t, r, call{name: "End"}, nil, x.at, x.e)
		expect(t, r, call{name: "End"}, nil, x.at, x.e)
	}
}

// An end that is there changes nothing: the next value is missing at the same offset.
func TestBehindAnEndNothingIsRead(t *testing.T) {
	for _, c := range []call{{"Num", 1, 9}, {"Num", 8, 9}, {"Text", 0, 9}, {"Serial", 0, 0}, {"Row", 2, 9}, {"Serials", 0, 9}, {"Flag", 0, 0}} {
		r := strict.New("\x07")
		expect(t, r, call{"Num", 1, 9}, 7, 1, api.OK)
		expect(t, r, call{name: "End"}, nil, 1, api.OK)
		expect(t, r, c, c.zero(), 1, api.ErrShort)
	}
}

// At and Err tell, and change nothing.
func TestAtAndErrChangeNothing(t *testing.T) {
	r := strict.New("\x07\x09\x0a")
	for range 3 {
		if r.At() != 0 || r.Err() != nil {
			t.Fatalf("at %d, fault %v", r.At(), r.Err())
		}
	}
	r.Num(1, 9)
	for range 3 {
		if r.At() != 1 || r.Err() != nil {
			t.Fatalf("at %d, fault %v", r.At(), r.Err())
		}
	}
	r.Num(1, 9)
	r.Num(1, 9)
	for range 3 {
		if r.At() != 2 || r.Err() != error(strict.Fault{Err: api.ErrBig, At: 2}) {
			t.Fatalf("at %d, fault %v", r.At(), r.Err())
		}
	}
}

// No fault is a nil error, and a fault is a Fault, and not a pointer to one.
func TestErrIsAFault(t *testing.T) {
	r := strict.New("\x02")
	var err error = r.Err()
	if err != nil {
		t.Errorf("without a fault: %v", err)
	}
	r.Flag()
	f, ok := r.Err().(strict.Fault)
	if !ok || f != (strict.Fault{Err: api.ErrForm, At: 0}) {
		t.Errorf("with a fault: %v, %t", f, ok)
	}
	if e, at := strict.Why(r.Err()); e != api.ErrForm || at != 0 {
		t.Errorf("Why returns %v at %d", e, at)
	}
	if strict.Must(r.Err()) != f {
		t.Errorf("Must returns %v", strict.Must(r.Err()))
	}
}

// P6.4

// wrapped is an error that wraps another one, and says that it is whatever is asked for.
type wrapped struct{ inner error }

func (w wrapped) Error() string { return w.inner.Error() }
func (w wrapped) Unwrap() error { return w.inner }
func (w wrapped) Is(error) bool { return true }
func (w wrapped) As(any) bool   { return true }

// alike has the fields of a Fault, and is none.
type alike strict.Fault

func (a alike) Error() string { return "error 3" }

// embedded has a Fault in it, and is none.
type embedded struct{ strict.Fault }

// angry is an error none of whose methods may be called.
type angry struct{}

func (angry) Error() string  { panic("Error is called") }
func (angry) Unwrap() error  { panic("Unwrap is called") }
func (angry) Is(error) bool  { panic("Is is called") }
func (angry) As(any) bool    { panic("As is called") }
func (angry) String() string { panic("String is called") }

// faults are faults, also such as no reader gives.
var faults = []strict.Fault{
	{}, {Err: api.ErrBig, At: 7}, {Err: api.ErrNil}, {Err: api.ErrRest, At: 1}, {Err: api.ErrSerial, At: 4}, {Err: api.OK, At: 5}, {Err: api.ErrLine, At: -1},
	{Err: -1, At: math.MinInt}, {Err: 12345, At: math.MaxInt}, {Err: api.ErrArg, At: 0}, {Err: api.ErrArg, At: 9},
}

// otherErrors are errors that are no faults.
func otherErrors() []error {
	var noFault *strict.Fault
	var noErrno *api.Errno
	f := strict.Fault{Err: api.ErrBig, At: 7}
	return []error{
		errors.New("error 3"), errors.New(""), api.ErrBig, api.ErrArg, api.OK, api.Errno(-1), &f, noFault, noErrno,
		wrapped{f}, &wrapped{f}, wrapped{api.ErrBig}, fmt.Errorf("a fault: %w", f), errors.Join(f), errors.Join(f, f), errors.Join(errors.New("x"), f),
		alike(f), embedded{f}, &embedded{f}, angry{}, &angry{}, strconv.ErrRange,
	}
}

func TestWhy(t *testing.T) {
	if e, at := strict.Why(nil); e != api.OK || at != 0 {
		t.Errorf("Why(nil) = %v, %d", e, at)
	}
	for _, f := range faults {
		if e, at := strict.Why(f); e != f.Err || at != f.At {
			t.Errorf("Why of the error %d at %d = %d, %d", int(f.Err), f.At, int(e), at)
		}
	}
	for i, err := range otherErrors() {
		if e, at := strict.Why(err); e != api.ErrArg || at != 0 {
			t.Errorf("Why of the error with the index %d = %d, %d, want ErrArg, 0", i, int(e), at)
		}
	}
}

func TestMustReturnsTheFault(t *testing.T) {
	for _, f := range faults {
		if got := strict.Must(f); got != f {
			t.Errorf("Must of the error %d at %d = %d, %d", int(f.Err), f.At, int(got.Err), got.At)
		}
	}
}

// panicOf returns the value with which a call panics, nil if it does not.
func panicOf(f func()) (p any) {
	defer func() { p = recover() }()
	f()
	return nil
}

func TestMustPanics(t *testing.T) {
	for i, err := range append(otherErrors(), nil) {
		got := panicOf(func() { strict.Must(err) })
		want := panicOf(func() { _ = err.(strict.Fault) })
		failed, ok := got.(*runtime.TypeAssertionError)
		if !ok {
			t.Errorf("Must of the error with the index %d panics with %v, want a failed assertion", i, got)
			continue
		}
		if text := want.(*runtime.TypeAssertionError).Error(); failed.Error() != text {
			t.Errorf("Must of the error with the index %d panics with %q, want %q", i, failed.Error(), text)
		}
	}
}

func TestMustOfAReaderWithoutAFaultPanics(t *testing.T) {
	r := strict.New("\x07")
	if panicOf(func() { strict.Must(r.Err()) }) == nil {
		t.Error("Must does not panic")
	}
	if f := strict.Must((*strict.Reader)(nil).Err()); f != (strict.Fault{Err: api.ErrNil}) {
		t.Errorf("Must of the fault of a nil reader = %v", f)
	}
}

func TestErrorIsTheTextOfTheError(t *testing.T) {
	for e, want := range map[api.Errno]string{api.OK: "error 0", api.ErrNil: "error 1", api.ErrSum: "error 7", api.ErrSerial: "error 9", api.ErrDead: "error 20", api.ErrLine: "error 50", 1234: "error 1234", -5: "error 0"} {
		for _, at := range []int{0, 1, -1, 7, math.MaxInt} {
			f := strict.Fault{Err: e, At: at}
			if f.Error() != want || f.Error() != e.Error() {
				t.Errorf("the text of the error %d at %d is %q, want %q", int(e), at, f.Error(), want)
			}
		}
	}
	r := strict.New("\x02")
	r.Flag()
	if err := r.Err(); err.Error() != "error 5" {
		t.Errorf("the text of the fault is %q", err.Error())
	}
}

// P6.5

// failing are readers with a fault, and the fault of each.
func failing() map[strict.Fault]func() *strict.Reader {
	behind := func(s string, calls ...call) func() *strict.Reader {
		return func() *strict.Reader {
			r := strict.New(s)
			for _, c := range calls {
				c.on(r)
			}
			return r
		}
	}
	// Behind each of them stands what could well be read.
	good := "\x01\x00\x01A\x00\x01A\x00\x01A"
	return map[strict.Fault]func() *strict.Reader{
		{Err: api.ErrBig, At: 0}:    behind("\x01"+good, call{"Num", 1, 0}),
		{Err: api.ErrBig, At: 1}:    behind("\x07\x07"+good, call{"Num", 1, 7}, call{"Num", 1, 6}),
		{Err: api.ErrArg, At: 0}:    behind(good, call{"Num", 3, 9}),
		{Err: api.ErrArg, At: 1}:    behind(good, call{"Num", 1, 9}, call{"Text", 0, -1}),
		{Err: api.ErrArg, At: 4}:    behind(good, call{"Serials", 0, 9}, call{"Row", 1, -1}),
		{Err: api.ErrOver, At: 0}:   behind("\x80\x00\x00\x00\x00\x00\x00\x00"+good, call{"Num", 8, math.MaxInt}),
		{Err: api.ErrShort, At: 2}:  behind("\x00\x00\x00\x05A", call{"Text", 0, 0}, call{"Text", 0, 9}),
		{Err: api.ErrShort, At: 10}: behind(good, call{"Serials", 0, 9}, call{"Serial", 0, 0}, call{"Serial", 0, 0}, call{"Flag", 0, 0}),
		{Err: api.ErrSerial, At: 0}: behind(lay("a")+good, call{"Serial", 0, 0}),
		{Err: api.ErrSerial, At: 4}: behind("\x03"+lay("A", "b", "C")+good, call{"Serials", 0, 9}),
		{Err: api.ErrForm, At: 0}:   behind("\x02"+good, call{"Flag", 0, 0}),
		{Err: api.ErrForm, At: 3}:   behind("\x00\x01\x00\xff"+good, call{"Row", 1, 9}, call{"Flag", 0, 0}),
		{Err: api.ErrRest, At: 0}:   behind(good, call{"End", 0, 0}),
		{Err: api.ErrRest, At: 1}:   behind(good, call{"Flag", 0, 0}, call{"End", 0, 0}),
	}
}

func TestBehindAFaultNothingChanges(t *testing.T) {
	for f, made := range failing() {
		r := made()
		if r.Err() != error(f) || r.At() != f.At {
			t.Fatalf("want the fault %d at %d: %v at %d", int(f.Err), f.At, r.Err(), r.At())
		}
		before := *r
		for _, c := range everyCall {
			for _, s := range []*strict.Reader{r, made()} {
				if got := c.on(s); !nothing(got) || s.At() != f.At || s.Err() != error(f) {
					t.Errorf("behind the fault %d at %d %v returns %v at %d, fault %v", int(f.Err), f.At, c, got, s.At(), s.Err())
				}
			}
		}
		if *r != before {
			t.Errorf("behind the fault %d at %d the reader has changed", int(f.Err), f.At)
		}
	}
}

func TestTheFirstFaultStays(t *testing.T) {
	r := rand.New(rand.NewSource(3))
	stayed := 0
	for range 50000 {
		reader := strict.New(randomText(r, r.Intn(16)))
		var first error
		at := 0
		for range 12 {
			c := everyCall[r.Intn(len(everyCall))]
			got := c.on(reader)
			if first != nil {
				stayed++
				if !nothing(got) || reader.Err() != first || reader.At() != at {
					t.Errorf("behind the fault %v at %d %v returns %v at %d, fault %v", first, at, c, got, reader.At(), reader.Err())
				}
				continue
			}
			if first = reader.Err(); first != nil && !nothing(got) {
				t.Errorf("beside the fault %v %v returns %v", first, c, got)
			}
			if reader.At() < at {
				t.Errorf("%v moves the offset from %d to %d", c, at, reader.At())
			}
			at = reader.At()
		}
	}
	if stayed < 100000 {
		t.Errorf("only %d calls were behind a fault", stayed)
	}
}

// P6.6

// again encodes what a call has returned.
func again(t *testing.T, c call, got any) string {
	t.Helper()
	must := encoded(t)
	switch x := got.(type) {
	case int:
		return must(octet.Put(x, c.width))
	case string:
		return must(octet.Lay(x))
	case []int:
		return must(octet.Row(c.width, x...))
	case []string:
		s := must(octet.Put(len(x), 1))
		for _, serial := range x {
			s += must(octet.Lay(serial))
		}
		return s
	case bool:
		return octet.Flag(x)
	}
	return ""
}

// randomValue returns a call that can read a value, and the value's encoding.
func randomValue(t *testing.T, r *rand.Rand) (call, string) {
	t.Helper()
	width := []int{1, 2, 4, 8}[r.Intn(4)]
	random := func() int { return int(r.Uint64() >> (64 - min(r.Intn(8*width+1), 63))) }
	switch r.Intn(6) {
	case 0:
		n := random()
		return call{"Num", width, n + r.Intn(2)*(math.MaxInt-n)}, again(t, call{width: width}, n)
	case 1:
		s := randomText(r, r.Intn(300))
		return call{"Text", 0, len(s) + r.Intn(3)}, again(t, call{}, s)
	case 2:
		return call{"Serial", 0, 0}, again(t, call{}, randomSerial(r))
	case 3:
		l := make([]int, r.Intn(20))
		for i := range l {
			l[i] = random()
		}
		return call{"Row", width, len(l) + r.Intn(3)}, again(t, call{width: width}, l)
	case 4:
		l := make([]string, r.Intn(20))
		for i := range l {
			l[i] = randomSerial(r)
		}
		return call{"Serials", 0, len(l) + r.Intn(3)}, again(t, call{}, l)
	}
	return call{"Flag", 0, 0}, again(t, call{}, r.Intn(2) == 1)
}

// whole makes calls up to the end, and returns whether there was no fault, and what was read, encoded again.
func whole(t *testing.T, s string, calls []call) (bool, string) {
	t.Helper()
	r, all := strict.New(s), ""
	for _, c := range calls {
		got := c.on(r)
		if r.Err() != nil {
			return false, ""
		}
		all += again(t, c, got)
		if all != s[:r.At()] {
			t.Errorf("of % .60x %v: what was read up to %d is encoded as % .60x", s, calls, r.At(), all)
		}
	}
	r.End()
	return r.Err() == nil, all
}

// changed returns a text with a byte changed, missing or added.
func changed(r *rand.Rand, s string) string {
	i := r.Intn(len(s))
	switch r.Intn(4) {
	case 0:
		return s[:i] + s[i+1:]
	case 1:
		return s[:i] + string([]byte{byte(r.Intn(3))}) + s[i:]
	}
	return s[:i] + string([]byte{s[i] ^ 1<<r.Intn(8)}) + s[i+1:]
}

func TestWhatIsReadToTheEndIsEncodedSo(t *testing.T) {
	r := rand.New(rand.NewSource(4))
	read, refused := 0, 0
	for range 20000 {
		s, calls := "", []call{}
		for range 1 + r.Intn(6) {
			c, value := randomValue(t, r)
			s, calls = s+value, append(calls, c)
		}
		compare(t, s, append(calls, call{name: "End"})...)
		if ok, all := whole(t, s, calls); !ok || all != s {
			t.Errorf("of % .60x %v: what was encoded is not read to the end, or is encoded again as % .60x", s, calls, all)
		}
		other := changed(r, s)
		compare(t, other, append(calls, call{name: "End"})...)
		ok, all := whole(t, other, calls)
		if !ok {
			refused++
			continue
		}
		read++
		if all != other {
			t.Errorf("of % .60x %v: encoded again as % .60x", other, calls, all)
		}
	}
	if read < 2000 || refused < 2000 {
		t.Errorf("of the changed bytes %d were read and %d were refused", read, refused)
	}
}

func TestWhatIsReadOfShortBytesIsEncodedSo(t *testing.T) {
	all := []string{""}
	for range 4 {
		for _, s := range all {
			for _, b := range []string{"\x00", "\x01", "\x02", "A", "\xff"} {
				all = append(all, s+b)
			}
		}
		slices.Sort(all)
		all = slices.Compact(all)
	}
	if len(all) != 781 {
		t.Fatalf("%d short texts", len(all))
	}
	read := 0
	for _, s := range all {
		for _, a := range everyCall {
			for _, b := range everyCall {
				compare(t, s, a, b)
				if ok, again := whole(t, s, []call{a, b}); ok {
					read++
					if again != s {
						t.Errorf("of % x %v, %v: encoded again as % x", s, a, b, again)
					}
				}
			}
		}
	}
	if read < 1000 {
		t.Errorf("only %d times all was read", read)
	}
}

// All that is encoded is read, one value of each kind behind the other.
func TestValuesFollowEachOther(t *testing.T) {
	s := "\x00\x00\x01\x02" + lay("hi!") + lay("AB-12") + "\x00\x02\x00\x01\x01\x02" + "\x02" + lay("B", "A") + "\x01" + "\x00"
	r := strict.New(s)
	expect(t, r, call{"Num", 4, 258}, 258, 4, api.OK)
	expect(t, r, call{"Text", 0, 3}, "hi!", 9, api.OK)
	expect(t, r, call{"Serial", 0, 0}, "AB-12", 16, api.OK)
	expect(t, r, call{"Row", 2, 2}, []int{1, 258}, 22, api.OK)
	expect(t, r, call{"Serials", 0, 2}, []string{"B", "A"}, 29, api.OK)
	expect(t, r, call{"Flag", 0, 0}, true, 30, api.OK)
	expect(t, r, call{"Flag", 0, 0}, false, 31, api.OK)
	expect(t, r, call{"End", 0, 0}, nil, 31, api.OK)
	if len(s) != 31 {
		t.Errorf("%d bytes", len(s))
	}
}

// The general rules

// Readers of the same bytes know nothing of each other.
func TestReadersAreIndependent(t *testing.T) {
	s := "\x01\x00\x01A"
	a, b := strict.New(s), strict.New(s)
	expect(t, a, call{"Num", 1, 9}, 1, 1, api.OK)
	expect(t, b, call{"Num", 1, 0}, 0, 0, api.ErrBig)
	expect(t, a, call{"Serial", 0, 0}, "A", 4, api.OK)
	c := strict.New(s)
	expect(t, c, call{"Serials", 0, 1}, []string{"A"}, 4, api.OK)
	expect(t, b, call{"Num", 1, 9}, 0, 0, api.ErrBig)
	expect(t, c, call{"End", 0, 0}, nil, 4, api.OK)
}

// What is read is new each time: to change one result changes no other one.
func TestListsAreNew(t *testing.T) {
	s := "\x00\x02\x05\x06\x02" + lay("A", "B")
	a, b := strict.New(s), strict.New(s)
	numbers := a.Row(1, 2)
	serials := a.Serials(2)
	numbers[0], serials[0] = 9, "X"
	_, _ = append(numbers, 9), append(serials, "X")
	expect(t, b, call{"Row", 1, 2}, []int{5, 6}, 4, api.OK)
	expect(t, b, call{"Serials", 0, 2}, []string{"A", "B"}, 11, api.OK)
}

// within reports whether a text lies in the memory of another one.
func within(text, whole string) bool {
	from := uintptr(unsafe.Pointer(unsafe.StringData(whole)))
	at := uintptr(unsafe.Pointer(unsafe.StringData(text)))
	return len(text) > 0 && from <= at && at < from+uintptr(len(whole))
}

// The bytes that are handed in are neither kept nor handed out.
func TestTextsAreNew(t *testing.T) {
	memory := []byte(lay("hi!", "AB-12") + "\x02" + lay("B", "A"))
	s := unsafe.String(unsafe.SliceData(memory), len(memory))
	r := strict.New(s)
	l := append([]string{r.Text(3), r.Serial()}, r.Serials(2)...)
	if !slices.Equal(l, []string{"hi!", "AB-12", "B", "A"}) {
		t.Fatalf("%q", l)
	}
	for _, x := range l {
		if within(x, s) {
			t.Errorf("%q lies in the bytes that were read", x)
		}
	}
	r = strict.New(s)
	clear(memory)
	if got := r.Text(3); got != "hi!" {
		t.Errorf("%q is read when the memory of the bytes has changed", got)
	}
}
