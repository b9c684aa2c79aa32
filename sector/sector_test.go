package sector_test

import (
	"fmt"
	"math"
	"math/rand"
	"slices"
	"strings"
	"sync"
	"testing"
	"unsafe"

	"backhaul/api"
	"backhaul/sector"
)

// most is how many sectors a device may have.
const most = 2000

// device is what both a Device and its definition do.
type device interface {
	Write(at int, text string) api.Errno
	Read(at, n int) (string, api.Errno)
	Flush() api.Errno
	Size() int
	Loose() []int
	Ops() int
	Arm(after int) api.Errno
	Off() api.Errno
	On() bool
	Boot(c api.Choice) api.Errno
}

// write is a sector that was written.
type write struct {
	at   int
	text string
}

// definition is a device by the words of the chapter: the durable contents of all sectors, and what was written since, in the order of the writes.
type definition struct {
	durable []string
	since   []write
	off     bool
	ops     uint64
	// armed is the number of the armed operation among all since New, 0 if there is none.
	armed uint64
}

var zeros = strings.Repeat("\x00", 64)

func define(n int) *definition { return &definition{durable: slices.Repeat([]string{zeros}, n)} }

// written returns what was written to a sector last, if it is loose.
func (d *definition) written(at int) (string, bool) {
	for _, w := range slices.Backward(d.since) {
		if w.at == at {
			return w.text, true
		}
	}
	return "", false
}

func (d *definition) contents(at int) string {
	if text, loose := d.written(at); loose {
		return text
	}
	return d.durable[at]
}

func (d *definition) exist(at, n int) bool {
	return at >= 0 && n >= 0 && uint64(at)+uint64(n) <= uint64(len(d.durable))
}

// operation reports whether there still is power after an operation.
func (d *definition) operation() bool {
	d.ops++
	if d.ops == d.armed {
		d.off, d.armed = true, 0
	}
	return !d.off
}

func (d *definition) Write(at int, text string) api.Errno {
	switch {
	case d.off:
		return api.ErrDead
	case text == "" || len(text)%64 != 0:
		return api.ErrArg
	case !d.exist(at, len(text)/64):
		return api.ErrRange
	}
	for ; text != ""; text = text[64:] {
		d.since = append(d.since, write{at, text[:64]})
		at++
		if !d.operation() {
			return api.ErrDead
		}
	}
	return api.OK
}

func (d *definition) Read(at, n int) (string, api.Errno) {
	switch {
	case d.off:
		return "", api.ErrDead
	case n < 1:
		return "", api.ErrArg
	case !d.exist(at, n):
		return "", api.ErrRange
	}
	var text strings.Builder
	for i := range n {
		text.WriteString(d.contents(at + i))
	}
	return text.String(), api.OK
}

func (d *definition) Flush() api.Errno {
	if d.off || !d.operation() {
		return api.ErrDead
	}
	for _, w := range d.since {
		d.durable[w.at] = w.text
	}
	d.since = nil
	return api.OK
}

func (d *definition) Size() int { return len(d.durable) }

func (d *definition) Loose() []int {
	var l []int
	if d.off {
		return l
	}
	for at := range d.durable {
		if _, loose := d.written(at); loose {
			l = append(l, at)
		}
	}
	return l
}

func (d *definition) Ops() int { return int(d.ops) }

func (d *definition) Arm(after int) api.Errno {
	switch {
	case d.off:
		return api.ErrDead
	case after < 1:
		return api.ErrArg
	}
	d.armed = d.ops + uint64(after)
	return api.OK
}

func (d *definition) Off() api.Errno {
	d.off, d.armed = true, 0
	return api.OK
}

func (d *definition) On() bool { return !d.off }

func (d *definition) Boot(c api.Choice) api.Errno {
	number := 0
	for at, before := range d.durable {
		text, loose := d.written(at)
		if !loose {
			continue
		}
		if number == c.Torn {
			cut := c.Cut
			if cut < 0 {
				cut = 0
			}
			if cut > 64 {
				cut = 64
			}
			d.durable[at] = text[:cut] + before[cut:]
		} else if number < len(c.Keep) && c.Keep[number] {
			d.durable[at] = text
		}
		number++
	}
	d.since, d.off, d.armed = nil, false, 0
	return api.OK
}

func (d *definition) copied() *definition {
	c := *d
	c.durable, c.since = slices.Clone(d.durable), slices.Clone(d.since)
	return &c
}

// call is a call that can change a device, or Read.
type call struct {
	name   string
	at, n  int
	text   string
	choice api.Choice
}

func writing(at int, text string) call { return call{name: "Write", at: at, text: text} }
func reading(at, n int) call           { return call{name: "Read", at: at, n: n} }
func flushing() call                   { return call{name: "Flush"} }
func arming(after int) call            { return call{name: "Arm", n: after} }
func switchingOff() call               { return call{name: "Off"} }
func booting(torn, cut int, keep ...bool) call {
	return call{name: "Boot", choice: api.Choice{Keep: keep, Torn: torn, Cut: cut}}
}

func (c call) String() string {
	switch c.name {
	case "Write":
		return fmt.Sprintf("Write(%d, %d bytes)", c.at, len(c.text))
	case "Read":
		return fmt.Sprintf("Read(%d, %d)", c.at, c.n)
	case "Arm":
		return fmt.Sprintf("Arm(%d)", c.n)
	case "Boot":
		return fmt.Sprintf("Boot(%v)", c.choice)
	}
	return c.name + "()"
}

// on makes the call.
func (c call) on(d device) (string, api.Errno) {
	switch c.name {
	case "Write":
		return "", d.Write(c.at, c.text)
	case "Read":
		return d.Read(c.at, c.n)
	case "Flush":
		return "", d.Flush()
	case "Arm":
		return "", d.Arm(c.n)
	case "Off":
		return "", d.Off()
	case "Boot":
		return "", d.Boot(c.choice)
	}
	panic("no method " + c.name)
}

// sectorsOf returns sectors of which each has one byte 64 times.
func sectorsOf(bytes string) string {
	var text strings.Builder
	for i := range len(bytes) {
		text.WriteString(strings.Repeat(bytes[i:i+1], 64))
	}
	return text.String()
}

// randomSectors returns n sectors of random bytes.
func randomSectors(r *rand.Rand, n int) string {
	b := make([]byte, 64*n)
	r.Read(b)
	return string(b)
}

// made returns a device that New returned.
func made(t *testing.T, n int) *sector.Device {
	t.Helper()
	d, e := sector.New(n)
	if d == nil || e != api.OK {
		t.Fatalf("New(%d) = %v, %d", n, d, int(e))
	}
	return d
}

// sight is all that calls show of a device without changing it.
type sight struct {
	size, ops int
	on        bool
	loose     string
	text      string
	e         api.Errno
}

func seen(d device) sight {
	s := sight{size: d.Size(), ops: d.Ops(), on: d.On(), loose: fmt.Sprint(d.Loose())}
	s.text, s.e = d.Read(0, d.Size())
	return s
}

// brief leaves out what is too long for a message.
func (s sight) brief() string {
	return fmt.Sprintf("{%d sectors, %d ops, on %t, loose %s, contents %.80q, %d}", s.size, s.ops, s.on, s.loose, s.text, int(s.e))
}

// pair is a device and its definition, on which the same calls are made.
type pair struct {
	t     *testing.T
	d     *sector.Device
	m     *definition
	calls []call
}

func newPair(t *testing.T, n int) *pair {
	t.Helper()
	p := &pair{t: t, d: made(t, n), m: define(n)}
	p.compare()
	return p
}

func (p *pair) failf(format string, args ...any) {
	p.t.Helper()
	p.t.Fatalf("%d sectors, %v: %s", p.m.Size(), p.calls[max(0, len(p.calls)-30):], fmt.Sprintf(format, args...))
}

// compare checks that the device shows what its definition shows.
func (p *pair) compare() {
	p.t.Helper()
	if got, want := seen(p.d), seen(p.m); got != want {
		p.failf("it is %s, want %s", got.brief(), want.brief())
	}
}

// do makes calls, and checks after each of them what it returns and what the device shows.
func (p *pair) do(calls ...call) *pair {
	p.t.Helper()
	for _, c := range calls {
		p.calls = append(p.calls, c)
		got, e := c.on(p.d)
		if want, code := c.on(p.m); got != want || e != code {
			p.failf("the last call returns %.80q, %d, want %.80q, %d", got, int(e), want, int(code))
		}
		p.compare()
	}
	return p
}

// copied returns a pair of the copies.
func (p *pair) copied() *pair {
	p.t.Helper()
	c := p.d.Copy()
	if c == nil || c == p.d {
		p.failf("Copy returns %p of %p", c, p.d)
	}
	return &pair{t: p.t, d: c, m: p.m.copied(), calls: slices.Concat(p.calls, []call{{name: "Copy"}})}
}

// probe compares what only changes show, on copies: the armed operation, and what the loose sectors can contain.
func (p *pair) probe() *pair {
	p.t.Helper()
	p.compare()
	flushes, writes := p.copied(), p.copied()
	for range 8 {
		flushes.do(flushing())
		writes.do(writing(0, sectorsOf("z")))
	}
	p.copied().do(booting(-1, 0), flushing())
	p.copied().do(booting(-1, 0, slices.Repeat([]bool{true}, p.m.Size())...), flushing())
	for i := range min(4, p.m.Size()) {
		p.copied().do(booting(i, 7), flushing())
	}
	p.compare()
	return p
}

// expect checks what a call returns, by the words of the test, and then against the definition.
func (p *pair) expect(c call, text string, e api.Errno) *pair {
	p.t.Helper()
	if want, code := c.on(p.m.copied()); want != text || code != e {
		p.failf("%v of the definition returns %.80q, %d, want %.80q, %d", c, want, int(code), text, int(e))
	}
	return p.do(c)
}

// refused checks that a call returns an error, and that it changes nothing and counts nothing.
func (p *pair) refused(c call, e api.Errno) *pair {
	p.t.Helper()
	before := seen(p.d)
	p.expect(c, "", e)
	if after := seen(p.d); after != before {
		p.failf("refused, it is %s, before %s", after.brief(), before.brief())
	}
	return p
}

// shows checks what all sectors of a device contain, by a byte for each sector.
func (p *pair) shows(bytes string) *pair {
	p.t.Helper()
	return p.expect(reading(0, p.d.Size()), sectorsOf(bytes), api.OK)
}

// loose checks which sectors are loose, and how many operations there were.
func (p *pair) loose(ops int, want ...int) *pair {
	p.t.Helper()
	if got := p.d.Loose(); !slices.Equal(got, want) || p.d.Ops() != ops {
		p.failf("loose are %v after %d ops, want %v after %d", got, p.d.Ops(), want, ops)
	}
	return p
}

// powered checks whether the power is on.
func (p *pair) powered(want bool) *pair {
	p.t.Helper()
	if got := p.d.On(); got != want {
		p.failf("On() = %t", got)
	}
	return p
}

// extremes lie around small numbers, around limits, and where a number of fewer bits wraps around.
func extremes(n int) []int {
	return []int{math.MinInt, math.MinInt + 1, -1 << 62, -1 << 32, 1 - 1<<32, -most - 1, -most, -n - 1, -n, -65, -64, -2, -1, 1 << 32, 1<<32 + 1, 1 << 57, 1 << 58, 1 << 62, math.MaxInt - most, math.MaxInt - 64, math.MaxInt - 1, math.MaxInt}
}

// The examples

func TestExampleOfArm(t *testing.T) {
	for _, keep := range [][]bool{{true, true}, {true}, {}} {
		d := made(t, 2)
		if e := d.Arm(2); e != api.OK {
			t.Fatal(int(e))
		}
		if e := d.Write(0, sectorsOf("bc")); e != api.ErrDead {
			t.Errorf("writing two sectors returns %d", int(e))
		}
		if d.On() || d.Ops() != 2 {
			t.Errorf("on %t, %d operations", d.On(), d.Ops())
		}
		if e := d.Boot(api.Choice{Keep: keep, Torn: -1}); e != api.OK {
			t.Fatal(int(e))
		}
		want := sectorsOf("bc"[:len(keep)]) + strings.Repeat(zeros, 2-len(keep))
		if got, e := d.Read(0, 2); got != want || e != api.OK {
			t.Errorf("with Keep %v they contain %q, %d", keep, got, int(e))
		}
	}
}

func TestExampleOfBoot(t *testing.T) {
	d := made(t, 3)
	for _, e := range []api.Errno{
		d.Write(0, sectorsOf("a")), d.Flush(), d.Write(0, sectorsOf("bcd")),
		d.Boot(api.Choice{Keep: []bool{false, true}, Torn: 2, Cut: 10}),
	} {
		if e != api.OK {
			t.Fatal(int(e))
		}
	}
	want := sectorsOf("ac") + strings.Repeat("d", 10) + strings.Repeat("\x00", 54)
	if got, e := d.Read(0, 3); got != want || e != api.OK {
		t.Errorf("they contain %q, %d", got, int(e))
	}
}

func TestExampleOfTwoLooseSectors(t *testing.T) {
	d := made(t, 5)
	for _, e := range []api.Errno{
		d.Write(0, sectorsOf("abcde")), d.Flush(), d.Write(3, sectorsOf("y")), d.Write(1, sectorsOf("x")),
		d.Boot(api.Choice{Keep: []bool{true}, Torn: 1, Cut: 3}),
	} {
		if e != api.OK {
			t.Fatal(int(e))
		}
	}
	want := sectorsOf("axc") + strings.Repeat("y", 3) + strings.Repeat("d", 61) + sectorsOf("e")
	if got, e := d.Read(0, 5); got != want || e != api.OK {
		t.Errorf("they contain %q, %d", got, int(e))
	}
}

// A device that New did not return

// calls are calls of each method that returns an error, ones that a device permits and ones that it refuses.
func calls(n int) []call {
	l := []call{
		writing(0, sectorsOf("a")), writing(n-1, sectorsOf("b")), writing(0, ""), writing(-1, ""), writing(n, sectorsOf("a")), writing(-1, sectorsOf("a")), writing(0, "abc"),
		reading(0, 1), reading(n-1, 1), reading(0, n), reading(0, 0), reading(-1, 0), reading(0, -1), reading(n, 1), reading(-1, 1), reading(0, n+1),
		flushing(), arming(1), arming(0), arming(-1), arming(2), arming(math.MaxInt), arming(math.MinInt), switchingOff(),
		booting(-1, 0), booting(0, 0), booting(0, 64, true), booting(-1, 0, true, true), booting(math.MaxInt, math.MaxInt), booting(math.MinInt, math.MinInt),
	}
	for _, at := range extremes(n) {
		l = append(l, writing(at, sectorsOf("a")), reading(at, 1), reading(0, at), reading(at, at))
	}
	return l
}

func TestDevicesThatNewDidNotReturn(t *testing.T) {
	for _, c := range calls(0) {
		unmade := &sector.Device{}
		for name, d := range map[string]*sector.Device{"a nil device": nil, "a Device{}": unmade} {
			for range 2 {
				if got, e := c.on(d); got != "" || e != api.ErrNil {
					t.Errorf("%v of %s returns %q, %d", c, name, got, int(e))
				}
				if s := seen(d); s != (sight{loose: "[]", e: api.ErrNil}) {
					t.Errorf("%s is %s after %v", name, s.brief(), c)
				}
				if got := d.Copy(); got != nil {
					t.Errorf("Copy of %s returns %v after %v", name, got, c)
				}
			}
		}
	}
}

func TestEachCallOfADeviceThatNewDidNotReturnIsTheFirst(t *testing.T) {
	for _, zero := range []func() *sector.Device{func() *sector.Device { return nil }, func() *sector.Device { return &sector.Device{} }} {
		if got := zero().Size(); got != 0 {
			t.Errorf("Size returns %d", got)
		}
		if got := zero().Loose(); len(got) != 0 {
			t.Errorf("Loose returns %v", got)
		}
		if got := zero().Ops(); got != 0 {
			t.Errorf("Ops returns %d", got)
		}
		if zero().On() {
			t.Error("On returns true")
		}
		if got := zero().Copy(); got != nil {
			t.Errorf("Copy returns %v", got)
		}
		if got, e := zero().Read(0, 1); got != "" || e != api.ErrNil {
			t.Errorf("Read returns %q, %d", got, int(e))
		}
		if e := zero().Write(0, sectorsOf("a")); e != api.ErrNil {
			t.Errorf("Write returns %d", int(e))
		}
		if e := zero().Flush(); e != api.ErrNil {
			t.Errorf("Flush returns %d", int(e))
		}
		if e := zero().Arm(1); e != api.ErrNil {
			t.Errorf("Arm returns %d", int(e))
		}
		if e := zero().Off(); e != api.ErrNil {
			t.Errorf("Off returns %d", int(e))
		}
		if e := zero().Boot(api.Choice{}); e != api.ErrNil {
			t.Errorf("Boot returns %d", int(e))
		}
	}
}

// P8.1

func TestNew(t *testing.T) {
	for _, n := range []int{1, 2, 3, 4, 5, 63, 64, 65, 200, 255, 256, 257, 1000, 1998, 1999, 2000} {
		d := made(t, n)
		if got := d.Size(); got != n {
			t.Errorf("New(%d): Size() = %d", n, got)
		}
		if want := (sight{size: n, on: true, loose: "[]", text: strings.Repeat("\x00", 64*n)}); seen(d) != want {
			t.Errorf("New(%d) is %s", n, seen(d).brief())
		}
		newPair(t, n).probe()
	}
}

func TestNewRefuses(t *testing.T) {
	for _, n := range append(extremes(7), 0, 2001, 2002, 2048, 4000, 4001, 10000, 1<<16, 1<<16+1, 1<<31, 1<<32+2000) {
		if d, e := sector.New(n); d != nil || e != api.ErrArg {
			t.Errorf("New(%d) = %v, %d", n, d, int(e))
		}
	}
}

func TestSizeStays(t *testing.T) {
	for _, n := range []int{1, 3, 2000} {
		p := newPair(t, n)
		for _, c := range calls(n) {
			p.do(c)
			if got := p.d.Size(); got != n {
				t.Errorf("of %d sectors %d are left after %v", n, got, c)
			}
		}
	}
}

// P8.2

func TestWriteAndReadOfEachSector(t *testing.T) {
	r := rand.New(rand.NewSource(1))
	for _, n := range []int{1, 2, 3, 8, 33} {
		p := newPair(t, n)
		for at := range n {
			text := randomSectors(r, 1)
			p.expect(writing(at, text), "", api.OK).expect(reading(at, 1), text, api.OK)
		}
		for from := range n {
			for count := 1; from+count <= n; count++ {
				text := randomSectors(r, count)
				p.expect(writing(from, text), "", api.OK).expect(reading(from, count), text, api.OK)
			}
		}
	}
}

func TestWriteInTheGreatestDevice(t *testing.T) {
	r := rand.New(rand.NewSource(2))
	all := randomSectors(r, most)
	p := newPair(t, most)
	p.expect(writing(0, all), "", api.OK).expect(reading(0, most), all, api.OK).expect(flushing(), "", api.OK)
	last := randomSectors(r, 1)
	p.expect(writing(most-1, last), "", api.OK).expect(reading(most-1, 1), last, api.OK)
	p.expect(reading(0, most), all[:64*(most-1)]+last, api.OK).loose(most+2, most-1)
	p.refused(writing(0, all+last), api.ErrRange)
	p.refused(writing(1, all), api.ErrRange)
	p.refused(reading(1, most), api.ErrRange)
	p.refused(reading(0, most+1), api.ErrRange).probe()
}

// Each byte of a sector is written, and read, whatever it is.
func TestWriteOfEachByteAtEachPlace(t *testing.T) {
	p := newPair(t, 2)
	for at := range 128 {
		for _, b := range []byte{0, 1, 127, 128, 194, 255, byte(at)} {
			text := []byte(sectorsOf("-+"))
			text[at] = b
			p.expect(writing(0, string(text)), "", api.OK).expect(reading(0, 2), string(text), api.OK)
			p.expect(reading(at/64, 1), string(text)[at/64*64:][:64], api.OK)
		}
	}
}

// refusedWrites returns writes with their errors, for a device of n sectors.
func refusedWrites(n int) map[api.Errno][]call {
	l := map[api.Errno][]call{}
	add := func(e api.Errno, at int, text string) { l[e] = append(l[e], writing(at, text)) }
	for _, at := range append(extremes(n), 0, n-1, n, n+1) {
		for _, text := range []string{"", "a", sectorsOf("a")[:63], sectorsOf("ab")[:65], sectorsOf("ab")[:127], sectorsOf("abc")[:129], strings.Repeat("a", 64*n+1), strings.Repeat("a", 64*n-1), strings.Repeat("a", 64*n+32)} {
			add(api.ErrArg, at, text)
		}
		if at < 0 || at >= n {
			for count := 1; count <= 3; count++ {
				add(api.ErrRange, at, sectorsOf(strings.Repeat("x", count)))
			}
			add(api.ErrRange, at, strings.Repeat("x", 64*n))
		}
	}
	for at := range min(n, 4) {
		add(api.ErrRange, at, strings.Repeat("x", 64*(n-at+1)))
		add(api.ErrRange, n-1-at, strings.Repeat("x", 64*(at+2)))
		add(api.ErrRange, at, strings.Repeat("x", 64*(2*n+1)))
	}
	add(api.ErrRange, 0, strings.Repeat("x", 64*4096))
	add(api.ErrRange, -1, sectorsOf("xy"))
	return l
}

// refusedReads returns reads with their errors, for a device of n sectors.
func refusedReads(n int) map[api.Errno][]call {
	l := map[api.Errno][]call{}
	add := func(e api.Errno, at, count int) { l[e] = append(l[e], reading(at, count)) }
	for _, at := range append(extremes(n), 0, n-1, n, n+1) {
		for _, count := range append(extremes(n), 0) {
			if count < 1 {
				add(api.ErrArg, at, count)
			} else {
				add(api.ErrRange, at, count)
			}
		}
		add(api.ErrRange, at, n+1)
		if at != 0 {
			add(api.ErrRange, at, n)
		}
		if at < 0 || at >= n {
			add(api.ErrRange, at, 1)
		}
	}
	for at := range n {
		add(api.ErrRange, at, n-at+1)
	}
	add(api.ErrRange, -1, 2)
	return l
}

// inEachState calls f with devices of n sectors: new ones, written ones, flushed ones, and armed ones, all of which have power.
func inEachState(t *testing.T, n int, f func(p *pair)) {
	text := strings.Repeat("w", 64*n)
	for _, before := range [][]call{
		{},
		{writing(0, sectorsOf("w"))},
		{writing(0, text)},
		{writing(0, text), flushing()},
		{writing(0, text), flushing(), writing(n-1, sectorsOf("v"))},
		{arming(1)},
		{writing(n-1, sectorsOf("w")), arming(2)},
		{writing(0, text), switchingOff(), booting(0, 5)},
	} {
		f(newPair(t, n).do(before...))
	}
}

func TestWriteRefuses(t *testing.T) {
	for _, n := range []int{1, 2, 5} {
		inEachState(t, n, func(p *pair) {
			for e, l := range refusedWrites(n) {
				for _, c := range l {
					p.refused(c, e)
				}
				p.probe()
			}
		})
	}
}

func TestReadRefuses(t *testing.T) {
	for _, n := range []int{1, 2, 5} {
		inEachState(t, n, func(p *pair) {
			for e, l := range refusedReads(n) {
				for _, c := range l {
					p.refused(c, e)
				}
				p.probe()
			}
		})
	}
}

// Of the greatest device each first and last sector exists, and none behind it.
func TestRefusedInTheGreatestDevice(t *testing.T) {
	d := made(t, most)
	for _, refused := range []map[api.Errno][]call{refusedWrites(most), refusedReads(most)} {
		for e, l := range refused {
			for _, c := range l {
				if got, code := c.on(d); got != "" || code != e {
					t.Errorf("%v returns %d bytes, %d, want %d", c, len(got), int(code), int(e))
				}
			}
		}
	}
	if want := (sight{size: most, on: true, loose: "[]", text: strings.Repeat(zeros, most)}); seen(d) != want {
		t.Errorf("it is %s", seen(d).brief())
	}
}

// While the power is off, these return ErrDead, whatever they are asked.
func TestCallsWithoutPower(t *testing.T) {
	for _, n := range []int{1, 2, 5} {
		inEachState(t, n, func(p *pair) {
			without := []*pair{
				p.copied().do(switchingOff()),
				p.copied().do(arming(1), writing(0, sectorsOf("u"))),
				p.copied().do(arming(1), flushing()),
			}
			for _, p := range without {
				for _, c := range calls(n) {
					if c.name != "Off" && c.name != "Boot" {
						p.powered(false).refused(c, api.ErrDead)
					}
				}
				for _, c := range []call{writing(0, strings.Repeat("a", 64*n)), writing(0, strings.Repeat("a", 64*n+64)), arming(3)} {
					p.refused(c, api.ErrDead)
				}
				p.probe()
			}
		})
	}
}

func TestFlush(t *testing.T) {
	for _, n := range []int{1, 2, 3, 100} {
		text := strings.Repeat("a", n)
		p := newPair(t, n).do(writing(0, sectorsOf(text)))
		p.expect(flushing(), "", api.OK).shows(text).loose(n + 1)
		p.expect(flushing(), "", api.OK).shows(text).loose(n + 2)
		p.expect(booting(-1, 0), "", api.OK).shows(text).loose(n + 2).probe()
	}
}

func TestFlushOfAFewSectors(t *testing.T) {
	p := newPair(t, 6).do(writing(0, sectorsOf("abcdef")), flushing(), writing(1, sectorsOf("B")), writing(4, sectorsOf("EF")))
	p.loose(10, 1, 4, 5).expect(flushing(), "", api.OK).loose(11).shows("aBcdEF")
	p.copied().do(booting(-1, 0)).shows("aBcdEF")
	p.do(writing(4, sectorsOf("x"))).loose(12, 4).do(booting(-1, 0)).shows("aBcdEF").probe()
}

// P8.3

func TestLooseAndOpsBehindEachKindOfCall(t *testing.T) {
	p := newPair(t, 5).loose(0)
	p.do(writing(3, sectorsOf("a"))).loose(1, 3)
	p.do(writing(0, sectorsOf("bc"))).loose(3, 0, 1, 3)
	p.do(reading(0, 5)).loose(3, 0, 1, 3)
	p.do(reading(0, 6), writing(0, ""), writing(5, sectorsOf("a")), writing(4, sectorsOf("ab")), arming(0)).loose(3, 0, 1, 3)
	p.do(arming(10)).loose(3, 0, 1, 3)
	p.do(writing(1, sectorsOf("d"))).loose(4, 0, 1, 3)
	p.do(writing(4, sectorsOf("e"))).loose(5, 0, 1, 3, 4)
	p.do(flushing()).loose(6)
	p.do(flushing()).loose(7)
	p.do(writing(2, sectorsOf("f"))).loose(8, 2)
	p.do(switchingOff()).loose(8)
	p.do(writing(2, sectorsOf("f")), flushing(), arming(1), reading(0, 1), switchingOff()).loose(8)
	p.do(booting(-1, 0)).loose(8)
	p.do(writing(0, sectorsOf("ghijk"))).loose(13, 0, 1, 2, 3, 4)
	p.do(booting(-1, 0, true)).loose(13)
	p.do(arming(2), writing(1, sectorsOf("lmn"))).loose(15)
	p.do(booting(0, 9)).loose(15)
	p.do(arming(1), flushing()).loose(16)
	p.do(booting(0, 9)).loose(16)
	if got := p.copied().d.Ops(); got != 16 {
		t.Errorf("Ops of the copy = %d", got)
	}
}

// A sector is loose because it was written, even if it contains what it contained.
func TestLooseWithTheSameContents(t *testing.T) {
	p := newPair(t, 3).do(writing(1, zeros)).loose(1, 1)
	p.do(flushing(), writing(0, sectorsOf("a")), flushing(), writing(0, sectorsOf("a"))).loose(5, 0)
	p.do(writing(2, zeros)).loose(6, 0, 2)
	// The loose sector with the number 1 is sector 2.
	p.do(writing(2, sectorsOf("z")), booting(1, 64)).shows("a\x00z")
}

func TestLooseOfManySectorsIsIncreasing(t *testing.T) {
	r := rand.New(rand.NewSource(3))
	for _, n := range []int{10, 100, most} {
		d := made(t, n)
		var want []int
		for i, at := range r.Perm(n)[:n*2/3] {
			if e := d.Write(at, sectorsOf("a")); e != api.OK {
				t.Fatal(int(e))
			}
			want = append(want, at)
			if i%50 == 0 {
				slices.Sort(want)
				if got := d.Loose(); !slices.Equal(got, want) {
					t.Errorf("of %d sectors loose are %v, want %v", n, got, want)
				}
			}
		}
	}
}

// The durable contents are those of the last Flush or Boot, however often a sector was written since.
func TestASectorThatIsWrittenTwiceBeforeAFlush(t *testing.T) {
	for _, kept := range []call{flushing(), booting(-1, 0, true, true, true)} {
		p := newPair(t, 3).do(writing(0, sectorsOf("abc")), kept, writing(1, sectorsOf("x")), writing(1, sectorsOf("y"))).shows("ayc")
		p.loose(p.d.Ops(), 1)
		p.copied().do(booting(-1, 0)).shows("abc")
		p.copied().do(booting(-1, 0, true)).shows("ayc")
		p.copied().do(booting(0, 1)).expect(reading(1, 1), "y"+sectorsOf("b")[1:], api.OK)
		p.copied().do(writing(0, sectorsOf("uvw")), booting(-1, 0, true, false, true)).shows("ubw")
		p.copied().do(flushing(), booting(-1, 0)).shows("ayc")
		p.copied().do(flushing(), writing(1, sectorsOf("z")), booting(-1, 0)).shows("ayc")
		p.do(writing(1, sectorsOf("b"))).shows("abc").loose(p.d.Ops(), 1).do(booting(-1, 0)).shows("abc")
	}
}

// P8.4

func TestArmAtAWrite(t *testing.T) {
	for count := 1; count <= 5; count++ {
		for after := 1; after <= 7; after++ {
			p := newPair(t, 6).do(writing(0, sectorsOf("abcdef")), flushing())
			p.expect(arming(after), "", api.OK).powered(true).loose(7)
			text := "uvwxy"[:count]
			if after > count {
				p.expect(writing(1, sectorsOf(text)), "", api.OK).powered(true).shows("a" + text + "bcdef"[count:])
				p.probe()
				continue
			}
			p.expect(writing(1, sectorsOf(text)), "", api.ErrDead).powered(false).loose(7 + after).probe()
			p.copied().do(booting(-1, 0)).shows("abcdef")
			p.copied().do(booting(-1, 0, slices.Repeat([]bool{true}, 6)...)).shows("a" + text[:after] + "bcdef"[after:])
			// What was not reached is not loose: only so many sectors are numbered.
			p.copied().do(booting(after, 64)).shows("abcdef")
			p.do(booting(after-1, 64)).shows("abcdef"[:after] + text[after-1:after] + "bcdef"[after:])
		}
	}
}

func TestArmAtLaterOperations(t *testing.T) {
	operations := []call{writing(0, sectorsOf("u")), flushing(), writing(1, sectorsOf("vw")), reading(0, 3), flushing(), flushing(), writing(2, sectorsOf("x"))}
	lost := 0
	for after := 1; after <= 9; after++ {
		p := newPair(t, 3).do(writing(0, sectorsOf("abc")), arming(after))
		for _, c := range operations {
			p.do(c)
			if p.d.Ops()-3 >= after {
				p.powered(false)
			} else {
				p.powered(true)
			}
			p.probe()
		}
		if !p.d.On() {
			lost++
		}
		p.do(booting(-1, 0)).powered(true).probe()
	}
	if lost != 7 {
		t.Errorf("the power was lost at %d of 7 operations", lost)
	}
}

// The Flush at which the power is lost is counted, and does nothing.
func TestArmAtAFlush(t *testing.T) {
	p := newPair(t, 3).do(writing(0, sectorsOf("abc")), flushing(), writing(1, sectorsOf("xy")), arming(1))
	p.expect(flushing(), "", api.ErrDead).powered(false).loose(7)
	p.copied().do(booting(-1, 0)).shows("abc")
	p.copied().do(booting(-1, 0, true)).shows("axc")
	p.copied().do(booting(-1, 0, true, true)).shows("axy")
	p.copied().do(booting(1, 64)).shows("aby")

	p = newPair(t, 1).do(arming(1)).expect(flushing(), "", api.ErrDead).powered(false).loose(1)
	p.do(booting(-1, 0)).shows("\x00").expect(flushing(), "", api.OK)
}

func TestArmAtTheLimits(t *testing.T) {
	for _, n := range append(extremes(1), 0) {
		inEachState(t, 2, func(p *pair) {
			if n < 1 {
				p.refused(arming(n), api.ErrArg).probe()
				return
			}
			p.expect(arming(n), "", api.OK).probe()
			p.do(writing(0, sectorsOf("ab")), flushing(), writing(1, sectorsOf("c"))).powered(true)
		})
	}
	for _, n := range []int{1, 100, most, 100000} {
		d := made(t, 1)
		if e := d.Arm(n); e != api.OK {
			t.Fatal(int(e))
		}
		for i := 1; i < n; i++ {
			if e := d.Flush(); e != api.OK || !d.On() {
				t.Fatalf("armed %d: operation %d returns %d", n, i, int(e))
			}
		}
		if e := d.Flush(); e != api.ErrDead || d.On() || d.Ops() != n {
			t.Errorf("armed %d: %d, on %t, %d operations", n, int(e), d.On(), d.Ops())
		}
	}
}

// What does nothing is no operation.
func TestArmIsNotReachedByOtherCalls(t *testing.T) {
	p := newPair(t, 3).do(arming(1), reading(0, 3), reading(0, 4), reading(0, 0), writing(0, ""), writing(0, "a"), writing(3, sectorsOf("a")), writing(2, sectorsOf("ab")), arming(0), arming(-1))
	p.powered(true).probe().loose(0)
	p.expect(writing(2, sectorsOf("a")), "", api.ErrDead).powered(false)
}

func TestArmInsteadOfAnother(t *testing.T) {
	for first := 1; first <= 4; first++ {
		for between := range first {
			for second := 1; second <= 5; second++ {
				p := newPair(t, 2).do(arming(first))
				for range between {
					p.expect(flushing(), "", api.OK)
				}
				p.expect(arming(second), "", api.OK).probe()
				for range second - 1 {
					p.expect(flushing(), "", api.OK).powered(true)
				}
				p.expect(writing(1, sectorsOf("a")), "", api.ErrDead).powered(false)
			}
		}
	}
	// An Arm that is refused leaves the armed operation as it was.
	newPair(t, 1).do(arming(2), arming(0), arming(math.MinInt)).expect(flushing(), "", api.OK).expect(flushing(), "", api.ErrDead)
}

func TestArmIsUndoneByOffAndByBoot(t *testing.T) {
	for _, after := range []int{1, 2, 3, math.MaxInt} {
		for _, undo := range [][]call{{switchingOff(), booting(-1, 0)}, {booting(-1, 0)}, {booting(0, 64, true)}, {switchingOff(), switchingOff(), booting(-1, 0)}} {
			p := newPair(t, 2).do(writing(0, sectorsOf("a")), arming(after)).do(undo...)
			for range 3 {
				p.expect(flushing(), "", api.OK).expect(writing(0, sectorsOf("bc")), "", api.OK).powered(true)
			}
		}
	}
}

// The armed operation that was reached is armed no more.
func TestArmIsReachedOnce(t *testing.T) {
	for _, c := range []call{writing(0, sectorsOf("ab")), flushing()} {
		p := newPair(t, 2).do(arming(1)).expect(c, "", api.ErrDead).expect(booting(-1, 0), "", api.OK).probe()
		for range 3 {
			p.expect(flushing(), "", api.OK).expect(writing(0, sectorsOf("bc")), "", api.OK).powered(true)
		}
	}
}

func TestOff(t *testing.T) {
	inEachState(t, 3, func(p *pair) {
		ops := p.d.Ops()
		p.expect(switchingOff(), "", api.OK).powered(false).loose(ops).probe()
		p.expect(switchingOff(), "", api.OK).powered(false).loose(ops).probe()
		p.refused(flushing(), api.ErrDead).probe()
		p.copied().do(booting(-1, 0)).powered(true).loose(ops).probe()
		p.do(booting(-1, 0, true, true, true)).powered(true).loose(ops).probe()
	})
}

func TestOn(t *testing.T) {
	p := newPair(t, 1).powered(true)
	p.do(writing(0, zeros), flushing(), reading(0, 1), reading(0, 2), arming(2)).powered(true)
	p.do(flushing()).powered(true).do(flushing()).powered(false).do(flushing()).powered(false)
	p.do(booting(-1, 0)).powered(true).do(booting(-1, 0)).powered(true)
	p.do(switchingOff()).powered(false).do(switchingOff()).powered(false)
	p.copied().powered(false).do(booting(-1, 0)).powered(true)
	p.powered(false)
}

// P8.5

// keeps calls f with all lists of so many bools, and of fewer.
func keeps(most int, f func(keep []bool)) {
	for length := range most + 1 {
		for bits := range 1 << length {
			keep := make([]bool, length)
			for i := range keep {
				keep[i] = bits>>i&1 == 1
			}
			f(keep)
		}
	}
}

// cuts are those that the chapter names, and those around them.
var cuts = []int{math.MinInt, -65, -64, -1, 0, 1, 2, 10, 32, 62, 63, 64, 65, 127, 128, 1 << 32, 1<<32 + 1, 1<<32 - 1, math.MaxInt}

// afterBoot returns what sectors contain after a Boot, by bytes: those that they had durably, those that were written, and which are loose.
func afterBoot(durable, written string, loose []int, c api.Choice) string {
	text := []byte(sectorsOf(durable))
	for i, at := range loose {
		bytes := 0
		if i < len(c.Keep) && c.Keep[i] {
			bytes = 64
		}
		if i == c.Torn {
			bytes = max(0, min(64, c.Cut))
		}
		copy(text[64*at:], strings.Repeat(written[at:at+1], bytes))
	}
	return string(text)
}

// Every set of loose sectors, each Keep with fewer, as many and more elements, and each Torn.
func TestBoot(t *testing.T) {
	const n = 4
	for set := range 1 << n {
		base := newPair(t, n).do(writing(0, sectorsOf("abcd")), flushing())
		var loose []int
		for at := range n {
			if set>>at&1 == 1 {
				loose = append(loose, at)
			}
		}
		// They are written in the opposite order: only their sector numbers count.
		for _, at := range slices.Backward(loose) {
			base.do(writing(at, sectorsOf("wxyz"[at:at+1])))
		}
		base.loose(5+len(loose), loose...)
		dead := base.copied().do(switchingOff())
		torns := []int{math.MinInt, -2, -1, n + 1, 1 << 32, math.MaxInt}
		for i := range len(loose) + 1 {
			torns = append(torns, i)
		}
		keeps(len(loose)+2, func(keep []bool) {
			for _, torn := range torns {
				for _, cut := range []int{-1, 0, 13, 64, 65} {
					c := api.Choice{Keep: keep, Torn: torn, Cut: cut}
					want := afterBoot("abcd", "wxyz", loose, c)
					for _, before := range []*pair{base, dead} {
						d := before.d.Copy()
						if e := d.Boot(c); e != api.OK {
							t.Fatalf("%v returns %d", c, int(e))
						}
						if got, e := d.Read(0, n); got != want || e != api.OK || !d.On() || len(d.Loose()) != 0 || d.Ops() != before.m.Ops() {
							t.Fatalf("of %d sectors, %v of which are loose, after %v: %q, %d, on %t, loose %v, %d operations; want %q", n, loose, c, got, int(e), d.On(), d.Loose(), d.Ops(), want)
						}
					}
				}
			}
		})
	}
}

func TestBootWithEachCut(t *testing.T) {
	for cut := -3; cut <= 70; cut++ {
		bootWithCut(t, cut)
	}
	for _, cut := range cuts {
		bootWithCut(t, cut)
	}
}

// bootWithCut boots devices whose first, second or third loose sector is torn.
func bootWithCut(t *testing.T, cut int) {
	t.Helper()
	r := rand.New(rand.NewSource(int64(cut)))
	before, after := randomSectors(r, 5), randomSectors(r, 5)
	loose := []int{0, 2, 4}
	for torn, at := range loose {
		keeps(4, func(keep []bool) {
			p := newPair(t, 5).do(writing(0, before), flushing())
			for _, at := range loose {
				p.do(writing(at, after[64*at:][:64]))
			}
			if len(keep)%2 == 1 {
				p.do(switchingOff())
			}
			p.expect(booting(torn, cut, keep...), "", api.OK)
			bytes := max(0, min(64, cut))
			p.expect(reading(at, 1), after[64*at:][:bytes]+before[64*at:][bytes:64], api.OK)
			p.expect(reading(1, 1), before[64:128], api.OK).expect(reading(3, 1), before[192:256], api.OK)
		})
	}
}

// What is torn is what was written last, and the contents that were durable.
func TestBootTearsTheLastWrite(t *testing.T) {
	p := newPair(t, 2).do(writing(1, sectorsOf("a")), flushing(), writing(1, sectorsOf("b")), writing(1, sectorsOf("c")))
	p.do(booting(0, 20)).expect(reading(1, 1), strings.Repeat("c", 20)+strings.Repeat("a", 44), api.OK)
	p.do(writing(1, sectorsOf("d")), booting(0, 1)).expect(reading(1, 1), "d"+strings.Repeat("c", 19)+strings.Repeat("a", 44), api.OK)
}

func TestBootWithPower(t *testing.T) {
	p := newPair(t, 3).do(writing(0, sectorsOf("abc")), booting(-1, 0, true, false, true)).powered(true).shows("a\x00c").loose(3)
	p.do(writing(0, sectorsOf("xyz")), booting(1, 64)).powered(true).shows("ayc").loose(6).probe()
}

// After a Boot nothing is loose: another one decides nothing.
func TestBootTwice(t *testing.T) {
	for _, off := range []bool{false, true} {
		keeps(3, func(keep []bool) {
			for _, second := range []call{booting(-1, 0), booting(-1, 0, true, true, true), booting(0, 3), booting(1, 64)} {
				p := newPair(t, 3).do(writing(0, sectorsOf("abc")), flushing(), writing(0, sectorsOf("xyz")))
				if off {
					p.do(switchingOff())
				}
				p.do(booting(2, 5, keep...))
				before := seen(p.d)
				if off {
					p.do(switchingOff())
				}
				p.expect(second, "", api.OK).powered(true)
				if after := seen(p.d); after != before {
					p.failf("it is %s, before %s", after.brief(), before.brief())
				}
			}
		})
	}
}

// What remained after a Boot is durable, and what is written after it is not.
func TestBootMakesDurable(t *testing.T) {
	p := newPair(t, 3).do(writing(0, sectorsOf("abc")), booting(-1, 0, true, true), writing(1, sectorsOf("xy")))
	p.loose(5, 1, 2).shows("axy").probe()
	p.do(booting(-1, 0)).shows("ab\x00").loose(5)
	p.do(writing(0, sectorsOf("uvw")), booting(-1, 0, false, true)).shows("av\x00")
}

func TestBootOfADeviceWithManyLooseSectors(t *testing.T) {
	r := rand.New(rand.NewSource(4))
	before, after := randomSectors(r, most), randomSectors(r, most)
	d := made(t, most)
	for _, e := range []api.Errno{d.Write(0, before), d.Flush(), d.Write(0, after)} {
		if e != api.OK {
			t.Fatal(int(e))
		}
	}
	keep := make([]bool, most)
	for i := range keep {
		keep[i] = r.Intn(2) == 1
	}
	if e := d.Boot(api.Choice{Keep: keep, Torn: most - 1, Cut: 33}); e != api.OK {
		t.Fatal(int(e))
	}
	for at := range most {
		want := before[64*at:][:64]
		if keep[at] {
			want = after[64*at:][:64]
		}
		if at == most-1 {
			want = after[64*at:][:33] + before[64*at:][33:64]
		}
		if got, e := d.Read(at, 1); got != want || e != api.OK {
			t.Errorf("sector %d contains %q, %d, want %q", at, got, int(e), want)
		}
	}
}

// P8.6

// operations change a device, if it has power.
func operations() []call {
	return []call{writing(0, sectorsOf("x")), writing(1, sectorsOf("yz")), flushing(), arming(1), arming(3), switchingOff(), booting(-1, 0), booting(-1, 0, true, true, true), booting(0, 7), booting(1, 64, true)}
}

// eachState calls f with devices of n sectors in the states of inEachState, and with ones without power.
func eachState(t *testing.T, n int, f func(p *pair)) {
	inEachState(t, n, func(p *pair) {
		f(p.copied().do(switchingOff()))
		f(p.copied().do(arming(1), writing(0, sectorsOf("u"))))
		f(p.copied().do(arming(1), flushing()))
		f(p)
	})
}

func TestCopyIsEqual(t *testing.T) {
	for _, n := range []int{1, 3, 60} {
		eachState(t, n, func(p *pair) { p.copied().probe().copied().probe() })
	}
}

// Either of the two is changed, and the other one stays as it is.
func TestCopyIsIndependent(t *testing.T) {
	eachState(t, 3, func(p *pair) {
		for _, first := range operations() {
			for _, second := range operations() {
				original, other := p.copied(), p.copied()
				// One of them is the copy of the other one itself.
				other.d = original.d.Copy()
				for i, c := range []call{first, second, first, second, flushing()} {
					one, two := original, other
					if i%2 == 1 {
						one, two = other, original
					}
					one.do(c)
					two.compare()
				}
				original.probe()
				other.probe()
			}
		}
	})
}

func TestCopyOfACopy(t *testing.T) {
	p := newPair(t, 3).do(writing(0, sectorsOf("abc")), flushing(), writing(1, sectorsOf("x")))
	q := p.copied()
	r := q.copied()
	q.do(writing(0, sectorsOf("y")), flushing())
	r.do(booting(0, 2)).expect(reading(0, 3), sectorsOf("a")+"xx"+strings.Repeat("b", 62)+sectorsOf("c"), api.OK)
	p.shows("axc").probe()
	q.shows("yxc").probe()
	p.do(switchingOff())
	q.powered(true).shows("yxc")
	r.powered(true).loose(5)
}

// Devices that New returned have nothing in common.
func TestDevicesAreIndependent(t *testing.T) {
	p, q := newPair(t, 3), newPair(t, 3)
	for _, c := range operations() {
		p.do(c)
		q.compare()
	}
	q.probe().loose(0)
}

// P8.7 and P8.8, and sequences of calls

// randomCall returns a call of a device of n sectors, most of which are permitted.
func randomCall(r *rand.Rand, n int) call {
	place := func() int { return r.Intn(n+2) - r.Intn(2) }
	switch x := r.Intn(20); {
	case x < 8:
		return writing(place(), randomSectors(r, r.Intn(min(n, 4)+2)))
	case x < 9:
		return writing(place(), randomSectors(r, 2)[r.Intn(128):])
	case x < 11:
		return reading(place(), place())
	case x < 14:
		return flushing()
	case x < 16:
		return arming(r.Intn(9) - 1)
	case x < 17:
		return switchingOff()
	}
	return randomBoot(r, n)
}

// randomBoot returns a Boot of a device of n sectors.
func randomBoot(r *rand.Rand, n int) call {
	keep := make([]bool, r.Intn(n+2))
	for i := range keep {
		keep[i] = r.Intn(2) == 1
	}
	return booting(r.Intn(n+2)-1, r.Intn(70)-3, keep...)
}

func TestSequencesOfCalls(t *testing.T) {
	r := rand.New(rand.NewSource(5))
	for range 1500 {
		n := 1 + r.Intn(9)
		p := newPair(t, n)
		for range 60 {
			p.do(randomCall(r, n))
			if !p.d.On() && r.Intn(3) == 0 {
				p.do(randomBoot(r, n))
			}
			if r.Intn(40) == 0 {
				p.probe()
			}
			if r.Intn(40) == 0 {
				p = p.copied()
			}
		}
		p.probe()
	}
}

func TestLongSequencesOfCalls(t *testing.T) {
	r := rand.New(rand.NewSource(6))
	for _, n := range []int{1, 12, 200, most} {
		p := newPair(t, n)
		for range 600 {
			p.do(randomCall(r, n))
			if !p.d.On() {
				p.do(randomBoot(r, n))
			}
		}
		p.probe()
	}
}

// sectorsIn returns what each sector contains.
func sectorsIn(t *testing.T, d *sector.Device) []string {
	t.Helper()
	var l []string
	for at := range d.Size() {
		text, e := d.Read(at, 1)
		if e != api.OK {
			t.Fatal(int(e))
		}
		l = append(l, text)
	}
	return l
}

// writeSome writes some sectors of a device, some of them twice, and may lose the power.
func writeSome(t *testing.T, r *rand.Rand, d *sector.Device) map[int]string {
	t.Helper()
	if r.Intn(2) == 0 {
		if e := d.Arm(1 + r.Intn(8)); e != api.OK {
			t.Fatal(int(e))
		}
	}
	last := map[int]string{}
	for range r.Intn(7) {
		at, text := r.Intn(d.Size()), randomSectors(r, 1)
		was := d.On()
		e := d.Write(at, text)
		if was {
			last[at] = text
		}
		if e != api.OK && d.On() {
			t.Fatal(int(e))
		}
	}
	return last
}

func TestSafeAndTorn(t *testing.T) {
	r := rand.New(rand.NewSource(7))
	torn := 0
	for range 3000 {
		n := 1 + r.Intn(6)
		d := made(t, n)
		for _, e := range []api.Errno{d.Write(0, randomSectors(r, n)), d.Flush()} {
			if e != api.OK {
				t.Fatal(int(e))
			}
		}
		before := sectorsIn(t, d)
		written := writeSome(t, r, d)
		boot := randomBoot(r, n)
		if _, e := boot.on(d); e != api.OK {
			t.Fatal(int(e))
		}
		others := 0
		for at, got := range sectorsIn(t, d) {
			text, loose := written[at]
			switch {
			case !loose && got != before[at]:
				t.Errorf("sector %d was flushed, and not written since: %q, before %q", at, got, before[at])
			case loose && got != before[at] && got != text:
				others++
				if cut := boot.choice.Cut; got != text[:cut]+before[at][cut:] {
					t.Errorf("sector %d contains %q, was %q, written %q, cut %d", at, got, before[at], text, cut)
				}
			}
		}
		if others > 1 {
			t.Errorf("%d sectors are torn", others)
		}
		torn += others
	}
	if torn < 100 {
		t.Errorf("only %d devices have a torn sector", torn)
	}
}

func TestAfterAFlushABootChangesNothing(t *testing.T) {
	r := rand.New(rand.NewSource(8))
	for range 2000 {
		n := 1 + r.Intn(6)
		p := newPair(t, n)
		for range r.Intn(12) {
			p.do(randomCall(r, n))
		}
		p.do(randomBoot(r, n), writing(r.Intn(n), randomSectors(r, 1)), flushing())
		before := seen(p.d)
		if r.Intn(2) == 0 {
			p.do(switchingOff())
		}
		p.do(randomBoot(r, n))
		if after := seen(p.d); after != before {
			p.failf("it is %s, before %s", after.brief(), before.brief())
		}
	}
}

// The general rules

func TestKeepIsNeitherChangedNorRetained(t *testing.T) {
	memory := []bool{true, false, true, true, true}
	keep := memory[:2]
	d := made(t, 4)
	if e := d.Write(0, sectorsOf("abcd")); e != api.OK {
		t.Fatal(int(e))
	}
	if e := d.Boot(api.Choice{Keep: keep, Torn: 1, Cut: 64}); e != api.OK {
		t.Fatal(int(e))
	}
	if !slices.Equal(memory, []bool{true, false, true, true, true}) {
		t.Errorf("Keep has become %v", memory)
	}
	// What lies behind the length of Keep does not count.
	want := sectorsOf("ab") + zeros + zeros
	if got, _ := d.Read(0, 4); got != want {
		t.Errorf("they contain %q", got)
	}
	keep[0] = false
	if got, _ := d.Read(0, 4); got != want {
		t.Errorf("they contain %q", got)
	}
}

func TestTextIsNotRetained(t *testing.T) {
	memory := []byte(sectorsOf("abc"))
	text := unsafe.String(&memory[0], len(memory))
	d := made(t, 3)
	if e := d.Write(0, text); e != api.OK {
		t.Fatal(int(e))
	}
	clear(memory)
	if got, _ := d.Read(0, 3); got != sectorsOf("abc") {
		t.Errorf("they contain %q", got)
	}
	copy(memory, sectorsOf("xyz"))
	if e := d.Write(0, text); e != api.OK {
		t.Fatal(int(e))
	}
	clear(memory)
	if e := d.Boot(api.Choice{Keep: []bool{true, true}, Torn: 2, Cut: 5}); e != api.OK {
		t.Fatal(int(e))
	}
	if got, _ := d.Read(0, 3); got != sectorsOf("xy")+"zzzzz"+zeros[5:] {
		t.Errorf("they contain %q", got)
	}
}

func TestResultsAreNew(t *testing.T) {
	d := made(t, 4)
	if e := d.Write(0, sectorsOf("abcd")); e != api.OK {
		t.Fatal(int(e))
	}
	loose, other := d.Loose(), d.Loose()
	clear(loose[:cap(loose)])
	if !slices.Equal(other, []int{0, 1, 2, 3}) || !slices.Equal(d.Loose(), []int{0, 1, 2, 3}) {
		t.Errorf("loose are %v, %v", other, d.Loose())
	}
	text, _ := d.Read(0, 4)
	again, _ := d.Read(0, 4)
	if unsafe.StringData(text) == unsafe.StringData(again) {
		t.Error("two results lie in the same memory")
	}
	for _, e := range []api.Errno{d.Write(0, sectorsOf("wxyz")), d.Flush(), d.Write(0, sectorsOf("stuv")), d.Boot(api.Choice{})} {
		if e != api.OK {
			t.Fatal(int(e))
		}
	}
	if text != sectorsOf("abcd") || again != text {
		t.Errorf("what was read has become %q, %q", text, again)
	}
}

func TestDevicesAtTheSameTime(t *testing.T) {
	var all sync.WaitGroup
	for seed := range 8 {
		d, m := made(t, 4), define(4)
		all.Go(func() {
			r := rand.New(rand.NewSource(int64(seed)))
			for range 400 {
				c := randomCall(r, 4)
				got, e := c.on(d)
				if want, code := c.on(m); got != want || e != code || seen(d) != seen(m) {
					t.Errorf("%v returns %q, %d, want %q, %d", c, got, int(e), want, int(code))
					return
				}
			}
		})
	}
	all.Wait()
}
