package trail_test

import (
	"encoding/binary"
	"fmt"
	"hash/crc32"
	"maps"
	"math"
	"math/rand"
	"slices"
	"strings"
	"sync"
	"testing"
	"unsafe"

	"backhaul/api"
	"backhaul/frame"
	"backhaul/sector"
	"backhaul/trail"
)

const (
	mostSectors = 2000
	mostEpoch   = 1000000000
	mostSeq     = 1000000
	mostBody    = 3000
	mostWiped   = 100
)

var zeros = strings.Repeat("\x00", 64)

// sealOf is the definition of what is sealed, with the library's checksum.
func sealOf(s string) string {
	sum := crc32.Checksum([]byte(s), crc32.MakeTable(crc32.Castagnoli))
	return string(binary.LittleEndian.AppendUint32([]byte(s), sum))
}

// headOf returns what is ahead of a frame's body.
func headOf(f frame.Frame) string {
	head := binary.BigEndian.AppendUint64(nil, uint64(f.Epoch))
	head = binary.BigEndian.AppendUint32(head, uint32(f.Seq))
	return string(binary.BigEndian.AppendUint32(head, uint32(len(f.Body))))
}

// bytesOf is the definition of a frame's sectors, byte by byte.
func bytesOf(f frame.Frame) string {
	var l []byte
	for i, b := range []byte(sealOf(headOf(f) + f.Body)) {
		switch {
		case i == 0:
			l = append(l, 1)
		case i%63 == 0:
			l = append(l, 2)
		}
		l = append(l, b)
	}
	for len(l)%64 != 0 {
		l = append(l, 0)
	}
	return string(l)
}

// countOf is the definition of the number of a frame's sectors.
func countOf(body string) int {
	n := 0
	for left := 8 + 4 + 4 + len(body) + 4; left > 0; left -= 63 {
		n++
	}
	return n
}

// putOf is the definition of frame.Put.
func putOf(f frame.Frame) (string, api.Errno) {
	if f.Epoch <= 0 || f.Epoch >= mostEpoch+1 || f.Seq <= 0 || f.Seq >= mostSeq+1 {
		return "", api.ErrArg
	}
	if len(f.Body) >= mostBody+1 {
		return "", api.ErrBig
	}
	return bytesOf(f), api.OK
}

// frameAt is the definition of the frame that some sectors begin with: the one of which they are the sectors.
func frameAt(s string) (frame.Frame, bool) {
	if s == "" {
		return frame.Frame{}, false
	}
	head := []byte(s[:64])
	epoch, seq, length := binary.BigEndian.Uint64(head[1:]), binary.BigEndian.Uint32(head[9:]), int(binary.BigEndian.Uint32(head[13:]))
	if epoch == 0 || epoch > mostEpoch || seq == 0 || seq > mostSeq || length > mostBody || len(s) < 64*countOf(strings.Repeat("x", length)) {
		return frame.Frame{}, false
	}
	var pieces strings.Builder
	for at := 0; pieces.Len() < 16+length; at += 64 {
		pieces.WriteString(s[at+1 : at+64])
	}
	f := frame.Frame{Epoch: int(epoch), Seq: int(seq), Body: pieces.String()[16 : 16+length]}
	return f, strings.HasPrefix(s, bytesOf(f))
}

// scanOf is the definition of frame.Scan.
func scanOf(s string, epoch int) ([]string, int) {
	var bodies []string
	at := 0
	for {
		f, is := frameAt(s[64*at:])
		if !is || f.Epoch != epoch || f.Seq != 1+len(bodies) {
			return bodies, at
		}
		bodies = append(bodies, f.Body)
		at += countOf(f.Body)
	}
}

// model is a device by the words of its chapter; without sectors, it is one that no call returned.
type model struct {
	now []string
	// durable holds the durable contents of the loose sectors.
	durable map[int]string
	off     bool
	ops     int
	// armed is the number of the armed operation among all, 0 if there is none.
	armed int
}

// operation reports whether there still is power after an operation.
func (m *model) operation() bool {
	m.ops++
	if m.ops == m.armed {
		m.off, m.armed = true, 0
	}
	return !m.off
}

// write writes to sectors that there are.
func (m *model) write(at int, s string) api.Errno {
	if m.off {
		return api.ErrDead
	}
	for ; s != ""; s = s[64:] {
		if _, loose := m.durable[at]; !loose {
			m.durable[at] = m.now[at]
		}
		m.now[at] = s[:64]
		if !m.operation() {
			return api.ErrDead
		}
		at++
	}
	return api.OK
}

func (m *model) flush() api.Errno {
	if m.off || !m.operation() {
		return api.ErrDead
	}
	clear(m.durable)
	return api.OK
}

func (m *model) loose() []int { return slices.Sorted(maps.Keys(m.durable)) }

func (m *model) boot(c api.Choice) {
	for i, at := range m.loose() {
		before := m.durable[at]
		switch {
		case i == c.Torn:
			cut := min(max(0, c.Cut), 64)
			m.now[at] = m.now[at][:cut] + before[cut:]
		case i >= len(c.Keep) || !c.Keep[i]:
			m.now[at] = before
		}
	}
	clear(m.durable)
	m.off, m.armed = false, 0
}

func (m *model) copied() *model {
	c := *m
	c.now, c.durable = slices.Clone(m.now), maps.Clone(m.durable)
	return &c
}

// answer is what a call returns.
type answer struct {
	bodies string
	n      int
	e      api.Errno
}

func (x answer) String() string {
	return fmt.Sprintf("%.200s, %d, %d", x.bodies, x.n, int(x.e))
}

// told makes lists of bodies comparable.
func told(bodies []string) string { return fmt.Sprintf("%d %q", len(bodies), bodies) }

func failed(e api.Errno) answer { return answer{told(nil), 0, e} }

// check is the definition of Check.
func (m *model) check(a trail.Area) answer {
	switch {
	case len(m.now) == 0:
		return failed(api.ErrNil)
	case a.Sectors <= 0 || a.From < 0 || uint64(a.From)+uint64(a.Sectors) > uint64(len(m.now)):
		return failed(api.ErrArg)
	}
	return failed(api.OK)
}

// roomOf is the definition of Room.
func roomOf(a trail.Area, at int, body string) bool {
	return at >= 0 && at <= a.Sectors && uint64(at)+uint64(countOf(body)) <= uint64(a.Sectors)
}

// load is the definition of Load.
func (m *model) load(a trail.Area, epoch int) answer {
	if x := m.check(a); x.e != api.OK {
		return x
	}
	if m.off {
		return failed(api.ErrDead)
	}
	bodies, end := scanOf(strings.Join(m.now[a.From:][:a.Sectors], ""), epoch)
	return answer{told(bodies), end, api.OK}
}

// append is the definition of Append.
func (m *model) append(a trail.Area, at int, f frame.Frame) answer {
	if x := m.check(a); x.e != api.OK {
		return x
	}
	s, e := putOf(f)
	if e != api.OK {
		return failed(e)
	}
	if !roomOf(a, at, f.Body) {
		return failed(api.ErrFull)
	}
	if e := m.write(a.From+at, s); e != api.OK {
		return failed(e)
	}
	if e := m.flush(); e != api.OK {
		return failed(e)
	}
	return answer{told(nil), at + countOf(f.Body), api.OK}
}

// wipe is the definition of Wipe.
func (m *model) wipe(a trail.Area, at, n int) answer {
	if x := m.check(a); x.e != api.OK {
		return x
	}
	if at < 0 || at > a.Sectors || n <= 0 || n >= mostWiped+1 {
		return failed(api.ErrArg)
	}
	s := ""
	for i := 0; i < n && at+i < a.Sectors; i++ {
		s += zeros
	}
	if s == "" {
		return failed(api.OK)
	}
	if e := m.write(a.From+at, s); e != api.OK {
		return failed(e)
	}
	return failed(m.flush())
}

// call is a call on a device.
type call struct {
	name  string
	a     trail.Area
	at, n int
	f     frame.Frame
}

func checking(a trail.Area) call           { return call{name: "Check", a: a} }
func loading(a trail.Area, epoch int) call { return call{name: "Load", a: a, n: epoch} }
func wiping(a trail.Area, at, n int) call  { return call{name: "Wipe", a: a, at: at, n: n} }
func appending(a trail.Area, at int, f frame.Frame) call {
	return call{name: "Append", a: a, at: at, f: f}
}

func (c call) String() string {
	switch c.name {
	case "Load":
		return fmt.Sprintf("Load(%v, %d)", c.a, c.n)
	case "Append":
		return fmt.Sprintf("Append(%v, %d, {%d, %d, %.20q of %d bytes})", c.a, c.at, c.f.Epoch, c.f.Seq, c.f.Body, len(c.f.Body))
	case "Wipe":
		return fmt.Sprintf("Wipe(%v, %d, %d)", c.a, c.at, c.n)
	}
	return fmt.Sprintf("Check(%v)", c.a)
}

// on makes the call.
func (c call) on(d *sector.Device) answer {
	switch c.name {
	case "Load":
		bodies, end, e := trail.Load(d, c.a, c.n)
		return answer{told(bodies), end, e}
	case "Append":
		to, e := trail.Append(d, c.a, c.at, c.f)
		return answer{told(nil), to, e}
	case "Wipe":
		return failed(trail.Wipe(d, c.a, c.at, c.n))
	}
	return failed(trail.Check(d, c.a))
}

// of makes the call by its definition.
func (c call) of(m *model) answer {
	switch c.name {
	case "Load":
		return m.load(c.a, c.n)
	case "Append":
		return m.append(c.a, c.at, c.f)
	case "Wipe":
		return m.wipe(c.a, c.at, c.n)
	}
	return m.check(c.a)
}

// sight is all that a device shows without a change.
type sight struct {
	on    bool
	ops   int
	loose string
	text  string
}

func (s sight) String() string {
	return fmt.Sprintf("on %t, %d ops, loose %s, contents %.300x", s.on, s.ops, s.loose, s.text)
}

func seen(d *sector.Device) sight {
	s := sight{on: d.On(), ops: d.Ops(), loose: fmt.Sprint(d.Loose())}
	s.text, _ = d.Read(0, d.Size())
	return s
}

func (m *model) seen() sight {
	s := sight{on: !m.off, ops: m.ops, loose: "[]"}
	if s.on {
		s.loose, s.text = fmt.Sprint(m.loose()), strings.Join(m.now, "")
	}
	return s
}

// pair is a device and its definition, on which the same calls are made.
type pair struct {
	t     *testing.T
	d     *sector.Device
	m     *model
	calls []string
}

func newPair(t *testing.T, n int) *pair {
	t.Helper()
	d, e := sector.New(n)
	if e != api.OK {
		t.Fatal(int(e))
	}
	return &pair{t: t, d: d, m: &model{now: slices.Repeat([]string{zeros}, n), durable: map[int]string{}}}
}

func (p *pair) failf(format string, args ...any) {
	p.t.Helper()
	p.t.Fatalf("%d sectors, %v: %s", len(p.m.now), p.calls[max(0, len(p.calls)-12):], fmt.Sprintf(format, args...))
}

// compare checks that the device shows what its definition shows.
func (p *pair) compare() *pair {
	p.t.Helper()
	if got, want := seen(p.d), p.m.seen(); got != want {
		p.failf("it is %v, want %v", got, want)
	}
	return p
}

func (p *pair) copied() *pair {
	return &pair{p.t, p.d.Copy(), p.m.copied(), append(slices.Clone(p.calls), "Copy")}
}

// do makes calls, and checks of each what it returns and what the device shows afterwards.
func (p *pair) do(calls ...call) *pair {
	p.t.Helper()
	for _, c := range calls {
		p.calls = append(p.calls, c.String())
		if got, want := c.on(p.d), c.of(p.m); got != want {
			p.failf("the last call returns %v, want %v", got, want)
		}
		p.compare()
	}
	return p
}

// expect checks what a call returns by the words of the test, and by its definition too.
func (p *pair) expect(c call, want answer) *pair {
	p.t.Helper()
	if got := c.of(p.m.copied()); got != want {
		p.failf("%v of the definition returns %v, want %v", c, got, want)
	}
	return p.do(c)
}

// refused checks that a call returns an error and nothing beside it, and that nothing is done.
func (p *pair) refused(c call, e api.Errno) *pair {
	p.t.Helper()
	before := seen(p.d)
	p.expect(c, failed(e))
	if after := seen(p.d); after != before {
		p.failf("refused, it is %v, before %v", after, before)
	}
	return p
}

// loads checks what Load returns.
func (p *pair) loads(a trail.Area, epoch, end int, bodies ...string) *pair {
	p.t.Helper()
	return p.expect(loading(a, epoch), answer{told(bodies), end, api.OK})
}

// appends checks that Append returns a position.
func (p *pair) appends(a trail.Area, at int, f frame.Frame, to int) *pair {
	p.t.Helper()
	return p.expect(appending(a, at, f), answer{told(nil), to, api.OK})
}

// accepted checks that a call returns OK, and nothing beside it.
func (p *pair) accepted(c call) *pair {
	p.t.Helper()
	return p.expect(c, failed(api.OK))
}

// write writes to sectors that there are, or to none.
func (p *pair) write(at int, s string) *pair {
	p.t.Helper()
	if s == "" {
		return p
	}
	p.calls = append(p.calls, fmt.Sprintf("write %d sectors at %d", len(s)/64, at))
	if got, want := p.d.Write(at, s), p.m.write(at, s); got != want {
		p.failf("the last call returns %d, want %d", int(got), int(want))
	}
	return p.compare()
}

func (p *pair) flush() *pair {
	p.t.Helper()
	p.calls = append(p.calls, "flush")
	p.d.Flush()
	p.m.flush()
	return p.compare()
}

// arm arms an operation from now on: 1 is the next one.
func (p *pair) arm(after int) *pair {
	p.t.Helper()
	p.calls = append(p.calls, fmt.Sprintf("arm %d", after))
	p.d.Arm(after)
	if !p.m.off {
		p.m.armed = p.m.ops + after
	}
	return p.compare()
}

func (p *pair) switchOff() *pair {
	p.t.Helper()
	p.calls = append(p.calls, "off")
	p.d.Off()
	p.m.off, p.m.armed = true, 0
	return p.compare()
}

func (p *pair) boot(c api.Choice) *pair {
	p.t.Helper()
	p.calls = append(p.calls, fmt.Sprintf("boot %v", c))
	p.d.Boot(c)
	p.m.boot(c)
	return p.compare()
}

// contents returns what the sectors of a device contain, be its power on or not.
func (p *pair) contents() string { return strings.Join(p.m.now, "") }

// everyKeep calls f with each choice of which ones of n sectors keep what was written.
func everyKeep(n int, f func(keep []bool)) {
	for bits := range 1 << n {
		keep := make([]bool, n)
		for i := range keep {
			keep[i] = bits>>i&1 == 1
		}
		f(keep)
	}
}

// everyChoice calls f with all choices of what is left of n loose sectors, but of the cuts with some of each kind.
func everyChoice(n int, f func(c api.Choice)) {
	everyKeep(n, func(keep []bool) {
		f(api.Choice{Keep: keep, Torn: -1})
		for torn := range n {
			if keep[torn] {
				continue
			}
			for _, cut := range []int{1, 16, 17, 20, 21, 40, 63} {
				f(api.Choice{Keep: keep, Torn: torn, Cut: cut})
			}
		}
	})
}

// restarted checks that a restart changes nothing: all is flushed.
func (p *pair) restarted() *pair {
	p.t.Helper()
	if loose := p.d.Loose(); len(loose) != 0 {
		p.failf("%v are loose", loose)
	}
	before := p.contents()
	for _, keep := range [][]bool{nil, {true}, {false, true}, slices.Repeat([]bool{true}, len(p.m.now))} {
		for torn := -1; torn <= min(2, len(p.m.now)); torn++ {
			c := p.copied().switchOff().boot(api.Choice{Keep: keep, Torn: torn, Cut: 17})
			if c.contents() != before {
				c.failf("a restart changes it from %.300x to %.300x", before, c.contents())
			}
		}
	}
	return p
}

func randomText(r *rand.Rand, length int) string {
	b := make([]byte, length)
	r.Read(b)
	return string(b)
}

// filled returns a pair of n sectors with random bytes, of which none is 1, so that none begins a frame.
func filled(t *testing.T, r *rand.Rand, n int) *pair {
	t.Helper()
	s := strings.ReplaceAll(randomText(r, 64*n), "\x01", "\x03")
	return newPair(t, n).write(0, s).flush()
}

// journal returns the frames of an epoch with the numbers 1, 2, 3 and so on.
func journal(epoch int, bodies ...string) []frame.Frame {
	var fs []frame.Frame
	for i, body := range bodies {
		fs = append(fs, frame.Frame{Epoch: epoch, Seq: i + 1, Body: body})
	}
	return fs
}

// laid returns the sectors of frames, one behind the other.
func laid(fs ...frame.Frame) string {
	s := ""
	for _, f := range fs {
		s += bytesOf(f)
	}
	return s
}

// bodyOf returns a body whose frame has n sectors.
func bodyOf(n int) string { return strings.Repeat("b", 63*n-20) }

// whole is the area of all sectors.
func whole(p *pair) trail.Area { return trail.Area{Sectors: len(p.m.now)} }

// The examples

func TestExampleOfLoad(t *testing.T) {
	p := newPair(t, 10)
	a := trail.Area{From: 2, Sectors: 8}
	two := strings.Repeat("the second", 8)
	p.appends(a, 0, frame.Frame{Epoch: 7, Seq: 1, Body: "the first"}, 1)
	p.appends(a, 1, frame.Frame{Epoch: 7, Seq: 2, Body: two}, 3)
	p.appends(a, 3, frame.Frame{Epoch: 7, Seq: 3, Body: "the third"}, 4)
	p.loads(a, 7, 4, "the first", two, "the third")
}

func TestExampleOfAppend(t *testing.T) {
	p := newPair(t, 10)
	p.refused(appending(trail.Area{From: 2, Sectors: 8}, -1, frame.Frame{Epoch: 7, Seq: 1, Body: "a"}), api.ErrFull)
}

func TestExampleOfAnAreaOfOneSector(t *testing.T) {
	for n := 1; n <= 3; n++ {
		for from := range n {
			p, a := newPair(t, n), trail.Area{From: from, Sectors: 1}
			p.appends(a, 0, frame.Frame{Epoch: 1, Seq: 1}, 1)
			p.refused(appending(a, 1, frame.Frame{Epoch: 1, Seq: 2}), api.ErrFull)
			p.loads(a, 1, 1, "")
		}
	}
}

// Devices that are nil, or that no call returned

// extremes lie far from all sectors, and where a sum or a number of fewer bits wraps around.
var extremes = []int{
	math.MinInt, math.MinInt + 1, -1 << 62, -1 << 32, 1 - 1<<32, math.MinInt32, -mostSectors - 1, -mostSectors, -64, -2, -1,
	mostSectors + 1, math.MaxInt32, 1 << 32, 1<<32 + 1, 1 << 57, 1 << 58, 1 << 62, math.MaxInt - mostSectors, math.MaxInt - 2, math.MaxInt - 1, math.MaxInt,
}

// everyCall returns calls of each kind with an area, that are possible there and that are not.
func everyCall(a trail.Area) []call {
	l := []call{checking(a)}
	for _, epoch := range []int{-1, 0, 1, 7, mostEpoch + 1} {
		l = append(l, loading(a, epoch))
	}
	for _, at := range []int{math.MinInt, -1, 0, 1, a.Sectors, math.MaxInt} {
		for _, f := range []frame.Frame{{Epoch: 7, Seq: 1, Body: "a"}, {Epoch: 7, Seq: 2, Body: bodyOf(3)}, {}, {Epoch: 7, Seq: 1, Body: strings.Repeat("b", mostBody+1)}} {
			l = append(l, appending(a, at, f))
		}
		for _, n := range []int{math.MinInt, -1, 0, 1, 2, mostWiped, mostWiped + 1, math.MaxInt} {
			l = append(l, wiping(a, at, n))
		}
	}
	return l
}

func TestDevicesThatNoCallReturned(t *testing.T) {
	none := &pair{t: t, m: &model{}}
	made := &pair{t: t, d: &sector.Device{}, m: &model{}}
	for _, a := range []trail.Area{{}, {Sectors: 1}, {From: 1, Sectors: 1}, {From: -1, Sectors: 1}, {Sectors: -1}, {From: math.MinInt, Sectors: math.MinInt}, {From: math.MaxInt, Sectors: math.MaxInt}} {
		for _, c := range everyCall(a) {
			for _, p := range []*pair{none, made} {
				if got := c.on(p.d); got != failed(api.ErrNil) {
					t.Errorf("%v of %v returns %v", c, p.d, got)
				}
				if p.d.Size() != 0 || p.d.Ops() != 0 || p.d.On() {
					t.Errorf("%v changes %v", c, p.d)
				}
			}
		}
	}
}

// P11.1

// numbersAround returns the least and the greatest int, and what is near 0 and near n.
func numbersAround(n int) []int {
	return append([]int{0, 1, 2, n - 2, n - 1, n, n + 1, n + 2}, extremes...)
}

func TestCheck(t *testing.T) {
	for _, n := range []int{1, 2, 3, 64, 200, mostSectors} {
		p := newPair(t, n)
		last := n - 1
		for _, c := range []struct {
			from, sectors int
			e             api.Errno
		}{
			{0, 1, api.OK}, {0, n, api.OK}, {last, 1, api.OK}, {last, 2, api.ErrArg}, {0, n + 1, api.ErrArg}, {1, n, api.ErrArg},
			{0, 0, api.ErrArg}, {last, 0, api.ErrArg}, {n, 0, api.ErrArg}, {n, 1, api.ErrArg}, {n + 1, -1, api.ErrArg}, {n, -1, api.ErrArg}, {1, -1, api.ErrArg},
			{-1, 1, api.ErrArg}, {-1, 2, api.ErrArg}, {-1, n, api.ErrArg}, {-1, n + 1, api.ErrArg}, {-n, n, api.ErrArg},
			{1, math.MaxInt, api.ErrArg}, {math.MaxInt, 1, api.ErrArg}, {math.MaxInt, math.MaxInt, api.ErrArg}, {math.MinInt, math.MinInt, api.ErrArg},
			{math.MinInt, math.MaxInt, api.ErrArg}, {math.MaxInt, math.MinInt, api.ErrArg}, {0, math.MinInt, api.ErrArg}, {math.MinInt, 1, api.ErrArg},
		} {
			p.refused(checking(trail.Area{From: c.from, Sectors: c.sectors}), c.e)
		}
		for _, from := range numbersAround(n) {
			for _, sectors := range numbersAround(n) {
				a := trail.Area{From: from, Sectors: sectors}
				if got, want := trail.Check(p.d, a), p.m.check(a).e; got != want {
					t.Errorf("Check(%v) of %d sectors = %d, want %d", a, n, int(got), int(want))
				}
			}
		}
		p.compare()
	}
}

func TestCheckOfEachAreaOfADevice(t *testing.T) {
	p := newPair(t, 40)
	for from := -2; from < 43; from++ {
		for sectors := -2; sectors < 43; sectors++ {
			a := trail.Area{From: from, Sectors: sectors}
			want := api.ErrArg
			if from >= 0 && sectors >= 1 && from+sectors <= 40 {
				want = api.OK
			}
			if got := trail.Check(p.d, a); got != want {
				t.Errorf("Check(%v) of 40 sectors = %d, want %d", a, int(got), int(want))
			}
		}
	}
}

// Check tells the same of a device without power, which has the same sectors.
func TestCheckWithoutPower(t *testing.T) {
	p := newPair(t, 5).switchOff()
	p.accepted(checking(trail.Area{From: 1, Sectors: 4}))
	p.refused(checking(trail.Area{From: 2, Sectors: 4}), api.ErrArg)
	p.refused(checking(trail.Area{From: 2}), api.ErrArg)
}

// An area that the device has not is refused by each call, whatever else is wrong.
func TestAreasThatTheDeviceHasNot(t *testing.T) {
	for _, n := range []int{1, 4} {
		for _, on := range []bool{true, false} {
			p := newPair(t, n).write(0, laid(journal(7, "a")...))
			if !on {
				p.switchOff()
			}
			for _, from := range []int{math.MinInt, -1, 0, n - 1, n, math.MaxInt} {
				for _, sectors := range []int{math.MinInt, -1, 0, 1, n, n + 1, math.MaxInt} {
					a := trail.Area{From: from, Sectors: sectors}
					if p.m.check(a).e == api.OK {
						continue
					}
					for _, c := range everyCall(a) {
						p.refused(c, api.ErrArg)
					}
				}
			}
		}
	}
}

func compareRoom(t *testing.T, a trail.Area, at int, body string) {
	t.Helper()
	if got, want := trail.Room(a, at, body), roomOf(a, at, body); got != want {
		t.Errorf("Room(%v, %d, %d bytes) = %t, want %t", a, at, len(body), got, want)
	}
}

func expectRoom(t *testing.T, a trail.Area, at int, body string, want bool) {
	t.Helper()
	if got := roomOf(a, at, body); got != want {
		t.Fatalf("the definition of Room(%v, %d, %d bytes) is %t, want %t", a, at, len(body), got, want)
	}
	compareRoom(t, a, at, body)
}

func TestRoom(t *testing.T) {
	for _, c := range []struct{ length, sectors int }{{0, 1}, {1, 1}, {42, 1}, {43, 1}, {44, 2}, {106, 2}, {107, 3}, {mostBody - 1, 48}, {mostBody, 48}, {mostBody + 1, 48}} {
		body := strings.Repeat("x", c.length)
		for _, from := range []int{0, 1, 1999, -1, math.MinInt, math.MaxInt} {
			expectRoom(t, trail.Area{From: from, Sectors: c.sectors}, 0, body, true)
			expectRoom(t, trail.Area{From: from, Sectors: c.sectors}, 1, body, false)
			expectRoom(t, trail.Area{From: from, Sectors: c.sectors}, -1, body, false)
			expectRoom(t, trail.Area{From: from, Sectors: c.sectors - 1}, 0, body, false)
			expectRoom(t, trail.Area{From: from, Sectors: c.sectors - 1}, -1, body, false)
			expectRoom(t, trail.Area{From: from, Sectors: c.sectors + 1}, 0, body, true)
			expectRoom(t, trail.Area{From: from, Sectors: c.sectors + 1}, 1, body, true)
			expectRoom(t, trail.Area{From: from, Sectors: c.sectors + 1}, 2, body, false)
			expectRoom(t, trail.Area{From: from, Sectors: c.sectors + 1}, -1, body, false)
			expectRoom(t, trail.Area{From: from, Sectors: math.MaxInt}, math.MaxInt-c.sectors, body, true)
			expectRoom(t, trail.Area{From: from, Sectors: math.MaxInt}, math.MaxInt-c.sectors+1, body, false)
			expectRoom(t, trail.Area{From: from, Sectors: math.MaxInt}, math.MaxInt, body, false)
			expectRoom(t, trail.Area{From: from, Sectors: math.MaxInt}, math.MinInt, body, false)
			expectRoom(t, trail.Area{From: from, Sectors: math.MinInt}, math.MinInt, body, false)
			expectRoom(t, trail.Area{From: from, Sectors: math.MinInt}, math.MaxInt, body, false)
			expectRoom(t, trail.Area{From: from, Sectors: math.MinInt}, 0, body, false)
			expectRoom(t, trail.Area{From: from}, 0, body, false)
			expectRoom(t, trail.Area{From: from, Sectors: -1}, -1, body, false)
			expectRoom(t, trail.Area{From: from, Sectors: -1}, -c.sectors-1, body, false)
		}
	}
}

func TestRoomAtEachPosition(t *testing.T) {
	for _, length := range []int{0, 43, 44, 106, 107, 200, mostBody, mostBody + 1} {
		body := strings.Repeat("x", length)
		n := countOf(body)
		for _, sectors := range append([]int{-1, 0, 1, 2, n - 1, n, n + 1, n + 2, 2 * n, mostSectors}, extremes...) {
			for _, from := range []int{0, 3, -1, mostSectors} {
				a := trail.Area{From: from, Sectors: sectors}
				for at := -2; at < n+4; at++ {
					compareRoom(t, a, at, body)
				}
				for _, at := range append([]int{sectors - n - 1, sectors - n, sectors - n + 1, sectors - 1, sectors, sectors + 1}, extremes...) {
					compareRoom(t, a, at, body)
				}
			}
		}
	}
}

// Append is full just where there is no room.
func TestRoomIsWhatAppendHas(t *testing.T) {
	for sectors := 1; sectors < 7; sectors++ {
		p := newPair(t, 9)
		a := trail.Area{From: 2, Sectors: sectors}
		for at := -2; at < 9; at++ {
			for n := 1; n < 7; n++ {
				f := frame.Frame{Epoch: 3, Seq: 1, Body: bodyOf(n)}
				want := api.ErrFull
				if trail.Room(a, at, f.Body) {
					want = api.OK
				}
				c := p.copied()
				if got := appending(a, at, f).on(c.d); got.e != want {
					t.Errorf("%v returns %v where Room is %t", appending(a, at, f), got, want == api.OK)
				}
				p.copied().do(appending(a, at, f))
			}
		}
	}
}

// P11.2

func TestLoadOfZeros(t *testing.T) {
	for _, n := range []int{1, 2, 5, mostSectors} {
		p := newPair(t, n)
		for _, a := range []trail.Area{whole(p), {Sectors: 1}, {From: n - 1, Sectors: 1}} {
			for _, epoch := range []int{math.MinInt, -1, 0, 1, 2, mostEpoch, mostEpoch + 1, math.MaxInt} {
				p.loads(a, epoch, 0)
			}
		}
	}
}

func TestLoadOfFramesOneBehindTheOther(t *testing.T) {
	r := rand.New(rand.NewSource(1))
	for n := range 6 {
		for _, lengths := range [][]int{{0, 0, 0, 0, 0, 0}, {43, 44, 43, 44, 106, 107}, {1, 200, 0, 300, 44, 0}, {mostBody, 0, mostBody, 7, mostBody - 1, 1}} {
			for _, epoch := range []int{1, 7, mostEpoch} {
				var bodies []string
				for _, length := range lengths[:n] {
					bodies = append(bodies, randomText(r, length))
				}
				s := laid(journal(epoch, bodies...)...)
				end := len(s) / 64
				p := filled(t, r, end+5).write(2, s).flush()
				for behind := range 4 {
					a := trail.Area{From: 2, Sectors: end + behind}
					if a.Sectors == 0 {
						continue
					}
					p.loads(a, epoch, end, bodies...)
					p.loads(a, epoch+1, 0).loads(a, epoch-1, 0).loads(a, -epoch, 0).loads(a, epoch+1<<32, 0)
				}
			}
		}
	}
}

func TestLoadOfOtherFrames(t *testing.T) {
	two := bodyOf(2)
	fs := journal(7, "a", two, "c", "d")
	others := journal(8, "e", two, "g")
	for i, c := range []struct {
		s      string
		epoch  int
		end    int
		bodies []string
	}{
		{laid(fs...), 7, 5, []string{"a", two, "c", "d"}},
		{laid(fs...), 8, 0, nil},
		{laid(others...), 8, 4, []string{"e", two, "g"}},
		{laid(fs[1], fs[0], fs[2]), 7, 0, nil},
		{laid(fs[0], fs[2], fs[1]), 7, 1, []string{"a"}},
		{laid(fs[0], fs[1], fs[3], fs[2]), 7, 3, []string{"a", two}},
		{laid(fs[1:]...), 7, 0, nil},
		{laid(fs[0], fs[2], fs[3]), 7, 1, []string{"a"}},
		{laid(fs[0], fs[1], fs[3]), 7, 3, []string{"a", two}},
		{laid(fs[0], fs[0], fs[1]), 7, 1, []string{"a"}},
		{laid(fs[0], fs[1], fs[1], fs[2]), 7, 3, []string{"a", two}},
		{laid(fs[0], others[1], fs[2]), 7, 1, []string{"a"}},
		{laid(fs[0], others[1], fs[2]), 8, 0, nil},
		{laid(others[0], fs[1], others[2]), 8, 1, []string{"e"}},
		{laid(others...) + laid(fs...), 7, 0, nil},
		{laid(others...) + laid(fs...), 8, 4, []string{"e", two, "g"}},
		{laid(fs[0]) + zeros + laid(fs[1]), 7, 1, []string{"a"}},
		{zeros + laid(fs...), 7, 0, nil},
		{laid(fs[0]) + laid(fs[1])[:64] + zeros + laid(fs[2]), 7, 1, []string{"a"}},
		{laid(fs[0]) + laid(fs[1])[64:] + laid(fs[2]), 7, 1, []string{"a"}},
		{laid(fs[0]) + laid(fs[1])[:64] + laid(fs[2]), 7, 1, []string{"a"}},
	} {
		for _, behind := range []string{"", zeros, strings.Repeat("\x01", 64), strings.Repeat("\xff", 128), laid(fs[0]), laid(fs[1])[64:]} {
			s := c.s + behind
			p := newPair(t, len(s)/64+2).write(1, s)
			p.calls = append(p.calls, fmt.Sprint("case ", i))
			p.loads(trail.Area{From: 1, Sectors: len(s) / 64}, c.epoch, c.end, c.bodies...)
		}
	}
}

// An area that ends within a frame has no such frame, and one that begins within a frame has none.
func TestLoadOfEachArea(t *testing.T) {
	r := rand.New(rand.NewSource(2))
	ones := journal(7, "a", bodyOf(2), "c", bodyOf(3), "")
	twos := journal(7, bodyOf(1), bodyOf(1), bodyOf(2))
	for _, s := range []string{laid(ones...) + laid(ones...), laid(twos...) + laid(ones...) + laid(twos...), randomText(r, 64*3) + laid(twos...) + laid(ones...)} {
		p := newPair(t, len(s)/64).write(0, s)
		var found, empty int
		for from := range len(p.m.now) {
			for sectors := 1; from+sectors <= len(p.m.now); sectors++ {
				a := trail.Area{From: from, Sectors: sectors}
				p.do(loading(a, 7), loading(a, 8))
				if p.m.load(a, 7).n > 0 {
					found++
				} else {
					empty++
				}
			}
		}
		if found < 20 || empty < 20 {
			t.Errorf("of the areas %d have frames, and %d have none", found, empty)
		}
	}
}

// Neither what is just ahead of an area nor what is just behind it is loaded.
func TestLoadOfAnAreaBetweenFrames(t *testing.T) {
	fs := journal(7, "a", "b", "c", "d", "e")
	p := newPair(t, 5).write(0, laid(fs...))
	p.loads(trail.Area{From: 0, Sectors: 3}, 7, 3, "a", "b", "c")
	p.loads(trail.Area{From: 1, Sectors: 4}, 7, 0)
	p = newPair(t, 5).write(0, laid(fs[0], fs[0], fs[1], fs[2], fs[3]))
	p.loads(trail.Area{From: 1, Sectors: 2}, 7, 2, "a", "b")
	p.loads(trail.Area{From: 0, Sectors: 2}, 7, 1, "a")
	p.loads(trail.Area{From: 1, Sectors: 4}, 7, 4, "a", "b", "c", "d")
}

func TestLoadOfTheGreatestDevice(t *testing.T) {
	bodies := slices.Repeat([]string{strings.Repeat("x", mostBody), "", bodyOf(2)}, mostSectors/51)
	p := newPair(t, mostSectors)
	end := 0
	for i, body := range bodies {
		f := frame.Frame{Epoch: 9, Seq: i + 1, Body: body}
		to, e := trail.Append(p.d, whole(p), end, f)
		if e != api.OK || to != end+countOf(body) {
			t.Fatalf("frame %d: %d, %d", i+1, to, int(e))
		}
		p.m.append(whole(p), end, f)
		end = to
	}
	p.compare().loads(whole(p), 9, end, bodies...).restarted()
}

// What is loose is loaded as well; what a restart leaves of it is loaded behind the restart.
func TestLoadBeforeAndBehindARestart(t *testing.T) {
	fs := journal(7, "a", bodyOf(2), "c")
	p := newPair(t, 6)
	a := trail.Area{From: 1, Sectors: 5}
	p.write(1, laid(fs...)).loads(a, 7, 4, "a", bodyOf(2), "c")
	everyChoice(4, func(c api.Choice) { p.copied().switchOff().boot(c).do(loading(a, 7)) })
	p.copied().boot(api.Choice{Keep: []bool{true, true, true, true}, Torn: -1}).loads(a, 7, 4, "a", bodyOf(2), "c")
	p.copied().boot(api.Choice{Keep: []bool{true, true, false, true}, Torn: -1}).loads(a, 7, 1, "a")
	p.copied().boot(api.Choice{Keep: []bool{true, true, true, true}, Torn: 3, Cut: 17}).loads(a, 7, 3, "a", bodyOf(2))
	p.copied().boot(api.Choice{Torn: -1}).loads(a, 7, 0)
	p.flush().restarted().loads(a, 7, 4, "a", bodyOf(2), "c")
}

// P11.3

// beside checks that of a device's sectors only those from a number on are other ones than before, and that these are what was written.
func (p *pair) beside(before string, at int, written string) *pair {
	p.t.Helper()
	got, e := p.d.Read(0, p.d.Size())
	if want := before[:64*at] + written + before[64*at+len(written):]; got != want || e != api.OK {
		p.failf("the sectors are %.300x, want %.300x", got, want)
	}
	return p
}

func TestAppendAtEachPosition(t *testing.T) {
	r := rand.New(rand.NewSource(3))
	for _, a := range []trail.Area{{Sectors: 8}, {From: 3, Sectors: 5}, {From: 2, Sectors: 1}, {From: 7, Sectors: 1}, {From: 1, Sectors: 6}} {
		for n := 1; n <= 6; n++ {
			for _, body := range []string{bodyOf(n), bodyOf(n)[:max(0, 63*n-20-62)], randomText(r, 63*n-20)} {
				f := frame.Frame{Epoch: 1 + r.Intn(mostEpoch), Seq: 1 + r.Intn(mostSeq), Body: body}
				for at := -2; at <= a.Sectors+2; at++ {
					p := filled(t, r, 8)
					before := p.contents()
					if at < 0 || at+n > a.Sectors {
						p.refused(appending(a, at, f), api.ErrFull)
						continue
					}
					p.appends(a, at, f, at+n).beside(before, a.From+at, bytesOf(f)).restarted()
					if p.d.Ops() != 8+1+n+1 {
						t.Errorf("%d ops", p.d.Ops())
					}
				}
				for _, at := range extremes {
					filled(t, r, 8).refused(appending(a, at, f), api.ErrFull)
				}
			}
		}
	}
}

func TestAppendInAnAreaThatIsJustLargeEnough(t *testing.T) {
	r := rand.New(rand.NewSource(4))
	for _, length := range []int{0, 1, 42, 43, 44, 106, 107, 1000, 2999, mostBody} {
		f := frame.Frame{Epoch: 5, Seq: 6, Body: randomText(r, length)}
		n := countOf(f.Body)
		for from := range 2 {
			p := filled(t, r, n+3)
			before := p.contents()
			p.copied().appends(trail.Area{From: from, Sectors: n}, 0, f, n).beside(before, from, bytesOf(f)).restarted()
			p.copied().appends(trail.Area{From: from, Sectors: n + 1}, 1, f, n+1).beside(before, from+1, bytesOf(f)).restarted()
			p.refused(appending(trail.Area{From: from, Sectors: n}, 1, f), api.ErrFull)
			p.refused(appending(trail.Area{From: from, Sectors: n + 1}, 2, f), api.ErrFull)
			if n > 1 {
				p.refused(appending(trail.Area{From: from, Sectors: n - 1}, 0, f), api.ErrFull)
			}
		}
	}
}

// refusedFrames are those that frame.Put refuses, by its error.
func refusedFrames() map[api.Errno][]frame.Frame {
	long := strings.Repeat("l", mostBody+1)
	l := map[api.Errno][]frame.Frame{
		api.ErrBig: {{Epoch: 1, Seq: 1, Body: long}, {Epoch: mostEpoch, Seq: mostSeq, Body: long + long}},
	}
	for _, no := range []int{math.MinInt, -1, 0, 1 << 32, 1<<32 + 1, math.MaxInt} {
		l[api.ErrArg] = append(l[api.ErrArg], frame.Frame{Epoch: no, Seq: 1}, frame.Frame{Epoch: 1, Seq: no}, frame.Frame{Epoch: no, Seq: 1, Body: long}, frame.Frame{Epoch: 1, Seq: no, Body: long})
	}
	l[api.ErrArg] = append(l[api.ErrArg], frame.Frame{Epoch: mostEpoch + 1, Seq: 1}, frame.Frame{Epoch: 1, Seq: mostSeq + 1})
	return l
}

func TestAppendOfFramesThatPutRefuses(t *testing.T) {
	r := rand.New(rand.NewSource(5))
	p := filled(t, r, 52)
	for e, fs := range refusedFrames() {
		for _, f := range fs {
			for _, a := range []trail.Area{{Sectors: 52}, {From: 1, Sectors: 48}, {From: 51, Sectors: 1}} {
				for _, at := range []int{0, 1, -1, a.Sectors, math.MaxInt} {
					p.refused(appending(a, at, f), e)
				}
			}
		}
	}
}

func TestAppendOfFramesAtTheLimits(t *testing.T) {
	for _, f := range []frame.Frame{
		{Epoch: 1, Seq: 1}, {Epoch: mostEpoch, Seq: mostSeq}, {Epoch: 1, Seq: mostSeq, Body: "a"}, {Epoch: mostEpoch, Seq: 1, Body: strings.Repeat("z", mostBody)},
	} {
		p := newPair(t, 60)
		a := trail.Area{From: 5, Sectors: 50}
		p.appends(a, 1, f, 1+countOf(f.Body)).beside(strings.Repeat(zeros, 60), 6, bytesOf(f)).restarted()
	}
}

// fault is something that makes a call impossible.
type fault struct {
	e  api.Errno
	to func(p *pair, c *call)
}

// everyFault makes calls with each set of faults, and checks that the first one of the set is told.
func everyFault(t *testing.T, good call, faults []fault) {
	t.Helper()
	for set := 1; set < 1<<len(faults); set++ {
		p := filled(t, rand.New(rand.NewSource(6)), 6)
		c, want := good, api.OK
		// A fault that is told later is made earlier, so that of two that change one thing the first one holds.
		for i, f := range slices.Backward(faults) {
			if set>>i&1 == 1 {
				f.to(p, &c)
				want = f.e
			}
		}
		if p.d.Size() == 0 {
			if got := c.on(p.d); got != failed(want) {
				t.Errorf("faults %b: %v returns %v, want %d", set, c, got, int(want))
			}
			continue
		}
		p.refused(c, want)
	}
}

var (
	noDevice = fault{api.ErrNil, func(p *pair, c *call) { p.d, p.m = nil, &model{} }}
	noMade   = fault{api.ErrNil, func(p *pair, c *call) { p.d, p.m = &sector.Device{}, &model{} }}
	noArea   = fault{api.ErrArg, func(p *pair, c *call) { c.a.Sectors = 0 }}
	areaFar  = fault{api.ErrArg, func(p *pair, c *call) { c.a.From = 6 }}
	areaLong = fault{api.ErrArg, func(p *pair, c *call) { c.a.Sectors = 60 }}
	noPower  = fault{api.ErrDead, func(p *pair, c *call) { p.switchOff() }}
)

func TestTheOrderOfErrors(t *testing.T) {
	a := trail.Area{From: 1, Sectors: 4}
	f := frame.Frame{Epoch: 3, Seq: 4, Body: bodyOf(2)}
	for _, device := range []fault{noDevice, noMade} {
		for _, area := range []fault{noArea, areaFar, areaLong} {
			everyFault(t, checking(a), []fault{device, area})
			everyFault(t, loading(a, 7), []fault{device, area, noPower})
			everyFault(t, appending(a, 1, f), []fault{device, area,
				{api.ErrArg, func(p *pair, c *call) { c.f.Epoch = 0 }},
				{api.ErrArg, func(p *pair, c *call) { c.f.Seq = mostSeq + 1 }},
				{api.ErrBig, func(p *pair, c *call) { c.f.Body = strings.Repeat("l", mostBody+1) }},
				{api.ErrFull, func(p *pair, c *call) { c.at = -1 }},
				{api.ErrFull, func(p *pair, c *call) { c.at = 3 }},
				noPower})
			everyFault(t, wiping(a, 1, 2), []fault{device, area,
				{api.ErrArg, func(p *pair, c *call) { c.at = -1 }},
				{api.ErrArg, func(p *pair, c *call) { c.at = 5 }},
				{api.ErrArg, func(p *pair, c *call) { c.n = 0 }},
				{api.ErrArg, func(p *pair, c *call) { c.n = 101 }},
				noPower})
		}
	}
}

// P11.4

func TestWipeAtEachPosition(t *testing.T) {
	r := rand.New(rand.NewSource(7))
	for _, a := range []trail.Area{{Sectors: 120}, {From: 3, Sectors: 110}, {From: 119, Sectors: 1}, {Sectors: 1}, {From: 7, Sectors: 2}, {From: 10, Sectors: 100}, {From: 11, Sectors: 99}} {
		p := filled(t, r, 120)
		before, ops := p.contents(), p.d.Ops()
		for at := -1; at <= a.Sectors+1; at++ {
			for _, n := range []int{math.MinInt, -1, 0, 1, 2, 99, mostWiped, mostWiped + 1, math.MaxInt} {
				c := wiping(a, at, n)
				if at < 0 || at > a.Sectors || n < 1 || n > mostWiped {
					p.refused(c, api.ErrArg)
					continue
				}
				wiped := min(n, a.Sectors-at)
				if wiped == 0 {
					p.refused(c, api.OK)
					continue
				}
				w := p.copied().accepted(c).beside(before, a.From+at, strings.Repeat(zeros, wiped))
				if w.d.Ops() != ops+wiped+1 || len(w.d.Loose()) != 0 {
					w.failf("%d operations, and loose are %v", w.d.Ops()-ops, w.d.Loose())
				}
				if at%20 == 0 {
					w.restarted()
				}
			}
		}
		for _, at := range extremes {
			for _, n := range []int{-1, 0, 1, mostWiped, mostWiped + 1} {
				p.refused(wiping(a, at, n), api.ErrArg)
			}
		}
		for _, n := range extremes {
			p.refused(wiping(a, 0, n), api.ErrArg)
		}
	}
}

// Of no sectors nothing is done: no operation is counted, what is loose stays so, and no power is needed.
func TestWipeOfNoSectors(t *testing.T) {
	for _, a := range []trail.Area{{Sectors: 6}, {From: 2, Sectors: 3}, {From: 5, Sectors: 1}} {
		p := newPair(t, 6).write(1, strings.Repeat("w", 3*64))
		for _, n := range []int{1, 2, 99, mostWiped} {
			p.refused(wiping(a, a.Sectors, n), api.OK)
			p.copied().arm(1).refused(wiping(a, a.Sectors, n), api.OK).flush().do(checking(a), loading(a, 1))
			p.copied().switchOff().refused(wiping(a, a.Sectors, n), api.OK)
		}
		for _, n := range []int{math.MinInt, -1, 0, mostWiped + 1, math.MaxInt} {
			p.refused(wiping(a, a.Sectors, n), api.ErrArg)
		}
	}
}

// Behind a Wipe of where a journal begins, nothing of it is loaded, and behind one of where it goes on, what is ahead of that.
func TestLoadBehindAWipe(t *testing.T) {
	p := newPair(t, 8)
	a := trail.Area{From: 1, Sectors: 6}
	p.write(1, laid(journal(7, "a", bodyOf(2), "c", "d")...)).flush()
	p.copied().accepted(wiping(a, 0, 1)).loads(a, 7, 0)
	p.copied().accepted(wiping(a, 1, 1)).loads(a, 7, 1, "a")
	p.copied().accepted(wiping(a, 2, 1)).loads(a, 7, 1, "a")
	p.copied().accepted(wiping(a, 3, 1)).loads(a, 7, 3, "a", bodyOf(2))
	p.copied().accepted(wiping(a, 4, 100)).loads(a, 7, 4, "a", bodyOf(2), "c")
	p.copied().accepted(wiping(a, 5, 100)).loads(a, 7, 5, "a", bodyOf(2), "c", "d")
	p.copied().accepted(wiping(a, 0, 100)).loads(a, 7, 0).beside(strings.Repeat(zeros, 8), 0, "")
}

// What was loose elsewhere is flushed too.
func TestAllIsFlushed(t *testing.T) {
	r := rand.New(rand.NewSource(8))
	a := trail.Area{From: 3, Sectors: 4}
	for _, c := range []call{appending(a, 0, frame.Frame{Epoch: 1, Seq: 1}), appending(a, 1, frame.Frame{Epoch: 1, Seq: 1, Body: bodyOf(3)}), wiping(a, 0, 1), wiping(a, 3, 100)} {
		p := filled(t, r, 9).write(0, randomText(r, 9*64))
		p.do(c).restarted()
	}
}

// The power

func TestCallsWithoutPower(t *testing.T) {
	a := trail.Area{From: 1, Sectors: 4}
	f := frame.Frame{Epoch: 7, Seq: 1, Body: bodyOf(2)}
	p := newPair(t, 6).write(0, strings.Repeat("w", 3*64)).switchOff()
	for _, c := range []call{loading(a, 7), loading(a, 0), appending(a, 0, f), appending(a, 2, f), wiping(a, 0, 1), wiping(a, 3, 100)} {
		p.refused(c, api.ErrDead)
	}
	p.accepted(checking(a))
	p.refused(appending(a, 3, f), api.ErrFull)
	p.refused(appending(a, 0, frame.Frame{Epoch: 7}), api.ErrArg)
	p.refused(wiping(a, 0, 0), api.ErrArg)
	p.boot(api.Choice{Keep: []bool{true, false, true}, Torn: -1}).appends(a, 0, f, 2).loads(a, 7, 2, f.Body)
}

// The power is lost at each operation of a call, and then each choice is made of what is left.
func TestThePowerIsLostAtEachOperation(t *testing.T) {
	r := rand.New(rand.NewSource(9))
	a := trail.Area{From: 1, Sectors: 5}
	var calls []call
	for n := 1; n <= 4; n++ {
		for at := 0; at+n <= a.Sectors; at++ {
			calls = append(calls, appending(a, at, frame.Frame{Epoch: 7, Seq: 2, Body: randomText(r, 63*n-20-r.Intn(40))}), wiping(a, at, n))
		}
	}
	calls = append(calls, wiping(a, 1, 100), wiping(a, 4, 100))
	for _, c := range calls {
		p := filled(t, r, 7)
		before, ops := p.contents(), p.d.Ops()
		n := countOf(c.f.Body)
		written := bytesOf(c.f)
		if c.name == "Wipe" {
			n = min(c.n, a.Sectors-c.at)
			written = strings.Repeat(zeros, n)
		}
		for after := 1; after <= n+1; after++ {
			lost := p.copied().arm(after).expect(c, failed(api.ErrDead))
			if lost.d.Ops() != ops+after || lost.d.On() {
				lost.failf("%d operations, on is %t", lost.d.Ops()-ops, lost.d.On())
			}
			lost.refused(loading(a, 7), api.ErrDead).refused(c, api.ErrDead)
			lost.copied().boot(api.Choice{Keep: slices.Repeat([]bool{true}, n), Torn: -1}).beside(before, a.From+c.at, written[:64*min(after, n)])
			lost.copied().boot(api.Choice{Torn: -1}).beside(before, 0, "")
			everyChoice(min(after, n), func(choice api.Choice) { lost.copied().boot(choice).do(loading(a, 7)) })
			lost.boot(api.Choice{Torn: 0, Cut: 5}).do(c).restarted()
		}
		// Armed behind the call, the power is lost at the operation that follows.
		p.arm(n+2).do(c).restarted().write(0, zeros).refused(c, api.ErrDead)
	}
}

// Check, Room and Load are no operations: the power is not lost at them.
func TestThePowerIsNotLostAtOtherCalls(t *testing.T) {
	a := trail.Area{From: 1, Sectors: 5}
	p := newPair(t, 6).write(1, laid(journal(7, "a", bodyOf(2))...)).arm(1)
	before := seen(p.d)
	p.accepted(checking(a)).loads(a, 7, 3, "a", bodyOf(2)).loads(a, 8, 0)
	if !trail.Room(a, 3, "c") {
		t.Error("there is no room")
	}
	if after := seen(p.d); after != before {
		p.failf("it is %v, before %v", after, before)
	}
	p.expect(appending(a, 3, frame.Frame{Epoch: 7, Seq: 3}), failed(api.ErrDead))
}

// P11.5

// randomBody returns a body: often a short one, at times a long one, or one that holds whole frames.
func randomBody(r *rand.Rand) string {
	switch r.Intn(8) {
	case 0:
		return ""
	case 1:
		return strings.Repeat(zeros, r.Intn(4))
	case 2:
		return randomText(r, r.Intn(mostBody+1))
	case 3:
		// Its frames lie where sectors of the frame begin, but for the byte that each of those begins with.
		inner := laid(journal(1+r.Intn(3), randomText(r, r.Intn(90)), "inner")...)
		return randomText(r, 47)[:46+r.Intn(2)] + inner
	case 4:
		return bytesOf(frame.Frame{Epoch: 1 + r.Intn(3), Seq: 1 + r.Intn(4), Body: randomText(r, r.Intn(60))})
	}
	return randomText(r, r.Intn(150))
}

// appendAll appends an epoch's frames from the position 0 on, as long as there is room, and returns their bodies, and the position after them.
func (p *pair) appendAll(r *rand.Rand, a trail.Area, epoch, most int) ([]string, int) {
	p.t.Helper()
	var bodies []string
	at := 0
	for range most {
		body := randomBody(r)
		f := frame.Frame{Epoch: epoch, Seq: len(bodies) + 1, Body: body}
		if !roomOf(a, at, body) {
			p.refused(appending(a, at, f), api.ErrFull)
			continue
		}
		p.appends(a, at, f, at+countOf(body))
		bodies, at = append(bodies, body), at+countOf(body)
		if r.Intn(3) == 0 {
			p.loads(a, epoch, at, bodies...)
		}
	}
	return bodies, at
}

// randomArea returns an area of a device of n sectors.
func randomArea(r *rand.Rand, n int) trail.Area {
	from := r.Intn(n)
	return trail.Area{From: from, Sectors: 1 + r.Intn(n-from)}
}

func TestKeeps(t *testing.T) {
	r := rand.New(rand.NewSource(10))
	for range 250 {
		p := filled(t, r, 1+r.Intn(120))
		a := randomArea(r, len(p.m.now))
		epoch := 1 + r.Intn(3)
		before := p.contents()
		bodies, end := p.appendAll(r, a, epoch, r.Intn(12))
		p.loads(a, epoch, end, bodies...).loads(a, epoch+1, 0)
		p.beside(before, a.From, laid(journal(epoch, bodies...)...)).restarted()
		p.boot(api.Choice{Torn: r.Intn(9), Cut: r.Intn(64)}).loads(a, epoch, end, bodies...)
	}
}

// A journal of a greater epoch is written over an older one: at each moment Load returns just the frames of its epoch.
func TestKeepsEpochByEpoch(t *testing.T) {
	r := rand.New(rand.NewSource(11))
	for range 40 {
		p := newPair(t, 4+r.Intn(60))
		a := randomArea(r, len(p.m.now))
		for epoch := 1; epoch < 6; epoch++ {
			p.loads(a, epoch, 0)
			bodies, end := p.appendAll(r, a, epoch, 6)
			p.loads(a, epoch, end, bodies...)
		}
	}
}

// Two journals in areas side by side do not disturb one another.
func TestKeepsTwoJournals(t *testing.T) {
	r := rand.New(rand.NewSource(12))
	for range 60 {
		n, first := 2+r.Intn(80), 0
		first = 1 + r.Intn(n-1)
		p := filled(t, r, n)
		a, b := trail.Area{Sectors: first}, trail.Area{From: first, Sectors: n - first}
		ones, one := p.appendAll(r, a, 7, 5)
		twos, two := p.appendAll(r, b, 7, 5)
		p.loads(a, 7, one, ones...).loads(b, 7, two, twos...)
		p.accepted(wiping(a, 0, 100)).loads(b, 7, two, twos...)
	}
}

// P11.6

// previousAndPerhaps checks that the previous bodies are loaded, and behind them at most the new one, and returns how many new ones there are.
func (p *pair) previousAndPerhaps(a trail.Area, epoch int, previous []string, body string) int {
	p.t.Helper()
	p.do(loading(a, epoch))
	got, _, e := trail.Load(p.d, a, epoch)
	switch {
	case e != api.OK:
		p.failf("Load returns %d", int(e))
	case slices.Equal(got, previous):
		return 0
	case slices.Equal(got, append(slices.Clone(previous), body)):
		return 1
	}
	p.failf("Load returns %.400s, want %.400s and perhaps %.40q", told(got), told(previous), body)
	return 0
}

// ground returns a pair of what there can be before a journal is written: no frame of the epochs from 5 on.
func ground(t *testing.T, r *rand.Rand, n int) *pair {
	t.Helper()
	p := newPair(t, n)
	switch r.Intn(3) {
	case 0:
		return p
	case 1:
		return filled(t, r, n)
	}
	for at := 0; at < n; {
		s := laid(frame.Frame{Epoch: 1 + r.Intn(4), Seq: 1 + r.Intn(5), Body: randomBody(r)})
		s = s[:min(len(s), 64*(n-at))]
		p.write(at, s)
		at += len(s) / 64
	}
	return p.flush()
}

// shortBody returns a body whose frame has at most four sectors.
func shortBody(r *rand.Rand) string {
	for {
		if body := randomBody(r); countOf(body) <= 4 {
			return body
		}
	}
}

// Wherever the power is lost, and whatever remains: the previous frames are loaded, and the new one or not.
func TestFalls(t *testing.T) {
	r := rand.New(rand.NewSource(13))
	var counts [2]int
	for range 60 {
		p := ground(t, r, 8+r.Intn(30))
		a := randomArea(r, len(p.m.now))
		epoch := 5 + r.Intn(3)
		previous, at := p.appendAll(r, a, epoch, r.Intn(4))
		f := frame.Frame{Epoch: epoch, Seq: len(previous) + 1, Body: shortBody(r)}
		if !roomOf(a, at, f.Body) {
			continue
		}
		n := countOf(f.Body)
		for after := 1; after <= n+1; after++ {
			lost := p.copied().arm(after).expect(appending(a, at, f), failed(api.ErrDead))
			everyChoice(min(after, n), func(c api.Choice) {
				left := lost.copied().boot(c)
				found := left.previousAndPerhaps(a, epoch, previous, f.Body)
				counts[found]++
				// Where all of its sectors are as they were written it is loaded, where the first one is as before it is not.
				if after >= n && !slices.Contains(c.Keep, false) && found == 0 || !c.Keep[0] && c.Torn != 0 && found == 1 {
					left.failf("%d of the frame's sectors were written: %d", after, found)
				}
			})
		}
		whole := p.arm(n+2).appends(a, at, f, at+n)
		if whole.previousAndPerhaps(a, epoch, previous, f.Body) != 1 {
			whole.failf("the frame is not loaded")
		}
	}
	if counts[0] < 1000 || counts[1] < 100 {
		t.Errorf("the new frame is loaded %d times, and not %d times", counts[1], counts[0])
	}
}

// The same with frames of many sectors, of which some choices are drawn.
func TestFallsOfLongFrames(t *testing.T) {
	r := rand.New(rand.NewSource(14))
	for range 25 {
		p := ground(t, r, 60+r.Intn(60))
		a := trail.Area{From: r.Intn(10), Sectors: 50}
		previous := []string{"the first one"}
		p.appends(a, 0, frame.Frame{Epoch: 5, Seq: 1, Body: previous[0]}, 1)
		f := frame.Frame{Epoch: 5, Seq: 2, Body: randomText(r, 400+r.Intn(mostBody-399))}
		n := countOf(f.Body)
		for after := 1; after <= n+1; after++ {
			lost := p.copied().arm(after).expect(appending(a, 1, f), failed(api.ErrDead))
			for _, keep := range [][]bool{nil, slices.Repeat([]bool{true}, n), randomKeep(r, n), randomKeep(r, n)} {
				left := lost.copied().boot(api.Choice{Keep: keep, Torn: r.Intn(n+1) - 1, Cut: r.Intn(65)})
				left.previousAndPerhaps(a, 5, previous, f.Body)
			}
		}
	}
}

// randomKeep returns a choice by which most of n sectors keep what was written.
func randomKeep(r *rand.Rand, n int) []bool {
	keep := slices.Repeat([]bool{true}, n)
	for range r.Intn(3) {
		keep[r.Intn(n)] = false
	}
	return keep
}

// The frame that was lost is appended again, and the journal goes on.
func TestGoesOnAfterAFall(t *testing.T) {
	r := rand.New(rand.NewSource(15))
	for range 150 {
		p := ground(t, r, 20+r.Intn(80))
		a := randomArea(r, len(p.m.now))
		var bodies []string
		at := 0
		for range 8 {
			f := frame.Frame{Epoch: 9, Seq: len(bodies) + 1, Body: randomBody(r)}
			if !roomOf(a, at, f.Body) {
				break
			}
			p.arm(1 + r.Intn(countOf(f.Body)+2)).do(appending(a, at, f))
			if p.m.off {
				p.boot(api.Choice{Keep: randomKeep(r, 48), Torn: r.Intn(6) - 1, Cut: r.Intn(65)})
			}
			if p.previousAndPerhaps(a, 9, bodies, f.Body) == 0 {
				p.appends(a, at, f, at+countOf(f.Body))
			}
			bodies, at = append(bodies, f.Body), at+countOf(f.Body)
			p.loads(a, 9, at, bodies...)
		}
	}
}

// What remains can be another frame with that number, if one was there: then it is loaded. A Wipe ahead of the Append prevents that.
func TestFallsOnAnotherFrameWithThatNumber(t *testing.T) {
	a := trail.Area{From: 1, Sectors: 6}
	was := journal(7, "a", bodyOf(2), "c")
	f := frame.Frame{Epoch: 7, Seq: 2, Body: strings.Repeat("n", 100)}
	p := newPair(t, 8).write(1, laid(was...)).flush()
	p.copied().arm(1).expect(appending(a, 1, f), failed(api.ErrDead)).boot(api.Choice{Torn: -1}).loads(a, 7, 4, "a", bodyOf(2), "c")
	p.copied().arm(1).expect(appending(a, 1, f), failed(api.ErrDead)).boot(api.Choice{Keep: []bool{true}, Torn: -1}).loads(a, 7, 1, "a")
	p.accepted(wiping(a, 1, 3))
	for after := 1; after <= 3; after++ {
		lost := p.copied().arm(after).expect(appending(a, 1, f), failed(api.ErrDead))
		everyChoice(min(after, 2), func(c api.Choice) { lost.copied().boot(c).previousAndPerhaps(a, 7, []string{"a"}, f.Body) })
	}
}

// Calls in any order, against the definition

// randomNumber returns a number around those from 0 to n, and at times any.
func randomNumber(r *rand.Rand, n int) int {
	if r.Intn(12) == 0 {
		return extremes[r.Intn(len(extremes))]
	}
	return r.Intn(n+3) - 1
}

func randomCall(r *rand.Rand, n int) call {
	a := randomArea(r, n)
	switch r.Intn(6) {
	case 0:
		a = trail.Area{From: randomNumber(r, n), Sectors: randomNumber(r, n)}
	case 1, 2, 3:
		a = trail.Area{Sectors: n}
	}
	switch r.Intn(7) {
	case 0:
		return checking(a)
	case 1, 2:
		return loading(a, r.Intn(5))
	case 3:
		return wiping(a, randomNumber(r, max(0, min(n, a.Sectors))), randomNumber(r, 5))
	}
	f := frame.Frame{Epoch: 1 + r.Intn(3), Seq: 1 + r.Intn(3), Body: randomBody(r)}
	switch r.Intn(12) {
	case 0:
		f.Epoch = randomNumber(r, 1)
	case 1:
		f.Seq = randomNumber(r, 1)
	case 2:
		f.Body = strings.Repeat("l", mostBody+1)
	}
	return appending(a, randomNumber(r, max(0, min(n, a.Sectors)/3)), f)
}

func TestSequencesOfCalls(t *testing.T) {
	r := rand.New(rand.NewSource(16))
	counts := map[string]int{}
	loaded := 0
	for range 400 {
		n := 1 + r.Intn(14)
		p := newPair(t, n)
		for range 80 {
			switch r.Intn(12) {
			case 0:
				p.arm(1 + r.Intn(6))
			case 1, 2:
				p.boot(api.Choice{Keep: randomKeep(r, n), Torn: r.Intn(4) - 1, Cut: r.Intn(65)})
			}
			c := randomCall(r, n)
			x := c.of(p.m.copied())
			counts[fmt.Sprint(c.name, " ", int(x.e))]++
			if c.name == "Load" && x.n > 0 {
				loaded++
			}
			p.do(c)
		}
	}
	for _, name := range []string{"Check 0", "Check 2", "Load 0", "Load 2", "Load 20", "Append 0", "Append 2", "Append 3", "Append 20", "Append 22", "Wipe 0", "Wipe 2", "Wipe 20"} {
		if counts[name] < 20 {
			t.Errorf("%s: %d calls", name, counts[name])
		}
	}
	if loaded < 100 {
		t.Errorf("%d journals were loaded", loaded)
	}
}

// The general rules

// within reports whether two texts share memory.
func within(a, b string) bool {
	if a == "" || b == "" {
		return false
	}
	first, second := uintptr(unsafe.Pointer(unsafe.StringData(a))), uintptr(unsafe.Pointer(unsafe.StringData(b)))
	return first < second+uintptr(len(b)) && second < first+uintptr(len(a))
}

func TestResultsAreNew(t *testing.T) {
	p := newPair(t, 9)
	a := trail.Area{From: 1, Sectors: 8}
	body := string([]byte("the body"))
	for i := range 3 {
		p.appends(a, i, frame.Frame{Epoch: 7, Seq: i + 1, Body: body}, i+1)
	}
	first, _, _ := trail.Load(p.d, a, 7)
	second, _, _ := trail.Load(p.d, a, 7)
	for i := range first {
		if within(first[i], body) {
			t.Error("a loaded body is the appended one")
		}
		for j := range second {
			if within(first[i], second[j]) {
				t.Error("two results share a body")
			}
		}
	}
	for i := range first {
		first[i] = "changed"
	}
	if third, _, _ := trail.Load(p.d, a, 7); !slices.Equal(second, slices.Repeat([]string{body}, 3)) || !slices.Equal(third, second) {
		t.Errorf("a change of a result changes %q, %q", second, third)
	}
}

// What a body's bytes become after the call is not stored.
func TestBodiesAreNotRetained(t *testing.T) {
	p := newPair(t, 4)
	b := []byte("the body")
	f := frame.Frame{Epoch: 7, Seq: 1, Body: unsafe.String(&b[0], len(b))}
	if to, e := trail.Append(p.d, whole(p), 0, f); to != 1 || e != api.OK {
		t.Fatal(to, int(e))
	}
	copy(b, "changed!")
	if bodies, end, e := trail.Load(p.d, whole(p), 7); !slices.Equal(bodies, []string{"the body"}) || end != 1 || e != api.OK {
		t.Errorf("%q, %d, %d", bodies, end, int(e))
	}
}

// The same calls of two devices return the same, whatever was called in between of others.
func TestCallsDependOnTheirDeviceAlone(t *testing.T) {
	r := rand.New(rand.NewSource(17))
	for range 20 {
		var calls []call
		for range 30 {
			calls = append(calls, randomCall(r, 12))
		}
		first, second := filled(t, rand.New(rand.NewSource(18)), 12), filled(t, rand.New(rand.NewSource(18)), 12)
		for _, c := range calls {
			x := c.on(first.d)
			filled(t, r, 1+r.Intn(12)).do(randomCall(r, 12))
			if y := c.on(second.d); x != y {
				t.Fatalf("%v returns %v, and then %v", c, x, y)
			}
		}
		if x, y := seen(first.d), seen(second.d); x != y {
			t.Fatalf("one is %v, the other %v", x, y)
		}
	}
}

func TestCallsAtTheSameTime(t *testing.T) {
	var group sync.WaitGroup
	for i := range 8 {
		group.Go(func() {
			r := rand.New(rand.NewSource(int64(19 + i)))
			d, _ := sector.New(60)
			m := &model{now: slices.Repeat([]string{zeros}, 60), durable: map[int]string{}}
			for range 200 {
				c := randomCall(r, 60)
				if got, want := c.on(d), c.of(m); got != want {
					t.Errorf("%v returns %v, want %v", c, got, want)
				}
			}
			if got, want := seen(d), m.seen(); got != want {
				t.Errorf("the device is %v, want %v", got, want)
			}
		})
	}
	group.Wait()
}
