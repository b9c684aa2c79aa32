package vault_test

import (
	"encoding/binary"
	"fmt"
	"hash/crc32"
	"maps"
	"math"
	"math/rand"
	"slices"
	"strings"
	"sync"
	"testing"
	"unsafe"

	"backhaul/api"
	"backhaul/sector"
	"backhaul/vault"
)

const (
	mostSectors = 2000
	mostSlots   = 500
	mostGen     = 1000000000
	mostText    = 100000
	mostSeq     = 1000000
	mostBody    = 3000
)

var zeros = strings.Repeat("\x00", 64)

// many is as long as all sectors of a device.
var many = strings.Repeat("m", 64*mostSectors)

// letters returns a text of a length.
func letters(length int) string { return many[:length] }

// The definitions: of a snapshot and a frame, of a device, and of a vault

// sealOf is the definition of what is sealed, with the library's checksum.
func sealOf(s string) string {
	sum := crc32.Checksum([]byte(s), crc32.MakeTable(crc32.Castagnoli))
	return string(binary.LittleEndian.AppendUint32([]byte(s), sum))
}

// sealedWith returns what is sealed for a generation, a length and a text, be they as they may.
func sealedWith(gen uint64, length uint32, text string) string {
	head := binary.BigEndian.AppendUint64(nil, gen)
	return sealOf(string(binary.BigEndian.AppendUint32(head, length)) + text)
}

// filled returns bytes, and bytes 0 up to whole sectors.
func filled(s string) string {
	for len(s)%64 != 0 {
		s += "\x00"
	}
	return s
}

// snapOf is the definition of a snapshot's bytes.
func snapOf(gen int, text string) string {
	return filled(sealedWith(uint64(gen), uint32(len(text)), text))
}

// snapAt is the definition of the snapshot that a slot holds: the one whose bytes it begins with.
func snapAt(s string) (gen int, text string, is bool) {
	no, length := binary.BigEndian.Uint64([]byte(s)), int(binary.BigEndian.Uint32([]byte(s[8:])))
	if no == 0 || no > mostGen || length > mostText || 12+length > len(s) {
		return 0, "", false
	}
	gen, text = int(no), s[12:12+length]
	return gen, text, strings.HasPrefix(s, snapOf(gen, text))
}

// snapSectors is the definition of the number of sectors of a snapshot whose text has a length.
func snapSectors(length int) int {
	n := 0
	for left := 8 + 4 + length + 4; left > 0; left -= 64 {
		n++
	}
	return n
}

// frameOf is the definition of a frame's sectors, byte by byte.
func frameOf(epoch, seq int, body string) string {
	head := binary.BigEndian.AppendUint64(nil, uint64(epoch))
	head = binary.BigEndian.AppendUint32(head, uint32(seq))
	head = binary.BigEndian.AppendUint32(head, uint32(len(body)))
	var l []byte
	for i, b := range []byte(sealOf(string(head) + body)) {
		switch {
		case i == 0:
			l = append(l, 1)
		case i%63 == 0:
			l = append(l, 2)
		}
		l = append(l, b)
	}
	return filled(string(l))
}

// frameSectors is the definition of the number of sectors of a frame whose body has a length.
func frameSectors(length int) int {
	n := 0
	for left := 8 + 4 + 4 + length + 4; left > 0; left -= 63 {
		n++
	}
	return n
}

// bodyAt is the definition of the body of the frame of an epoch with a number that some sectors begin with.
func bodyAt(s string, epoch, seq int) (string, bool) {
	if s == "" {
		return "", false
	}
	length := int(binary.BigEndian.Uint32([]byte(s[13:])))
	if length > mostBody || len(s) < 64*frameSectors(length) {
		return "", false
	}
	var pieces strings.Builder
	for at := 0; pieces.Len() < 16+length; at += 64 {
		pieces.WriteString(s[at+1 : at+64])
	}
	body := pieces.String()[16 : 16+length]
	return body, strings.HasPrefix(s, frameOf(epoch, seq, body))
}

// framesOf is the definition of the bodies of an epoch that a journal begins with, and of the position after them.
func framesOf(s string, epoch int) ([]string, int) {
	var bodies []string
	at := 0
	for {
		body, is := bodyAt(s[64*at:], epoch, len(bodies)+1)
		if !is {
			return bodies, at
		}
		bodies = append(bodies, body)
		at += frameSectors(len(body))
	}
}

// disk is a device by the words of its chapter.
type disk struct {
	// now is what the sectors contain, safe what they contain durably; loose are those that were written since.
	now, safe []string
	loose     []bool
	off       bool
	ops       int
	// armed is the number of the armed operation among all, 0 if there is none.
	armed int
	// wholes are the sectors of each snapshot and frame that a vault wrote, or began to write.
	wholes map[string]bool
}

func newDisk(n int) *disk {
	return &disk{now: slices.Repeat([]string{zeros}, n), safe: slices.Repeat([]string{zeros}, n), loose: make([]bool, n), wholes: map[string]bool{}}
}

// operation reports whether there still is power after an operation.
func (m *disk) operation() bool {
	m.ops++
	if m.ops == m.armed {
		m.off, m.armed = true, 0
	}
	return !m.off
}

// write writes to sectors that there are.
func (m *disk) write(at int, s string) api.Errno {
	if m.off {
		return api.ErrDead
	}
	for i := 0; i < len(s); i += 64 {
		m.now[at+i/64], m.loose[at+i/64] = s[i:i+64], true
		if !m.operation() {
			return api.ErrDead
		}
	}
	return api.OK
}

// writeWhole writes the sectors of a snapshot or a frame.
func (m *disk) writeWhole(at int, s string) api.Errno {
	m.wholes[s] = true
	return m.write(at, s)
}

func (m *disk) flush() api.Errno {
	if m.off || !m.operation() {
		return api.ErrDead
	}
	m.settle()
	return api.OK
}

func (m *disk) settle() {
	copy(m.safe, m.now)
	clear(m.loose)
}

func (m *disk) boot(c api.Choice) {
	no := 0
	for at, loose := range m.loose {
		if !loose {
			continue
		}
		switch {
		case no == c.Torn:
			cut := min(max(0, c.Cut), 64)
			m.now[at] = m.now[at][:cut] + m.safe[at][cut:]
		case no >= len(c.Keep) || !c.Keep[no]:
			m.now[at] = m.safe[at]
		}
		no++
	}
	m.settle()
	m.off, m.armed = false, 0
}

func (m *disk) copied() *disk {
	c := *m
	c.now, c.safe, c.loose, c.wholes = slices.Clone(m.now), slices.Clone(m.safe), slices.Clone(m.loose), maps.Clone(m.wholes)
	return &c
}

// part returns what n sectors contain.
func (m *disk) part(from, n int) string { return strings.Join(m.now[from:from+n], "") }

// plain is a vault by the words of the chapter.
type plain struct {
	m              *disk
	slots          int
	epoch, seq, at int
	closed         bool
}

// told makes a text and bodies comparable.
func told(text string, bodies []string) string {
	return fmt.Sprintf("%q, %d %q", text, len(bodies), bodies)
}

// answer is what Open returns.
type answer struct {
	made bool
	held string
	e    api.Errno
}

func (x answer) String() string { return fmt.Sprintf("%t, %.400s, %d", x.made, x.held, int(x.e)) }

func failed(e api.Errno) answer { return answer{false, told("", nil), e} }

// chosen returns the generation, the text and the slot of the chosen snapshot, and -1 if there is none.
func (p *plain) chosen() (gen int, text string, at int) {
	at = -1
	for i := range 2 {
		if no, s, is := snapAt(p.m.part(i*p.slots, p.slots)); is && no > gen {
			gen, text, at = no, s, i
		}
	}
	return gen, text, at
}

// lay writes a snapshot into a slot, and flushes the device.
func (p *plain) lay(gen, at int, text string) api.Errno {
	if e := p.m.writeWhole(at*p.slots, snapOf(gen, text)); e != api.OK {
		return e
	}
	if e := p.m.flush(); e != api.OK {
		return e
	}
	p.epoch, p.seq, p.at = gen, 0, 0
	return api.OK
}

// open is the definition of Open, of a device that New returned.
func (m *disk) open(slots int, first string) (*plain, answer) {
	if slots <= 0 || slots > mostSlots || 2*slots+1 > len(m.now) {
		return nil, failed(api.ErrArg)
	}
	if m.off {
		return nil, failed(api.ErrDead)
	}
	p := &plain{m: m, slots: slots}
	gen, text, at := p.chosen()
	if at < 0 {
		if !p.fits(first) {
			return nil, failed(api.ErrFull)
		}
		if e := p.lay(1, 0, first); e != api.OK {
			return nil, failed(e)
		}
		return p, answer{true, told(first, nil), api.OK}
	}
	bodies, end := framesOf(m.part(2*slots, p.sectors()), gen)
	p.epoch, p.seq, p.at = gen, len(bodies), end
	return p, answer{true, told(text, bodies), api.OK}
}

// patchwork reports whether the chosen snapshot, or one of the frames that are read with it, was not written as a whole, but is made of sectors that were written for several ones.
func (p *plain) patchwork() bool {
	gen, text, at := p.chosen()
	if at < 0 || !p.m.wholes[snapOf(gen, text)] {
		return true
	}
	bodies, _ := framesOf(p.m.part(2*p.slots, p.sectors()), gen)
	for i, body := range bodies {
		if !p.m.wholes[frameOf(gen, i+1, body)] {
			return true
		}
	}
	return false
}

// sectors returns how many sectors the journal has.
func (p *plain) sectors() int { return len(p.m.now) - 2*p.slots }

func (p *plain) room(body string) bool {
	return !p.closed && p.at+frameSectors(len(body)) <= p.sectors()
}

func (p *plain) fits(text string) bool {
	return !p.closed && len(text) <= mostText && snapSectors(len(text)) <= p.slots
}

// called returns what a call returns, and closes the vault where its words say so.
func (p *plain) called(e api.Errno) api.Errno {
	if e == api.ErrDead {
		p.closed = true
	}
	return e
}

// append is the definition of Append.
func (p *plain) append(body string) api.Errno {
	switch {
	case p.closed:
		return api.ErrLog
	case len(body) > mostBody:
		return api.ErrBig
	case !p.room(body):
		return api.ErrFull
	}
	s := frameOf(p.epoch, p.seq+1, body)
	if e := p.m.writeWhole(2*p.slots+p.at, s); e != api.OK {
		return p.called(e)
	}
	if e := p.m.flush(); e != api.OK {
		return p.called(e)
	}
	p.seq, p.at = p.seq+1, p.at+len(s)/64
	return api.OK
}

// snap is the definition of Snap.
func (p *plain) snap(text string) api.Errno {
	switch {
	case p.closed:
		return api.ErrLog
	case !p.fits(text):
		return api.ErrFull
	case p.m.off:
		return p.called(api.ErrDead)
	}
	gen, _, at := p.chosen()
	switch {
	case at < 0:
		gen, at = 0, 1
	case gen == mostGen:
		return api.ErrLog
	}
	return p.called(p.lay(gen+1, 1-at, text))
}

// The bench, on which the same calls are made of a device and of its definition

// sight is all that a device shows without a change.
type sight struct {
	on    bool
	ops   int
	loose string
	text  string
}

func (s sight) String() string {
	return fmt.Sprintf("on %t, %d ops, loose %s, contents %.300x", s.on, s.ops, s.loose, s.text)
}

func seen(d *sector.Device) sight {
	s := sight{on: d.On(), ops: d.Ops(), loose: fmt.Sprint(d.Loose())}
	s.text, _ = d.Read(0, d.Size())
	return s
}

func (m *disk) seen() sight {
	s := sight{on: !m.off, ops: m.ops, loose: "[]"}
	if s.on {
		var loose []int
		for at := range m.loose {
			if m.loose[at] {
				loose = append(loose, at)
			}
		}
		s.loose, s.text = fmt.Sprint(loose), m.part(0, len(m.now))
	}
	return s
}

// bench is a device and its definition.
type bench struct {
	t     *testing.T
	d     *sector.Device
	m     *disk
	calls []string
}

// box is a vault and its definition, upon the device of a bench and its definition.
type box struct {
	*bench
	v *vault.Vault
	p *plain
}

func newBench(t *testing.T, n int) *bench {
	t.Helper()
	d, e := sector.New(n)
	if e != api.OK {
		t.Fatal(int(e))
	}
	return &bench{t: t, d: d, m: newDisk(n)}
}

func (b *bench) failf(format string, args ...any) {
	b.t.Helper()
	b.t.Fatalf("%d sectors, %v: %s", len(b.m.now), b.calls[max(0, len(b.calls)-12):], fmt.Sprintf(format, args...))
}

func (b *bench) note(format string, args ...any) {
	b.calls = append(b.calls, fmt.Sprintf(format, args...))
}

// compareDevice checks that the device shows what its definition shows.
func (b *bench) compareDevice() {
	b.t.Helper()
	if got, want := seen(b.d), b.m.seen(); got != want {
		b.failf("the device is %v, want %v", got, want)
	}
}

func (b *bench) copied() *bench {
	return &bench{b.t, b.d.Copy(), b.m.copied(), append(slices.Clone(b.calls), "Copy")}
}

// write writes to sectors that there are, or to none, without a vault.
func (b *bench) write(at int, s string) *bench {
	b.t.Helper()
	if s == "" {
		return b
	}
	b.note("write %d sectors at %d", len(s)/64, at)
	if got, want := b.d.Write(at, s), b.m.write(at, s); got != want {
		b.failf("writing returns %d, want %d", int(got), int(want))
	}
	b.compareDevice()
	return b
}

func (b *bench) flush() *bench {
	b.t.Helper()
	b.note("flush")
	b.d.Flush()
	b.m.flush()
	b.compareDevice()
	return b
}

// put writes to sectors and flushes them.
func (b *bench) put(at int, s string) *bench {
	b.t.Helper()
	return b.write(at, s).flush()
}

// arm arms an operation from now on: 1 is the next one.
func (b *bench) arm(after int) *bench {
	b.t.Helper()
	b.note("arm %d", after)
	b.d.Arm(after)
	if !b.m.off {
		b.m.armed = b.m.ops + after
	}
	return b
}

func (b *bench) switchOff() *bench {
	b.t.Helper()
	b.note("off")
	b.d.Off()
	b.m.off, b.m.armed = true, 0
	b.compareDevice()
	return b
}

func (b *bench) boot(c api.Choice) *bench {
	b.t.Helper()
	b.note("boot %v", c)
	b.d.Boot(c)
	b.m.boot(c)
	b.compareDevice()
	return b
}

// open opens a vault, and checks what is returned and what the device and the vault show afterwards.
func (b *bench) open(slots int, first string) (*box, answer) {
	b.t.Helper()
	b.note("Open(%d, %.20q of %d bytes)", slots, first, len(first))
	v, text, bodies, e := vault.Open(b.d, slots, first)
	got := answer{v != nil, told(text, bodies), e}
	p, want := b.m.open(slots, first)
	if got != want {
		b.failf("it returns %v, want %v", got, want)
	}
	h := &box{b, v, p}
	if v == nil {
		b.compareDevice()
		return h, got
	}
	h.compare()
	return h, got
}

// opens checks what an Open that is possible returns.
func (b *bench) opens(slots int, first, text string, bodies ...string) *box {
	b.t.Helper()
	h, got := b.open(slots, first)
	if want := (answer{true, told(text, bodies), api.OK}); got != want {
		b.failf("it returns %v, want %v", got, want)
	}
	return h
}

// found checks that an Open returns what is there already, and that nothing is written.
func (b *bench) found(slots int, text string, bodies ...string) *box {
	b.t.Helper()
	before := seen(b.d)
	h := b.opens(slots, "another first text", text, bodies...)
	if after := seen(b.d); after != before {
		b.failf("opened, the device is %v, before %v", after, before)
	}
	return h
}

// denies checks that an Open returns an error and nothing beside it, and that nothing is done.
func (b *bench) denies(slots int, first string, e api.Errno) *bench {
	b.t.Helper()
	before := seen(b.d)
	if _, got := b.open(slots, first); got != failed(e) {
		b.failf("it returns %v, want %d", got, int(e))
	}
	if after := seen(b.d); after != before {
		b.failf("denied, the device is %v, before %v", after, before)
	}
	return b
}

// vaultSight is all that a vault shows without a change.
type vaultSight struct {
	epoch, seq int
	closed     bool
	// rooms and fits tell of which lengths there is Room for bodies, and texts fit.
	rooms, fits string
}

// lengths are those of bodies and texts that each vault is asked about.
var lengths = []int{0, 43, 44, 48, 49, 106, 107, 112, 113, mostBody, mostBody + 1, 64*mostSlots - 16, 64*mostSlots - 15, mostText, mostText + 1}

// near returns those lengths at which a vault's answers change, too.
func (h *box) near() []int {
	left := h.p.sectors() - h.p.at
	return append([]int{max(0, 63*left-20), max(0, 63*left-19), 64*h.p.slots - 16, 64*h.p.slots - 15}, lengths...)
}

func (h *box) compare() {
	h.t.Helper()
	h.compareDevice()
	got := vaultSight{epoch: h.v.Epoch(), seq: h.v.Seq(), closed: h.v.Closed()}
	want := vaultSight{epoch: h.p.epoch, seq: h.p.seq, closed: h.p.closed}
	for _, n := range h.near() {
		s := letters(n)
		got.rooms += fmt.Sprint(n, h.v.Room(s), " ")
		want.rooms += fmt.Sprint(n, h.p.room(s), " ")
		got.fits += fmt.Sprint(n, h.v.Fits(s), " ")
		want.fits += fmt.Sprint(n, h.p.fits(s), " ")
	}
	if got != want {
		h.failf("the vault shows %v, want %v", got, want)
	}
}

// is checks the epoch and the number of frames by the words of the test.
func (h *box) is(epoch, seq int) *box {
	h.t.Helper()
	if h.v.Epoch() != epoch || h.v.Seq() != seq {
		h.failf("epoch %d, %d frames, want %d, %d", h.v.Epoch(), h.v.Seq(), epoch, seq)
	}
	return h
}

// isClosed checks whether the vault is closed by the words of the test.
func (h *box) isClosed(want bool) *box {
	h.t.Helper()
	if got := h.v.Closed(); got != want {
		h.failf("closed: %t", got)
	}
	return h
}

// call is a call that writes.
type call struct{ name, text string }

func appending(body string) call { return call{"Append", body} }
func snapping(text string) call  { return call{"Snap", text} }

func (c call) String() string {
	return fmt.Sprintf("%s(%.20q of %d bytes)", c.name, c.text, len(c.text))
}

// ops returns how many operations the call takes.
func (c call) ops() int {
	if c.name == "Snap" {
		return snapSectors(len(c.text)) + 1
	}
	return frameSectors(len(c.text)) + 1
}

// do makes a call, and checks what it returns and what the device and the vault show afterwards.
func (h *box) do(c call) api.Errno {
	h.t.Helper()
	h.note("%v", c)
	var got, want api.Errno
	if c.name == "Snap" {
		got, want = h.v.Snap(c.text), h.p.snap(c.text)
	} else {
		got, want = h.v.Append(c.text), h.p.append(c.text)
	}
	if got != want {
		h.failf("it returns %d, want %d", int(got), int(want))
	}
	h.compare()
	return got
}

// returns checks what a call returns by the words of the test, too.
func (h *box) returns(c call, want api.Errno) *box {
	h.t.Helper()
	if got := h.do(c); got != want {
		h.failf("it returns %d, want %d", int(got), int(want))
	}
	return h
}

// appends makes calls that are possible.
func (h *box) appends(bodies ...string) *box {
	h.t.Helper()
	for _, body := range bodies {
		h.returns(appending(body), api.OK)
	}
	return h
}

// snaps makes a call that is possible.
func (h *box) snaps(text string) *box {
	h.t.Helper()
	return h.returns(snapping(text), api.OK)
}

// refuses checks that a call returns an error, that nothing is done, and that the vault does not close.
func (h *box) refuses(c call, e api.Errno) *box {
	h.t.Helper()
	device, before := seen(h.d), *h.p
	h.returns(c, e)
	if after := seen(h.d); after != device {
		h.failf("refused, the device is %v, before %v", after, device)
	}
	if *h.p != before {
		h.failf("refused, the vault is %v, before %v", *h.p, before)
	}
	return h
}

// dies checks that a call returns ErrDead, and that the vault is closed from then on, and otherwise as it was.
func (h *box) dies(c call) *box {
	h.t.Helper()
	epoch, seq := h.v.Epoch(), h.v.Seq()
	return h.returns(c, api.ErrDead).isClosed(true).is(epoch, seq)
}

// contains checks what the sectors from a number on contain.
func (b *bench) contains(at int, want string) {
	b.t.Helper()
	if got, e := b.d.Read(at, len(want)/64); got != want || e != api.OK {
		b.failf("from sector %d on it contains %.300x, want %.300x", at, got, want)
	}
}

// everyKeep calls f with each choice of which ones of n sectors keep what was written.
func everyKeep(n int, f func(keep []bool)) {
	for bits := range 1 << n {
		keep := make([]bool, n)
		for i := range keep {
			keep[i] = bits>>i&1 == 1
		}
		f(keep)
	}
}

// everyChoice calls f with all choices of what is left of n loose sectors, but of the cuts with some of each kind.
func everyChoice(n int, f func(c api.Choice)) {
	everyKeep(n, func(keep []bool) {
		f(api.Choice{Keep: keep, Torn: -1})
		for torn := range n {
			if keep[torn] {
				continue
			}
			for _, cut := range []int{1, 8, 12, 17, 40, 63} {
				f(api.Choice{Keep: keep, Torn: torn, Cut: cut})
			}
		}
	})
}

// randomKeep returns a choice by which most of n sectors keep what was written.
func randomKeep(r *rand.Rand, n int) []bool {
	keep := slices.Repeat([]bool{true}, n)
	for range r.Intn(3) {
		keep[r.Intn(n)] = false
	}
	return keep
}

func randomChoice(r *rand.Rand, n int) api.Choice {
	return api.Choice{Keep: randomKeep(r, n), Torn: r.Intn(n+1) - 1, Cut: r.Intn(65)}
}

func randomText(r *rand.Rand, length int) string {
	b := make([]byte, length)
	r.Read(b)
	return string(b)
}

// changed returns bytes of which one is combined with a mask.
func changed(s string, at int, mask byte) string {
	b := []byte(s)
	b[at] ^= mask
	return string(b)
}

// bodyOf returns a body whose frame has n sectors, textOf a text whose snapshot has.
func bodyOf(n int) string { return strings.Repeat("b", 63*n-20) }
func textOf(n int) string { return strings.Repeat("t", 64*n-16) }

// The examples

func TestExampleOfOpen(t *testing.T) {
	newBench(t, 10).opens(2, "the first text", "the first text").is(1, 0)
}

func TestExampleOfAppend(t *testing.T) {
	for _, n := range []int{5, 60, mostSectors} {
		newBench(t, n).opens(2, "", "").refuses(appending(letters(3001)), api.ErrBig)
	}
}

func TestExampleOfFits(t *testing.T) {
	h := newBench(t, 10).opens(2, "", "")
	if !h.v.Fits(letters(112)) || h.v.Fits(letters(113)) {
		t.Errorf("112 bytes fit: %t, 113 bytes fit: %t", h.v.Fits(letters(112)), h.v.Fits(letters(113)))
	}
}

func TestExampleOfAnEmptyDevice(t *testing.T) {
	newBench(t, 3).opens(1, "", "").is(1, 0).isClosed(false)
}

// Vaults that Open did not return

func TestVaultsThatOpenDidNotReturn(t *testing.T) {
	var none *vault.Vault
	made := &vault.Vault{}
	for range 2 {
		for _, v := range []*vault.Vault{none, made} {
			for _, n := range lengths {
				s := letters(n)
				if e := v.Append(s); e != api.ErrNil {
					t.Errorf("Append of %d bytes to %v returns %d", n, v, int(e))
				}
				if e := v.Snap(s); e != api.ErrNil {
					t.Errorf("Snap of %d bytes of %v returns %d", n, v, int(e))
				}
				if v.Room(s) || v.Fits(s) {
					t.Errorf("of %d bytes, Room of %v is %t, and Fits %t", n, v, v.Room(s), v.Fits(s))
				}
			}
			if v.Epoch() != 0 || v.Seq() != 0 || !v.Closed() {
				t.Errorf("%v: epoch %d, %d frames, closed: %t", v, v.Epoch(), v.Seq(), v.Closed())
			}
		}
	}
	if *made != (vault.Vault{}) {
		t.Errorf("it is %v", *made)
	}
}

// P12.1

// extremes lie far from all sectors, and where a product or a number of fewer bits wraps around.
var extremes = []int{
	math.MinInt, math.MinInt + 1, -1 << 62, 1 - 1<<62, -1 << 32, 1 - 1<<32, math.MinInt32, -mostSlots, -2, -1, 0,
	mostSlots + 1, mostSlots + 2, mostSectors, math.MaxInt32, 1 << 31, 1<<31 + 1, 1 << 32, 1<<32 + 1, 1 << 58, 1<<58 + 1,
	1 << 62, 1<<62 + 1, 1<<63 - 2, math.MaxInt - 1, math.MaxInt,
}

func TestOpenOfDevicesThatNoCallReturned(t *testing.T) {
	for _, d := range []*sector.Device{nil, {}} {
		for _, slots := range append([]int{1, 2, mostSlots}, extremes...) {
			for _, n := range lengths {
				v, text, bodies, e := vault.Open(d, slots, letters(n))
				if got := (answer{v != nil, told(text, bodies), e}); got != failed(api.ErrNil) {
					t.Errorf("Open(%v, %d, %d bytes) returns %v", d, slots, n, got)
				}
				if d.Size() != 0 || d.Ops() != 0 || d.On() {
					t.Errorf("Open changes %v", d)
				}
			}
		}
	}
}

// Slots are possible from 1 to 500, if a sector is left after both of them.
func TestOpenWithSlots(t *testing.T) {
	for _, n := range []int{1, 2, 3, 4, 5, 6, 10, 11, 999, 1000, 1001, 1002, 1003, 1999, mostSectors} {
		tried := append([]int{1, 2, 3, n/2 - 1, n / 2, n/2 + 1, n - 1, n, n + 1, mostSlots - 1, mostSlots}, extremes...)
		for _, slots := range tried {
			b := newBench(t, n)
			if slots < 1 || slots > mostSlots || slots > n/2 || 2*slots == n {
				b.denies(slots, "first", api.ErrArg).denies(slots, letters(mostText+1), api.ErrArg)
				continue
			}
			b.opens(slots, "first", "first").is(1, 0)
			b.contains(0, snapOf(1, "first"))
			b.contains(1, strings.Repeat(zeros, n-1))
		}
	}
}

func TestOpenWithEachNumberOfSlots(t *testing.T) {
	for n := 1; n < 30; n++ {
		for slots := -1; slots < 20; slots++ {
			b := newBench(t, n)
			if slots >= 1 && n-slots-slots >= 1 {
				b.opens(slots, "first", "first")
			} else {
				b.denies(slots, "first", api.ErrArg)
			}
		}
	}
	for _, n := range []int{1000, 1001, 1002, mostSectors} {
		for slots := mostSlots - 3; slots < mostSlots+4; slots++ {
			b := newBench(t, n)
			if slots <= mostSlots && 2*slots < n {
				b.opens(slots, "first", "first")
			} else {
				b.denies(slots, "first", api.ErrArg)
			}
		}
	}
}

func TestOpenWithFirstTexts(t *testing.T) {
	r := rand.New(rand.NewSource(1))
	for _, slots := range []int{1, 2, 3, 7, 60, mostSlots - 1, mostSlots} {
		for _, behind := range []int{1, 2, 40} {
			for _, length := range []int{0, 1, 47, 48, 49, 112, 113, 64*slots - 17, 64*slots - 16, 64*slots - 15, 64 * slots, mostText, mostText + 1} {
				b := newBench(t, 2*slots+behind)
				first := randomText(r, length)
				if length > 64*slots-16 {
					b.denies(slots, first, api.ErrFull)
					continue
				}
				b.opens(slots, first, first).is(1, 0)
				b.contains(0, snapOf(1, first))
				if b.d.Ops() != snapSectors(length)+1 {
					b.failf("%d operations", b.d.Ops())
				}
				b.found(slots, first).is(1, 0)
			}
		}
	}
}

// Where a snapshot is found, the first text is of no weight.
func TestOpenWithAFirstTextThatIsNotNeeded(t *testing.T) {
	for _, length := range []int{0, 5, 112, 113, mostText, mostText + 1} {
		b := newBench(t, 10).put(0, snapOf(4, "the text"))
		before := seen(b.d)
		b.opens(2, letters(length), "the text").is(4, 0)
		if after := seen(b.d); after != before {
			b.failf("it is %v, before %v", after, before)
		}
	}
}

func TestOpenWithoutPower(t *testing.T) {
	for _, s := range []string{zeros, snapOf(4, "the text")} {
		b := newBench(t, 10).write(0, s).switchOff()
		for _, first := range []string{"first", letters(112), letters(113), letters(mostText + 1)} {
			b.denies(2, first, api.ErrDead).denies(4, first, api.ErrDead).denies(5, first, api.ErrArg).denies(0, first, api.ErrArg)
		}
	}
}

// Of several errors at once the one that the chapter names first is told.
func TestTheOrderOfErrorsOfOpen(t *testing.T) {
	for set := range 1 << 5 {
		slots, off, held, long, armed := set&1 == 1, set&2 == 2, set&4 == 4, set&8 == 8, set&16 == 16
		for _, wrong := range []int{math.MinInt, -1, 0, 5, 6, mostSlots + 1, 1 << 62, math.MaxInt} {
			b := newBench(t, 10)
			if held {
				b.put(0, snapOf(4, "the text"))
			}
			if armed {
				b.arm(1)
			}
			if off {
				b.switchOff()
			}
			n, first := 2, "first"
			if slots {
				n = wrong
			}
			if long {
				first = letters(113)
			}
			switch {
			case slots:
				b.denies(n, first, api.ErrArg)
			case off:
				b.denies(n, first, api.ErrDead)
			case held:
				b.opens(n, first, "the text")
			case long:
				b.denies(n, first, api.ErrFull)
			case armed:
				if _, got := b.open(n, first); got != failed(api.ErrDead) || b.d.Ops() != 1 {
					b.failf("it returns %v after %d operations", got, b.d.Ops())
				}
			default:
				b.opens(n, first, first)
			}
		}
	}
}

// snapsTold are pairs of slots of two sectors each, what Open finds there, and where the next snapshot goes.
func snapsTold() []struct {
	a, b  string
	text  string
	epoch int
	next  int
} {
	four, five := snapOf(4, "four"), snapOf(5, "five")
	most, long := snapOf(mostGen-1, "most"), snapOf(5, letters(112))
	broken := changed(five, 13, 1)
	tooLong := snapOf(5, letters(113))[:128]
	return []struct {
		a, b  string
		text  string
		epoch int
		next  int
	}{
		{four, zeros, "four", 4, 1},
		{zeros, four, "four", 4, 0},
		{four, five, "five", 5, 0},
		{five, four, "five", 5, 1},
		{four, long, letters(112), 5, 0},
		{long, four, letters(112), 5, 1},
		{four, most, "most", mostGen - 1, 0},
		{most, four, "most", mostGen - 1, 1},
		{four, snapOf(4, "the other four"), "four", 4, 1},
		{snapOf(4, "the other four"), four, "the other four", 4, 1},
		{four, four, "four", 4, 1},
		{four, broken, "four", 4, 1},
		{broken, four, "four", 4, 0},
		{tooLong, four, "four", 4, 0},
		{four, tooLong, "four", 4, 1},
		{four, changed(five, 63, 1), "four", 4, 1},
		{four, filled(sealedWith(1<<63, 4, "five")), "four", 4, 1},
		{four, filled(sealedWith(mostGen+1, 4, "five")), "four", 4, 1},
		{filled(sealedWith(0, 4, "zero")), snapOf(1, "one"), "one", 1, 0},
		{snapOf(1, ""), zeros, "", 1, 1},
		{zeros, snapOf(1, ""), "", 1, 0},
		{four + strings.Repeat("\xff", 64), five + four, "five", 5, 0},
	}
}

func TestOpenFindsASnapshot(t *testing.T) {
	for i, x := range snapsTold() {
		b := newBench(t, 10).write(0, x.a).put(2, x.b)
		b.note("case %d", i)
		h := b.found(2, x.text).is(x.epoch, 0).isClosed(false)
		h.snaps("next").is(x.epoch+1, 0)
		h.contains(2*x.next, snapOf(x.epoch+1, "next"))
		h.found(2, "next").is(x.epoch+1, 0)
	}
}

func TestOpenFindsNoSnapshot(t *testing.T) {
	five := snapOf(5, "five")
	none := []string{
		zeros + zeros, strings.Repeat("\xff", 128), strings.Repeat("\x01", 128), changed(five, 0, 1), changed(five, 8, 1), changed(five, 11, 1), changed(five, 12, 1), changed(five, 19, 128), changed(five, 20, 1),
		snapOf(5, letters(113))[:128], frameOf(1, 1, "one"), filled(sealedWith(0, 0, "")), filled(sealedWith(mostGen+1, 0, "")), filled(sealedWith(5, mostText+1, "five")), zeros + five, snapOf(5, letters(112))[:64] + zeros,
	}
	for i, a := range none {
		for j, b := range none {
			x := newBench(t, 10).write(0, a).put(2, b)
			x.note("case %d, %d", i, j)
			x.denies(2, letters(113), api.ErrFull)
			before := x.m.part(0, 10)
			h := x.opens(2, "first", "first").is(1, 0)
			h.contains(0, snapOf(1, "first")+before[64:])
			h.found(2, "first").is(1, 0)
		}
	}
}

// slotsOf are what a slot of two sectors may contain.
func slotsOf(r *rand.Rand) []string {
	l := []string{zeros + zeros, randomText(r, 128), strings.Repeat("\xff", 128), frameOf(1, 1, "one") + frameOf(1, 2, "two")}
	for _, gen := range []int{1, 4, 5, mostGen - 1, mostGen} {
		s := snapOf(gen, fmt.Sprint("text ", r.Intn(100)))
		l = append(l, s+zeros, s+randomText(r, 64), snapOf(gen, randomText(r, 112)), snapOf(gen, randomText(r, 113))[:128], changed(s, r.Intn(64), byte(1+r.Intn(255)))+zeros)
	}
	return append(l, filled(sealedWith(0, 4, "zero"))+zeros, filled(sealedWith(mostGen+1, 4, "most"))+zeros, filled(sealedWith(1<<63+4, 4, "over"))+zeros)
}

func TestOpenOfAnySlots(t *testing.T) {
	r := rand.New(rand.NewSource(2))
	var found, none int
	for _, a := range slotsOf(r) {
		for _, c := range slotsOf(r) {
			b := newBench(t, 9).write(0, a).write(2, c).write(4, frameOf(1+r.Intn(5), 1, "one")).flush()
			h, _ := b.open(2, "first")
			if h.p.epoch > 1 {
				found++
			} else {
				none++
			}
			h.do(appending("body"))
			h.do(snapping("text"))
			h.do(appending("body"))
			b.open(2, "first")
		}
	}
	if found < 100 || none < 100 {
		t.Errorf("a snapshot is found %d times, and not %d times", found, none)
	}
}

func TestOpenLoadsTheJournal(t *testing.T) {
	two := bodyOf(2)
	one, second, third := frameOf(4, 1, "one"), frameOf(4, 2, two), frameOf(4, 3, "three")
	for i, x := range []struct {
		s      string
		bodies []string
		at     int
	}{
		{"", nil, 0},
		{one, []string{"one"}, 1},
		{one + second, []string{"one", two}, 3},
		{one + second + third, []string{"one", two, "three"}, 4},
		{one + second + third + frameOf(4, 4, ""), []string{"one", two, "three", ""}, 5},
		{second + third, nil, 0},
		{one + third, []string{"one"}, 1},
		{one + one + second, []string{"one"}, 1},
		{one + second + second + third, []string{"one", two}, 3},
		{one + frameOf(3, 2, two) + third, []string{"one"}, 1},
		{one + frameOf(5, 2, two) + third, []string{"one"}, 1},
		{frameOf(3, 1, "old") + frameOf(3, 2, "older"), nil, 0},
		{frameOf(5, 1, "new") + frameOf(5, 2, "newer"), nil, 0},
		{zeros + one + second, nil, 0},
		{one + zeros + second, []string{"one"}, 1},
		{one + second[:64] + zeros + third, []string{"one"}, 1},
		{one + second[64:] + third, []string{"one"}, 1},
		{one + changed(second, 127, 1) + third, []string{"one"}, 1},
		{one + strings.Repeat("\x01", 64), []string{"one"}, 1},
		{snapOf(5, "five") + one, nil, 0},
		{one + snapOf(5, "five"), []string{"one"}, 1},
	} {
		for _, slots := range []int{1, 2, 5} {
			for _, behind := range []int{1, 2, 40} {
				for where := range 2 {
					b := newBench(t, 2*slots+len(x.s)/64+behind).write(where*slots, snapOf(4, "four")).write(2*slots, x.s).flush()
					b.note("case %d", i)
					h := b.found(slots, "four", x.bodies...).is(4, len(x.bodies))
					h.appends("next").is(4, len(x.bodies)+1)
					h.contains(2*slots+x.at, frameOf(4, len(x.bodies)+1, "next"))
				}
			}
		}
	}
}

// Of the bodies of a journal that is full up to the device's end, the frame that would go beyond it is none.
func TestOpenLoadsAJournalUpToTheEnd(t *testing.T) {
	s := snapOf(4, "four") + zeros + frameOf(4, 1, "one") + frameOf(4, 2, bodyOf(2))
	newBench(t, 5).put(0, s[:5*64]).found(1, "four", "one", bodyOf(2)).is(4, 2).refuses(appending(""), api.ErrFull)
	newBench(t, 4).put(0, s[:4*64]).found(1, "four", "one").is(4, 1).appends("next").is(4, 2)
}

// The first snapshot's vault has no bodies, whatever the journal contains.
func TestOpenOfNoSnapshotHasNoBodies(t *testing.T) {
	for _, s := range []string{frameOf(1, 1, "one") + frameOf(1, 2, "two"), frameOf(2, 1, "one"), strings.Repeat("\x01", 128)} {
		b := newBench(t, 10).put(4, s)
		h := b.opens(2, "first", "first").is(1, 0)
		h.contains(4, s)
		h.appends("body").is(1, 1)
		h.contains(4, frameOf(1, 1, "body")+s[64:])
	}
}

// What the slots are depends on their number of sectors.
func TestOpenWithOtherSlots(t *testing.T) {
	b := newBench(t, 20)
	b.opens(2, "first", "first").appends("one").snaps("second").appends("two", "three")
	b.copied().found(2, "second", "two", "three").is(2, 2)
	b.copied().found(1, "first").is(1, 0)
	b.copied().found(3, "first").is(1, 0)
	b.copied().found(9, "first").is(1, 0)
}

// Where the power is lost right after the first snapshot was written, it is there, whatever is left: it is flushed, and what was loose ahead of it too.
func TestTheFirstSnapshotIsFlushed(t *testing.T) {
	r := rand.New(rand.NewSource(3))
	for n := 1; n <= 4; n++ {
		b := newBench(t, 12).write(5, randomText(r, 128))
		h := b.opens(5, textOf(n), textOf(n))
		if loose := h.d.Loose(); len(loose) != 0 || h.d.Ops() != 2+n+1 {
			h.failf("%d operations, loose are %v", h.d.Ops(), loose)
		}
		before := h.m.part(0, 12)
		everyChoice(n, func(c api.Choice) {
			left := h.copied().switchOff().boot(c)
			left.contains(0, before)
			left.found(5, textOf(n)).is(1, 0)
		})
	}
}

// The power is lost at each operation of the Open that writes the first snapshot.
func TestThePowerIsLostInOpen(t *testing.T) {
	counts := map[int]int{}
	for n := 1; n <= 4; n++ {
		for after := 1; after <= n+1; after++ {
			b := newBench(t, 12).arm(after)
			if _, got := b.open(5, textOf(n)); got != failed(api.ErrDead) || b.d.Ops() != after || b.d.On() {
				b.failf("it returns %v after %d operations", got, b.d.Ops())
			}
			b.denies(5, "first", api.ErrDead)
			everyChoice(min(n, after), func(c api.Choice) {
				left := b.copied().boot(c)
				counts[left.openedAs(5, "another", state{text: "another"}, state{text: textOf(n)})]++
			})
		}
		b := newBench(t, 12).arm(n + 2)
		b.opens(5, textOf(n), textOf(n)).dies(snapping("second"))
		b.boot(api.Choice{Torn: -1}).found(5, textOf(n))
	}
	if counts[0] < 20 || counts[1] < 4 || counts[unwhole] > 0 {
		t.Errorf("the first text is there %d times, not %d times, and in part %d times", counts[1], counts[0], counts[unwhole])
	}
}

// An Open that finds a snapshot takes no operation: the power is not lost in it.
func TestThePowerIsNotLostWhereASnapshotIsFound(t *testing.T) {
	b := newBench(t, 10)
	b.opens(2, "first", "first").appends("one")
	b.arm(1)
	b.found(2, "first", "one").isClosed(false).dies(appending("two"))
}

// P12.2

func TestAppend(t *testing.T) {
	r := rand.New(rand.NewSource(4))
	for _, slots := range []int{1, 2, 7} {
		for _, length := range []int{0, 1, 42, 43, 44, 106, 107, 2999, mostBody} {
			n := frameSectors(length)
			body := randomText(r, length)
			for _, sectors := range []int{n, n + 1, n + 50} {
				b := newBench(t, 2*slots+sectors)
				h := b.opens(slots, "first", "first").appends(body).is(1, 1)
				h.contains(0, snapOf(1, "first")+strings.Repeat(zeros, 2*slots-1)+frameOf(1, 1, body)+strings.Repeat(zeros, sectors-n))
				h.found(slots, "first", body).is(1, 1)
				h.restarted()
			}
			for sectors := 1; sectors < n; sectors++ {
				h := newBench(t, 2*slots+sectors).opens(slots, "first", "first")
				h.refuses(appending(body), api.ErrFull).is(1, 0).appends("").is(1, 1)
			}
		}
	}
}

// restarted checks that a restart changes nothing: all is flushed.
func (h *box) restarted() *box {
	h.t.Helper()
	if loose := h.d.Loose(); len(loose) != 0 {
		h.failf("%v are loose", loose)
	}
	before := h.m.part(0, len(h.m.now))
	for _, c := range []api.Choice{{Torn: -1}, {Torn: 0, Cut: 17}, {Keep: []bool{true, false, true}, Torn: 1, Cut: 3}} {
		h.copied().switchOff().boot(c).contains(0, before)
	}
	return h
}

func TestAppendUntilTheJournalIsFull(t *testing.T) {
	r := rand.New(rand.NewSource(5))
	for _, sectors := range []int{1, 2, 3, 10, 60, 200} {
		for _, lengths := range [][]int{{0}, {43}, {44}, {0, 44, 107}, {mostBody}, {mostBody, 0, 300}, {1, 2, 3}} {
			h := newBench(t, 4+sectors).opens(2, "first", "first")
			var bodies []string
			left := sectors
			for {
				body := randomText(r, lengths[len(bodies)%len(lengths)])
				n := frameSectors(len(body))
				if n > left {
					h.refuses(appending(body), api.ErrFull)
					break
				}
				h.appends(body)
				bodies, left = append(bodies, body), left-n
			}
			h.is(1, len(bodies)).found(2, "first", bodies...).is(1, len(bodies))
			for left > 0 {
				h.appends("")
				left--
			}
			h.refuses(appending(""), api.ErrFull).refuses(appending(letters(mostBody+1)), api.ErrBig)
			h.snaps("second").is(2, 0).appends("").is(2, 1)
		}
	}
}

// faults are what can be wrong with a call at once.
type faults struct{ closed, big, full, off, armed bool }

func everyFaults(f func(x faults)) {
	everyKeep(5, func(set []bool) { f(faults{set[0], set[1], set[2], set[3], set[4]}) })
}

// close closes a vault: it has no power while it is called.
func (h *box) close() *box {
	h.t.Helper()
	h.switchOff()
	h.dies(snapping(""))
	h.boot(api.Choice{Torn: -1})
	return h
}

// power takes the power from a device, or arms its next operation.
func (h *box) power(x faults) {
	if x.armed {
		h.arm(1)
	}
	if x.off {
		h.switchOff()
	}
}

func TestTheOrderOfErrorsOfAppend(t *testing.T) {
	everyFaults(func(x faults) {
		h := newBench(t, 104).opens(2, "first", "first").appends("one")
		body := "body"
		if x.big {
			body = letters(mostBody + 1)
		}
		if x.full {
			h.appends(bodyOf(47), bodyOf(47))
			body += letters(bodyFull)
		}
		if x.closed {
			h.close()
		}
		h.power(x)
		switch {
		case x.closed:
			h.refuses(appending(body), api.ErrLog)
		case x.big:
			h.refuses(appending(body), api.ErrBig)
		case x.full:
			h.refuses(appending(body), api.ErrFull)
		case x.off || x.armed:
			h.dies(appending(body))
		default:
			h.appends(body)
		}
	})
}

// bodyFull is a length of a body for which a journal of five sectors has no room.
const bodyFull = 63*5 - 19

func TestRoom(t *testing.T) {
	for _, x := range []struct{ length, sectors int }{{0, 1}, {1, 1}, {42, 1}, {43, 1}, {44, 2}, {106, 2}, {107, 3}, {mostBody - 1, 48}, {mostBody, 48}} {
		body := letters(x.length)
		for used := range 4 {
			for more := -2; more < 3; more++ {
				sectors := used + x.sectors + more
				if sectors < 1 || sectors < used {
					continue
				}
				h := newBench(t, 4+sectors).opens(2, "first", "first").appends(slices.Repeat([]string{""}, used)...)
				if got, want := h.v.Room(body), more >= 0; got != want {
					h.failf("Room of %d bytes is %t", x.length, got)
				}
				if more >= 0 {
					h.appends(body)
				} else {
					h.refuses(appending(body), api.ErrFull)
				}
			}
		}
	}
}

// Of a body that is too long for a frame, Room tells whether there is space for the sectors that the frame would have.
func TestRoomOfBodiesThatAreTooLong(t *testing.T) {
	for _, length := range []int{mostBody + 1, mostBody + 4, mostBody + 5, 10000} {
		n := frameSectors(length)
		for sectors := n - 1; sectors < n+2; sectors++ {
			h := newBench(t, 4+sectors).opens(2, "first", "first")
			if got, want := h.v.Room(letters(length)), sectors >= n; got != want {
				h.failf("Room of %d bytes is %t", length, got)
			}
			h.refuses(appending(letters(length)), api.ErrBig)
		}
	}
}

// After a Snap there is room for as much as at first.
func TestRoomAfterSnap(t *testing.T) {
	h := newBench(t, 7).opens(2, "first", "first").appends(bodyOf(2), "")
	if h.v.Room("") {
		h.failf("there is room")
	}
	h.snaps("second")
	if !h.v.Room(bodyOf(3)) || h.v.Room(bodyOf(3)+"b") {
		h.failf("there is not room for just 3 sectors")
	}
	h.appends(bodyOf(3)).is(2, 1).found(2, "second", bodyOf(3))
}

// P12.3

// Snapshots go into the slots by turns, each of the next generation, and after each of them the journal begins anew.
func TestSnaps(t *testing.T) {
	r := rand.New(rand.NewSource(6))
	for _, slots := range []int{1, 2, 5, 60} {
		h := newBench(t, 2*slots+6).opens(slots, "first", "first")
		last := snapOf(1, "first")
		for gen := 2; gen < 30; gen++ {
			text := randomText(r, r.Intn(64*slots-15))
			h.snaps(text).is(gen, 0).restarted()
			s := snapOf(gen, text)
			at := (gen - 1) % 2
			h.contains(at*slots, s)
			h.contains((1-at)*slots, last)
			last = s
			body := randomText(r, r.Intn(100))
			h.appends(body, "more").is(gen, 2)
			h.contains(2*slots, frameOf(gen, 1, body)+frameOf(gen, 2, "more"))
			h.found(slots, text, body, "more").is(gen, 2)
			if r.Intn(2) == 0 {
				h = h.found(slots, text, body, "more")
			}
		}
	}
}

// The sectors that a snapshot has are written, and no others.
func TestSnapWritesItsSectors(t *testing.T) {
	r := rand.New(rand.NewSource(7))
	for n := 1; n <= 6; n++ {
		b := newBench(t, 15).put(0, randomText(r, 15*64))
		h := b.opens(6, "first", "first").appends("one")
		before, ops := h.m.part(0, 15), h.d.Ops()
		h.snaps(textOf(n)).is(2, 0)
		h.contains(0, before[:6*64]+snapOf(2, textOf(n))+before[(6+n)*64:])
		if h.d.Ops() != ops+n+1 {
			h.failf("%d operations", h.d.Ops()-ops)
		}
	}
}

func TestSnapOfTexts(t *testing.T) {
	r := rand.New(rand.NewSource(8))
	for _, slots := range []int{1, 2, 3, 60, mostSlots - 1, mostSlots} {
		for _, length := range []int{0, 1, 47, 48, 49, 112, 113, 64*slots - 17, 64*slots - 16, 64*slots - 15, 64 * slots, mostText, mostText + 1} {
			h := newBench(t, 2*slots+1).opens(slots, "first", "first").appends("one")
			text := randomText(r, length)
			if length > 64*slots-16 {
				h.refuses(snapping(text), api.ErrFull).is(1, 1).found(slots, "first", "one")
				continue
			}
			h.snaps(text).is(2, 0).found(slots, text).is(2, 0)
		}
	}
}

func TestFits(t *testing.T) {
	text := letters(mostText + 1)
	for _, x := range []struct{ slots, most int }{{1, 48}, {2, 112}, {3, 176}, {4, 240}, {60, 3824}, {499, 31920}, {500, 31984}} {
		h := newBench(t, 2*x.slots+1).opens(x.slots, "", "")
		for _, length := range []int{0, 1, x.most - 1, x.most, x.most + 1, x.most + 2, x.most + 16, x.most + 17, x.most + 64, mostText - 1, mostText, mostText + 1} {
			if got, want := h.v.Fits(text[:length]), length <= x.most; got != want {
				h.failf("%d bytes fit: %t", length, got)
			}
		}
	}
}

func TestTheOrderOfErrorsOfSnap(t *testing.T) {
	everyFaults(func(x faults) {
		b := newBench(t, 10)
		gen := 7
		if x.full { // There is no next generation.
			gen = mostGen
		}
		h := b.put(0, snapOf(gen, "text")).found(2, "text").appends("one")
		text := "next"
		if x.big { // It does not fit.
			text = letters(113)
		}
		if x.closed {
			h.close()
		}
		h.power(x)
		switch {
		case x.closed:
			h.refuses(snapping(text), api.ErrLog)
		case x.big:
			h.refuses(snapping(text), api.ErrFull)
		case x.off:
			h.dies(snapping(text))
		case x.full:
			h.refuses(snapping(text), api.ErrLog)
		case x.armed:
			h.dies(snapping(text))
		default:
			h.snaps(text).is(8, 0)
		}
	})
}

// The next generation is that of the slots as they are, not that of the vault; with no snapshot in them it is 1.
func TestSnapReadsTheSlots(t *testing.T) {
	h := newBench(t, 10).opens(2, "first", "first").appends("one")
	h.put(2, snapOf(8, "eight"))
	h.is(1, 1).snaps("nine").is(9, 0).contains(0, snapOf(9, "nine"))
	h.put(0, zeros)
	h.is(9, 0).snaps("nine again").is(9, 0).contains(0, snapOf(9, "nine again"))
	h.write(0, zeros).put(2, zeros)
	h.snaps("one").is(1, 0).contains(0, snapOf(1, "one")+zeros)
	h.put(2, snapOf(mostGen, "most"))
	h.refuses(snapping("next"), api.ErrLog).is(1, 0)
	h.put(2, snapOf(mostGen-1, "most"))
	h.snaps("next").is(mostGen, 0).contains(0, snapOf(mostGen, "next"))
}

// At the greatest generation bodies are still appended, as long as there is room.
func TestTheGreatestGeneration(t *testing.T) {
	for where := range 2 {
		h := newBench(t, 8).put(2*where, snapOf(mostGen-1, "text")).found(2, "text").is(mostGen-1, 0)
		h.appends("one").snaps("most").is(mostGen, 0)
		for range 4 {
			h.refuses(snapping("beyond"), api.ErrLog).isClosed(false).appends("body")
		}
		h.refuses(snapping("beyond"), api.ErrLog).refuses(appending("body"), api.ErrFull)
		h.found(2, "most", "body", "body", "body", "body").is(mostGen, 4).refuses(snapping(""), api.ErrLog)
	}
}

// P12.4

// What closes a vault, and what does not.
func TestWhatClosesAVault(t *testing.T) {
	for _, x := range []struct {
		c      call
		off    bool
		arm    int
		closes bool
	}{
		{appending("two"), true, 0, true},
		{snapping("second"), true, 0, true},
		{appending("two"), false, 1, true},
		{appending("two"), false, 2, true},
		{appending("two"), false, 3, false},
		{appending(bodyOf(3)), false, 4, true},
		{snapping("second"), false, 1, true},
		{snapping("second"), false, 2, true},
		{snapping("second"), false, 3, false},
		{snapping(textOf(2)), false, 3, true},
		{appending(letters(mostBody + 1)), true, 0, false},
		{appending(letters(mostBody + 1)), false, 1, false},
		{appending(bodyOf(6)), true, 0, false},
		{appending(bodyOf(6)), false, 1, false},
		{snapping(letters(113)), true, 0, false},
		{snapping(letters(113)), false, 1, false},
	} {
		h := newBench(t, 10).opens(2, "first", "first").appends("one").isClosed(false)
		if x.off {
			h.switchOff()
		}
		if x.arm > 0 {
			h.arm(x.arm)
		}
		h.do(x.c)
		h.isClosed(x.closes)
		if !x.closes {
			h.boot(api.Choice{Torn: -1})
			h.appends("next")
		}
	}
}

// A loss of power that no call of the vault tells does not close it.
func TestALossOfPowerThatNoCallTells(t *testing.T) {
	h := newBench(t, 10).opens(2, "first", "first").appends("one")
	h.switchOff()
	h.isClosed(false).is(1, 1).compare()
	h.boot(api.Choice{Torn: -1})
	h.appends("two").is(1, 2).snaps("second").is(2, 0)
}

func TestAClosedVault(t *testing.T) {
	for _, c := range []call{appending("two"), appending(bodyOf(2)), snapping("second"), snapping(textOf(2))} {
		for after := 1; after <= c.ops(); after++ {
			h := newBench(t, 10).opens(2, "first", "first").appends("one")
			h.arm(after)
			h.dies(c).is(1, 1)
			for _, on := range []bool{false, true} {
				if on {
					h.boot(randomChoice(rand.New(rand.NewSource(int64(after))), 2))
				}
				for _, n := range lengths {
					h.refuses(appending(letters(n)), api.ErrLog).refuses(snapping(letters(n)), api.ErrLog)
					if h.v.Room(letters(n)) || h.v.Fits(letters(n)) {
						h.failf("of %d bytes, Room is %t, and Fits %t", n, h.v.Room(letters(n)), h.v.Fits(letters(n)))
					}
				}
				h.isClosed(true).is(1, 1)
			}
			next, _ := h.open(2, "another")
			next.isClosed(false).appends("next")
			h.refuses(appending("two"), api.ErrLog).isClosed(true)
		}
	}
}

// Two vaults of one device each have their epoch, their frames and their position; what is written is written over what the other one wrote.
func TestTwoVaultsOfOneDevice(t *testing.T) {
	b := newBench(t, 10)
	first := b.opens(2, "first", "first")
	second := b.found(2, "first")
	first.appends("a").is(1, 1)
	second.is(1, 0).appends("b").is(1, 1)
	b.found(2, "first", "b")
	first.appends("c").is(1, 2)
	b.found(2, "first", "b", "c")
	second.snaps("second").is(2, 0)
	first.is(1, 2).appends("d").is(1, 3)
	b.found(2, "second").is(2, 0)
	first.snaps("third").is(3, 0)
	b.contains(0, snapOf(3, "third")+zeros+snapOf(2, "second"))
	second.is(2, 0).appends("e").is(2, 1)
	b.found(2, "third")
	b.switchOff()
	second.dies(appending("f"))
	first.isClosed(false).is(3, 0)
	b.boot(api.Choice{Torn: -1})
	first.appends("g").is(3, 1)
	second.refuses(appending("h"), api.ErrLog)
	b.found(2, "third", "g")
}

// P12.5 and P12.6

// state is what a vault holds.
type state struct {
	text   string
	bodies []string
}

// after returns what a vault holds after a call.
func (x state) after(c call) state {
	if c.name == "Snap" {
		return state{text: c.text}
	}
	return state{x.text, append(slices.Clone(x.bodies), c.text)}
}

// unwhole is returned instead of the number of a state where something is read that was not written as a whole: of that nothing is promised.
const unwhole = -1

// openedAs opens a vault, checks that it holds one of some states, and returns which; opened once more, it holds the same.
func (b *bench) openedAs(slots int, first string, states ...state) int {
	b.t.Helper()
	h, got := b.open(slots, first)
	if got.e != api.OK {
		b.failf("it returns %v", got)
	}
	for i, x := range states {
		if got.held == told(x.text, x.bodies) {
			b.found(slots, x.text, x.bodies...)
			return i
		}
	}
	if !h.p.patchwork() {
		b.failf("it returns %v, want one of %.400v", got, states)
	}
	return unwhole
}

// randomString returns a text of a length up to most: often a short one, at times one that holds whole frames or snapshots.
func randomString(r *rand.Rand, most int) string {
	var s string
	// What is sealed has many lengths: of one length, one could take the place of another one, and the checksum around it would stay.
	inner := func() string { return randomText(r, r.Intn(90)) }
	switch r.Intn(8) {
	case 0:
	case 1:
		s = strings.Repeat(zeros, r.Intn(4))
	case 2:
		s = randomText(r, r.Intn(most+1))
	case 3:
		// Its frames lie where sectors of a frame begin, but for the byte that each of those begins with.
		s = randomText(r, 47)[:46+r.Intn(2)] + frameOf(1+r.Intn(4), 1+r.Intn(3), inner()) + frameOf(1+r.Intn(4), 2, inner())
	case 4:
		// Its snapshots lie where sectors of a snapshot begin.
		s = randomText(r, 52) + snapOf(1+r.Intn(9), inner()) + snapOf(mostGen, inner())
	case 5:
		s = frameOf(1+r.Intn(4), 1+r.Intn(4), inner())
	case 6:
		s = snapOf(1+r.Intn(9), inner())
	default:
		s = randomText(r, r.Intn(150))
	}
	return s[:min(len(s), most)]
}

// ground returns a bench with what can be there before a vault is opened: no snapshot, and no frame of the epochs up to 99.
func ground(t *testing.T, r *rand.Rand, n int) *bench {
	t.Helper()
	b := newBench(t, n)
	switch r.Intn(3) {
	case 0:
		return b
	case 1:
		return b.put(0, strings.ReplaceAll(randomText(r, 64*n), "\x01", "\x03"))
	}
	for at := 0; at < n; {
		s := frameOf(100+r.Intn(4), 1+r.Intn(5), randomString(r, 300))
		s = s[:min(len(s), 64*(n-at))]
		b.write(at, s)
		at += len(s) / 64
	}
	return b.flush()
}

// randomCall returns a call that a vault may be able to do.
func randomCall(r *rand.Rand, h *box) call {
	if r.Intn(3) == 0 {
		return snapping(randomString(r, 64*h.p.slots-16))
	}
	return appending(randomString(r, mostBody))
}

// grown makes calls, and returns the vault and what it holds.
func grown(r *rand.Rand, h *box, holds state, calls int) (*box, state) {
	h.t.Helper()
	for range calls {
		c := randomCall(r, h)
		if e := h.do(c); e == api.OK {
			holds = holds.after(c)
		} else if e != api.ErrFull {
			h.failf("it returns %d", int(e))
		}
		switch r.Intn(6) {
		case 0:
			h.found(h.p.slots, holds.text, holds.bodies...)
		case 1:
			h = h.found(h.p.slots, holds.text, holds.bodies...)
		case 2:
			h.switchOff().boot(randomChoice(r, 3))
		}
	}
	return h, holds
}

func TestKeeps(t *testing.T) {
	r := rand.New(rand.NewSource(9))
	var bodies, epochs int
	for range 300 {
		slots := 1 + r.Intn(12)
		b := ground(t, r, 2*slots+1+r.Intn(60))
		first := randomString(r, 64*slots-16)
		h, holds := grown(r, b.opens(slots, first, first), state{text: first}, r.Intn(30))
		bodies, epochs = bodies+len(holds.bodies), epochs+h.p.epoch
		h.found(slots, holds.text, holds.bodies...).is(h.p.epoch, len(holds.bodies)).restarted()
		h.switchOff().boot(randomChoice(r, 5)).found(slots, holds.text, holds.bodies...)
	}
	if bodies < 300 || epochs < 600 {
		t.Errorf("%d bodies are kept, and %d epochs were reached", bodies, epochs)
	}
}

// A vault that goes on for long, on a device of the greatest size, with the greatest slots.
func TestKeepsOnTheGreatestDevice(t *testing.T) {
	r := rand.New(rand.NewSource(10))
	b := newBench(t, mostSectors)
	text := randomText(r, 64*mostSlots-16)
	h := b.opens(mostSlots, text, text)
	for epoch := 1; epoch < 4; epoch++ {
		var bodies []string
		for len(bodies) < 20 {
			body := randomText(r, r.Intn(mostBody+1))
			h.appends(body)
			bodies = append(bodies, body)
		}
		h = h.found(mostSlots, text, bodies...).is(epoch, 20)
		text = randomText(r, 64*mostSlots-16)
		h.snaps(text)
	}
}

// shortCall returns a call that takes at most five operations, and that a vault can do.
func shortCall(r *rand.Rand, h *box) call {
	for {
		c := randomCall(r, h)
		if c.ops() <= 5 && (c.name == "Snap" && h.p.fits(c.text) || c.name == "Append" && h.p.room(c.text)) {
			return c
		}
		if !h.p.room("") {
			return snapping(randomText(r, r.Intn(49)))
		}
	}
}

// Wherever the power is lost, and whatever remains: a vault that is opened again holds what it held, or what it would hold after the call.
func TestFalls(t *testing.T) {
	r := rand.New(rand.NewSource(11))
	counts := map[string]int{}
	for range 120 {
		slots := 1 + r.Intn(6)
		b := ground(t, r, 2*slots+1+r.Intn(30))
		h, holds := grown(r, b.opens(slots, "first", "first"), state{text: "first"}, r.Intn(9))
		c := shortCall(r, h)
		for after := 1; after <= c.ops(); after++ {
			lost := h.copied().found(slots, holds.text, holds.bodies...)
			lost.arm(after)
			lost.dies(c)
			lost.denies(slots, "first", api.ErrDead)
			written := min(after, c.ops()-1)
			everyChoice(written, func(choice api.Choice) {
				left := lost.copied().boot(choice)
				i := left.openedAs(slots, "another first text", holds, holds.after(c))
				counts[fmt.Sprint(c.name, i)]++
				// Where all of its sectors are as they were written it is there.
				if after >= c.ops()-1 && !slices.Contains(choice.Keep, false) && i == 0 && told(holds.text, holds.bodies) != told(holds.after(c).text, holds.after(c).bodies) {
					left.failf("%v is not there", c)
				}
			})
		}
		h.arm(c.ops() + 1)
		h.returns(c, api.OK)
		h.found(slots, holds.after(c).text, holds.after(c).bodies...)
	}
	for _, name := range []string{"Append", "Snap"} {
		before, after, neither := counts[fmt.Sprint(name, 0)], counts[fmt.Sprint(name, 1)], counts[fmt.Sprint(name, unwhole)]
		if before < 50 || after < 50 || neither > before/100 {
			t.Errorf("%s: %d times as before, %d times as after, and %d times neither", name, before, after, neither)
		}
	}
}

// The same with calls of many operations, of which some choices are drawn.
func TestFallsOfLongCalls(t *testing.T) {
	r := rand.New(rand.NewSource(12))
	for range 12 {
		slots := 20 + r.Intn(20)
		b := ground(t, r, 2*slots+60+r.Intn(40))
		h, holds := grown(r, b.opens(slots, "first", "first"), state{text: "first"}, r.Intn(4))
		for _, c := range []call{snapping(randomText(r, 64*slots-16-r.Intn(900))), appending(randomText(r, 400+r.Intn(500)))} {
			if c.name == "Append" && !h.p.room(c.text) {
				continue
			}
			for after := 1; after <= c.ops(); after++ {
				lost := h.copied().found(slots, holds.text, holds.bodies...)
				lost.arm(after)
				lost.dies(c)
				n := c.ops() - 1
				for _, keep := range [][]bool{nil, slices.Repeat([]bool{true}, n), randomKeep(r, n), randomKeep(r, n)} {
					left := lost.copied().boot(api.Choice{Keep: keep, Torn: r.Intn(n+1) - 1, Cut: r.Intn(65)})
					left.openedAs(slots, "another first text", holds, holds.after(c))
				}
			}
		}
	}
}

// What a fall leaves does not disturb what comes behind it: the vault falls again and again, in Open too, and goes on.
func TestFallsAgainAndAgain(t *testing.T) {
	r := rand.New(rand.NewSource(13))
	var falls, goes, unwholes int
drawn:
	for range 150 {
		slots := 1 + r.Intn(6)
		b := ground(t, r, 2*slots+4+r.Intn(40))
		var h *box
		for h == nil || h.v == nil {
			b.boot(randomChoice(r, 6)).arm(1 + r.Intn(8))
			h, _ = b.open(slots, randomString(r, 64*slots-16))
		}
		_, text, bodies, e := vault.Open(b.d, slots, "")
		if e != api.OK {
			b.failf("it returns %d", int(e))
		}
		holds := state{text, bodies}
		for range 25 {
			c := randomCall(r, h)
			b.arm(1 + r.Intn(2*c.ops()))
			switch h.do(c) {
			case api.OK:
				holds = holds.after(c)
				goes++
				continue
			case api.ErrDead:
				falls++
				b.boot(randomChoice(r, 48))
				states := []state{holds, holds.after(c)}
				i := b.openedAs(slots, "another first text", states...)
				if i == unwhole {
					unwholes++
					continue drawn
				}
				holds = states[i]
				h = b.found(slots, holds.text, holds.bodies...)
			case api.ErrFull:
				h.is(h.p.epoch, len(holds.bodies))
			}
		}
		b.boot(api.Choice{Torn: -1}).found(slots, holds.text, holds.bodies...)
	}
	if falls < 300 || goes < 300 || unwholes > 2 {
		t.Errorf("%d calls fall, %d go on, and %d times something is read that was not written as a whole", falls, goes, unwholes)
	}
}

// The call that fell is made again, and then just what it writes is there, once.
func TestACallThatFellIsMadeAgain(t *testing.T) {
	r := rand.New(rand.NewSource(14))
	for range 60 {
		slots := 1 + r.Intn(4)
		b := ground(t, r, 2*slots+12+r.Intn(30))
		h, holds := grown(r, b.opens(slots, "first", "first"), state{text: "first"}, r.Intn(5))
		c := shortCall(r, h)
		for after := 1; after <= c.ops(); after++ {
			lost := h.copied().found(slots, holds.text, holds.bodies...)
			lost.arm(after)
			lost.dies(c)
			for range 6 {
				left := lost.copied().boot(randomChoice(r, 5))
				states := []state{holds, holds.after(c)}
				if i := left.openedAs(slots, "another first text", states...); i != 0 {
					continue
				}
				again := left.found(slots, holds.text, holds.bodies...)
				again.returns(c, api.OK)
				again.found(slots, states[1].text, states[1].bodies...)
				if again.v.Room("next") {
					again.appends("next").found(slots, states[1].text, append(slices.Clone(states[1].bodies), "next")...)
				}
			}
		}
	}
}

// A snapshot that was not written as a whole stands in no slot: the previous one is found, with its bodies, and the next one goes there.
func TestASnapshotThatFell(t *testing.T) {
	for where := range 2 {
		h := newBench(t, 14).opens(4, "first", "first")
		gen := 2 + where
		for no := 2; no < gen; no++ {
			h.snaps("between")
		}
		h.appends("one", "two")
		text := map[int]string{0: "first", 1: "between"}[where]
		h.arm(3)
		h.dies(snapping(textOf(4)))
		h.boot(api.Choice{Keep: []bool{true, true, false}, Torn: -1})
		h = h.found(4, text, "one", "two").is(gen-1, 2)
		h.appends("three").is(gen-1, 3).snaps("next").is(gen, 0)
		h.contains(4*(1-where), snapOf(gen, "next"))
		h.found(4, "next").is(gen, 0)
	}
}

// A body that holds sealed bytes is read as another one where these are exchanged for others of their length, since the checksum stays: what was not written as a whole is returned as it is read, and nothing is promised of it.
func TestABodyThatIsPatchwork(t *testing.T) {
	with := func(inner string) string { return letters(47) + sealOf(inner+letters(56)) + letters(100) }
	one, two := with("one"), with("two")
	h := newBench(t, 12).opens(2, "first", "first").appends(one).snaps("second")
	h.arm(frameSectors(len(two)) + 1)
	h.dies(appending(two))
	h.boot(api.Choice{Keep: []bool{true, false, true, true}, Torn: -1})
	if i := h.openedAs(2, "another", state{text: "second"}, state{"second", []string{two}}); i != unwhole {
		h.failf("state %d is there", i)
	}
	h.found(2, "second", one).is(2, 1)
}

// Calls in any order, against the definition

// randomSectors returns what can be written to a device without a vault: garbage, or a snapshot, or a frame.
func randomSectors(r *rand.Rand) string {
	switch r.Intn(4) {
	case 0:
		return randomText(r, 64)
	case 1:
		return zeros
	case 2:
		return snapOf(1+r.Intn(6), randomText(r, r.Intn(49)))
	}
	return frameOf(1+r.Intn(6), 1+r.Intn(4), randomText(r, r.Intn(44)))
}

// disturb does something to the device of a bench.
func (b *bench) disturb(r *rand.Rand) {
	b.t.Helper()
	n := len(b.m.now)
	switch r.Intn(14) {
	case 0:
		b.arm(1 + r.Intn(6))
	case 1, 2:
		b.boot(api.Choice{Keep: randomKeep(r, n), Torn: r.Intn(4) - 1, Cut: r.Intn(65)})
	case 3:
		if !b.m.off {
			b.write(r.Intn(n), randomSectors(r))
		}
	case 4:
		if r.Intn(3) == 0 {
			b.switchOff()
		}
	}
}

// anyCall returns a call of any kind.
func anyCall(r *rand.Rand) call {
	names := []string{"Append", "Append", "Snap"}
	c := call{names[r.Intn(3)], randomString(r, 500)}
	if r.Intn(20) == 0 {
		c.text = letters(lengths[r.Intn(len(lengths))])
	}
	return c
}

func TestSequencesOfCalls(t *testing.T) {
	r := rand.New(rand.NewSource(15))
	counts := map[string]int{}
	for range 250 {
		n := 1 + r.Intn(30)
		b := newBench(t, n)
		var boxes []*box
		for range 80 {
			b.disturb(r)
			if len(boxes) == 0 || r.Intn(6) == 0 {
				slots := 1 + r.Intn(3)
				if r.Intn(8) == 0 {
					slots = r.Intn(20) - 1
				}
				h, x := b.open(slots, randomString(r, 300))
				counts[fmt.Sprint("Open ", int(x.e))]++
				if h.v != nil {
					boxes = append(boxes, h)
				}
				continue
			}
			h := boxes[max(r.Intn(len(boxes)), len(boxes)-1-r.Intn(3))]
			c := anyCall(r)
			counts[fmt.Sprint(c.name, " ", int(h.do(c)))]++
		}
		for _, h := range boxes {
			h.compare()
		}
	}
	for _, name := range []string{"Open 0", "Open 2", "Open 20", "Open 22", "Append 0", "Append 3", "Append 20", "Append 22", "Append 23", "Snap 0", "Snap 20", "Snap 22", "Snap 23"} {
		if counts[name] < 20 {
			t.Errorf("%s: %d calls", name, counts[name])
		}
	}
}

// The general rules

// within reports whether two texts share memory.
func within(a, b string) bool {
	if a == "" || b == "" {
		return false
	}
	first, second := uintptr(unsafe.Pointer(unsafe.StringData(a))), uintptr(unsafe.Pointer(unsafe.StringData(b)))
	return first < second+uintptr(len(b)) && second < first+uintptr(len(a))
}

func TestResultsAreNew(t *testing.T) {
	b := newBench(t, 12)
	first := string([]byte("the first text"))
	v, text, _, _ := vault.Open(b.d, 2, first)
	if text != first || within(text, first) {
		t.Errorf("the text is %q, and it is the argument: %t", text, within(text, first))
	}
	body := string([]byte("the body"))
	for range 3 {
		v.Append(body)
	}
	_, one, ones, _ := vault.Open(b.d, 2, first)
	_, two, twos, _ := vault.Open(b.d, 2, first)
	if len(ones) != 3 || len(twos) != 3 {
		t.Fatalf("%q, %q", ones, twos)
	}
	all := append([]string{first, text, one, two, body}, append(slices.Clone(ones), twos...)...)
	for i, s := range all {
		for _, other := range all[:i] {
			if within(s, other) {
				t.Errorf("%q shares memory with %q", s, other)
			}
		}
	}
	for i := range ones {
		ones[i] = "changed"
	}
	if _, text, bodies, _ := vault.Open(b.d, 2, ""); text != first || !slices.Equal(bodies, slices.Repeat([]string{body}, 3)) || !slices.Equal(bodies, twos) {
		t.Errorf("a change of a result changes %q, %q", text, bodies)
	}
}

// What the bytes of an argument become after the call is not stored.
func TestArgumentsAreNotRetained(t *testing.T) {
	b := newBench(t, 12)
	bytes := []byte("the text")
	text := unsafe.String(&bytes[0], len(bytes))
	v, got, _, e := vault.Open(b.d, 2, text)
	copy(bytes, "one body")
	if got != "the text" || e != api.OK {
		t.Errorf("%q, %d", got, int(e))
	}
	v.Append(text)
	copy(bytes, "changed!")
	if _, got, bodies, _ := vault.Open(b.d, 2, ""); got != "the text" || !slices.Equal(bodies, []string{"one body"}) {
		t.Errorf("%q, %q", got, bodies)
	}
	v.Snap(text)
	copy(bytes, "what now")
	if _, got, bodies, _ := vault.Open(b.d, 2, ""); got != "changed!" || len(bodies) != 0 {
		t.Errorf("%q, %q", got, bodies)
	}
}

// The same calls on two devices return the same, whatever was called in between on others.
func TestCallsDependOnTheirDeviceAlone(t *testing.T) {
	r := rand.New(rand.NewSource(16))
	for range 20 {
		one, two := newBench(t, 20), newBench(t, 20)
		first, second := one.opens(2, "first", "first"), two.opens(2, "first", "first")
		for range 30 {
			c := anyCall(r)
			x := first.do(c)
			grown(r, newBench(t, 30).opens(3, "other", "other"), state{text: "other"}, 3)
			if y := second.do(c); x != y {
				t.Fatalf("%v returns %d, and then %d", c, int(x), int(y))
			}
		}
		if x, y := seen(one.d), seen(two.d); x != y {
			t.Fatalf("one is %v, the other %v", x, y)
		}
	}
}

func TestCallsAtTheSameTime(t *testing.T) {
	var group sync.WaitGroup
	for i := range 8 {
		group.Go(func() {
			r := rand.New(rand.NewSource(int64(17 + i)))
			d, _ := sector.New(60)
			m := newDisk(60)
			v, _, _, e := vault.Open(d, 4, "first")
			p, want := m.open(4, "first")
			if e != want.e || e != api.OK {
				t.Errorf("Open returns %d", int(e))
				return
			}
			for range 200 {
				c := anyCall(r)
				got, want := v.Append(c.text), p.append(c.text)
				if got == api.ErrFull {
					got, want = v.Snap(c.text), p.snap(c.text)
				}
				if got != want || v.Epoch() != p.epoch || v.Seq() != p.seq {
					t.Errorf("%v returns %d, want %d", c, int(got), int(want))
				}
			}
			if got, want := seen(d), m.seen(); got != want {
				t.Errorf("the device is %v, want %v", got, want)
			}
		})
	}
	group.Wait()
}
