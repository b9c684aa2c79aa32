package frame_test

import (
	"encoding/binary"
	"encoding/hex"
	"fmt"
	"hash/crc32"
	"math"
	"math/rand"
	"slices"
	"strings"
	"sync"
	"testing"
	"unsafe"

	"backhaul/api"
	"backhaul/frame"
)

const (
	// mostEpoch and mostSeq are the greatest epoch and the greatest number, mostBody is the length of the longest body.
	mostEpoch = 1000000000
	mostSeq   = 1000000
	mostBody  = 3000
)

// lengths are those that the chapter or a sector's end makes a limit, and their neighbours.
var lengths = []int{
	0, 1, 2, 15, 16, 41, 42, 43, 44, 45, 62, 63, 64, 65, 105, 106, 107, 108, 127, 128, 168, 169, 170, 171, 255, 256, 257, 1000, 2048,
	2941, 2942, 2943, 2999, 3000,
}

// epochs and seqs are the least ones and the greatest ones, and others that differ in each of the bytes that are not always 0.
var (
	epochs = []int{1, 2, 3, 4, 255, 256, 258, 65535, 65536, 1<<24 - 1, 1 << 24, 1<<29 + 258, mostEpoch - 1, mostEpoch}
	seqs   = []int{1, 2, 3, 255, 256, 258, 65535, 65536, 65537, mostSeq - 1, mostSeq}
)

// noEpochs and noSeqs are numbers that no frame has, many of which have one in their last bits.
var (
	noEpochs = []int{
		math.MinInt, math.MinInt + 1, 1 - 1<<32, math.MinInt32, -mostEpoch, -256, -2, -1, 0,
		mostEpoch + 1, mostEpoch + 2, math.MaxInt32, 1 << 31, 1 << 32, 1<<32 + 1, 1<<40 + 1, 1<<56 + 1, 1 << 62, math.MaxInt - 1, math.MaxInt,
	}
	noSeqs = []int{
		math.MinInt, math.MinInt + 1, 1 - 1<<32, math.MinInt32, -mostSeq, -256, -2, -1, 0,
		mostSeq + 1, mostSeq + 2, mostEpoch, math.MaxInt32, 1 << 31, 1<<32 - 1, 1 << 32, 1<<32 + 1, 1<<56 + 1, math.MaxInt - 1, math.MaxInt,
	}
)

// sealOf is the definition of what is sealed, with the library's checksum.
func sealOf(s string) string {
	sum := crc32.Checksum([]byte(s), crc32.MakeTable(crc32.Castagnoli))
	return string(binary.LittleEndian.AppendUint32([]byte(s), sum))
}

// headOf returns what is ahead of a body, for any epoch, number and length.
func headOf(epoch uint64, seq, length uint32) string {
	head := binary.BigEndian.AppendUint64(nil, epoch)
	head = binary.BigEndian.AppendUint32(head, seq)
	return string(binary.BigEndian.AppendUint32(head, length))
}

// laid is the definition of the sectors of a text, byte by byte.
func laid(text string) string {
	var l []byte
	for i := range len(text) {
		switch {
		case i == 0:
			l = append(l, 1)
		case i%63 == 0:
			l = append(l, 2)
		}
		l = append(l, text[i])
	}
	for len(l)%64 != 0 {
		l = append(l, 0)
	}
	return string(l)
}

// sectorsWith returns the sectors of a text that is sealed, with any epoch, number, length and body.
func sectorsWith(epoch uint64, seq, length uint32, body string) string {
	return laid(sealOf(headOf(epoch, seq, length) + body))
}

// bytesOf is the definition of a frame's sectors, be its fields in range or not.
func bytesOf(f frame.Frame) string {
	return sectorsWith(uint64(f.Epoch), uint32(f.Seq), uint32(len(f.Body)), f.Body)
}

// countOf is the definition of Sectors.
func countOf(body string) int {
	n := 0
	for left := 8 + 4 + 4 + len(body) + 4; left > 0; left -= 63 {
		n++
	}
	return n
}

// putOf is the definition of Put.
func putOf(f frame.Frame) (string, api.Errno) {
	if f.Epoch <= 0 || f.Epoch >= mostEpoch+1 || f.Seq <= 0 || f.Seq >= mostSeq+1 {
		return "", api.ErrArg
	}
	if len(f.Body) >= mostBody+1 {
		return "", api.ErrBig
	}
	return bytesOf(f), api.OK
}

// getOf is the definition of Get.
func getOf(s string, at int) (frame.Frame, int, api.Errno) {
	if at < 0 || len(s)%64 != 0 || at > len(s)/64 {
		return frame.Frame{}, 0, api.ErrArg
	}
	s = s[64*at:]
	if s == "" {
		return frame.Frame{}, 0, api.ErrShort
	}
	if s[0] != 1 {
		return frame.Frame{}, 0, api.ErrForm
	}
	epoch := binary.BigEndian.Uint64([]byte(s[1:]))
	seq := binary.BigEndian.Uint32([]byte(s[9:]))
	length := binary.BigEndian.Uint32([]byte(s[13:]))
	switch {
	case epoch > math.MaxInt:
		return frame.Frame{}, 0, api.ErrOver
	case epoch == 0 || epoch > mostEpoch || seq == 0 || seq > mostSeq:
		return frame.Frame{}, 0, api.ErrArg
	case length > mostBody:
		return frame.Frame{}, 0, api.ErrBig
	}
	n := 1
	for 63*n < 20+int(length) {
		n++
	}
	if len(s) < 64*n {
		return frame.Frame{}, 0, api.ErrShort
	}
	text := s[1:64]
	for i := 1; i < n; i++ {
		if s[64*i] != 2 {
			return frame.Frame{}, 0, api.ErrForm
		}
		text += s[64*i+1 : 64*i+64]
	}
	body := text[16 : 16+length]
	if text[:20+length] != sealOf(text[:16]+body) {
		return frame.Frame{}, 0, api.ErrSum
	}
	for _, b := range []byte(text[20+length:]) {
		if b != 0 {
			return frame.Frame{}, 0, api.ErrForm
		}
	}
	return frame.Frame{Epoch: int(epoch), Seq: int(seq), Body: body}, at + n, api.OK
}

// scanOf is the definition of Scan.
func scanOf(s string, epoch int) ([]string, int) {
	var l []string
	at := 0
	for {
		f, to, e := getOf(s, at)
		if e != api.OK || f.Epoch != epoch || f.Seq != 1+len(l) {
			return l, at
		}
		l, at = append(l, f.Body), to
	}
}

// brief tells a frame, but of a long body only its beginning.
func brief(f frame.Frame) string {
	return fmt.Sprintf("{%d, %d, %.40q of %d bytes}", f.Epoch, f.Seq, f.Body, len(f.Body))
}

// short tells bytes, but of many only the first ones and the last ones.
func short(s string) string {
	if len(s) <= 192 {
		return fmt.Sprintf("% x (%d bytes)", s, len(s))
	}
	return fmt.Sprintf("% x .. % x (%d bytes)", s[:80], s[len(s)-80:], len(s))
}

// put returns the sectors of a frame that there is.
func put(t *testing.T, epoch, seq int, body string) string {
	t.Helper()
	f := frame.Frame{Epoch: epoch, Seq: seq, Body: body}
	s, e := frame.Put(f)
	if e != api.OK {
		t.Fatalf("Put(%s): %d", brief(f), int(e))
	}
	return s
}

// run returns the sectors of an epoch's frames with the numbers 1, 2, 3 and so on.
func run(t *testing.T, epoch int, bodies ...string) string {
	t.Helper()
	s := ""
	for i, body := range bodies {
		s += put(t, epoch, i+1, body)
	}
	return s
}

func comparePut(t *testing.T, f frame.Frame) {
	t.Helper()
	want, code := putOf(f)
	if got, e := frame.Put(f); got != want || e != code {
		t.Errorf("Put(%s) = %s, %d, want %s, %d", brief(f), short(got), int(e), short(want), int(code))
	}
	if got, want := frame.Sectors(f.Body), countOf(f.Body); got != want {
		t.Errorf("Sectors of %d bytes = %d, want %d", len(f.Body), got, want)
	}
}

// expectGet checks what Get returns, by the words of the test, and the definition too.
func expectGet(t *testing.T, s string, at int, want frame.Frame, end int, code api.Errno) {
	t.Helper()
	if got, to, e := getOf(s, at); got != want || to != end || e != code {
		t.Fatalf("the definition of Get of %s at %d returns %s, %d, %d, want %s, %d, %d", short(s), at, brief(got), to, int(e), brief(want), end, int(code))
	}
	compareGet(t, s, at)
}

// refused checks that Get returns an error, and nothing beside it.
func refused(t *testing.T, s string, at int, code api.Errno) {
	t.Helper()
	expectGet(t, s, at, frame.Frame{}, 0, code)
}

func compareGet(t *testing.T, s string, at int) {
	t.Helper()
	want, end, code := getOf(s, at)
	if got, to, e := frame.Get(s, at); got != want || to != end || e != code {
		t.Errorf("Get(%s, %d) = %s, %d, %d, want %s, %d, %d", short(s), at, brief(got), to, int(e), brief(want), end, int(code))
	}
}

// expectScan checks what Scan returns, by the words of the test, and the definition too.
func expectScan(t *testing.T, s string, epoch int, want []string, end int) {
	t.Helper()
	if got, to := scanOf(s, epoch); !slices.Equal(got, want) || to != end {
		t.Fatalf("the definition of Scan of %s for epoch %d returns %.40q, %d, want %.40q, %d", short(s), epoch, got, to, want, end)
	}
	compareScan(t, s, epoch)
}

// nothing checks that Scan finds nothing.
func nothing(t *testing.T, s string, epoch int) {
	t.Helper()
	expectScan(t, s, epoch, nil, 0)
}

func compareScan(t *testing.T, s string, epoch int) {
	t.Helper()
	want, end := scanOf(s, epoch)
	if got, to := frame.Scan(s, epoch); !slices.Equal(got, want) || to != end {
		t.Errorf("Scan(%s, %d) = %.40q, %d, want %.40q, %d", short(s), epoch, got, to, want, end)
	}
}

func randomText(r *rand.Rand, length int) string {
	b := make([]byte, length)
	r.Read(b)
	return string(b)
}

// kinds returns texts of a length: of bytes 0, 1, 2 and ff, of random bytes, and of runes of more than one byte, as far as they go.
func kinds(r *rand.Rand, length int) []string {
	return []string{
		strings.Repeat("\x00", length),
		strings.Repeat("\x01", length),
		strings.Repeat("\x02", length),
		strings.Repeat("\xff", length),
		randomText(r, length),
		strings.Repeat("ü", length/2) + strings.Repeat("u", length%2),
	}
}

// changed returns bytes of which one is combined with a mask.
func changed(s string, at int, mask byte) string {
	b := []byte(s)
	b[at] ^= mask
	return string(b)
}

// around returns what can be ahead of a frame, or behind it: nothing, frames, parts of frames, and other whole sectors.
func around(r *rand.Rand) []string {
	two := bytesOf(frame.Frame{Epoch: 9, Seq: 7, Body: strings.Repeat("z", 80)})
	return []string{
		"", strings.Repeat("\x00", 64), strings.Repeat("\x01", 64), strings.Repeat("\x02", 192), strings.Repeat("\xff", 128), randomText(r, 320),
		bytesOf(frame.Frame{Epoch: 1, Seq: 1}), two, two[:64], two[64:], two + strings.Repeat("\x00", 64) + two,
	}
}

// The examples

func TestExamples(t *testing.T) {
	for length, want := range map[int]int{0: 1, 43: 1, 44: 2} {
		if got := frame.Sectors(strings.Repeat("x", length)); got != want {
			t.Errorf("Sectors of %d bytes = %d, want %d", length, got, want)
		}
	}
	if got := len(put(t, 1, 1, "")); got != 64 {
		t.Errorf("an empty body has %d bytes", got)
	}
	refused(t, strings.Repeat("\x00", 64), 0, api.ErrForm)
	first, second := put(t, 5, 1, "the first"), put(t, 5, 2, strings.Repeat("the second", 8))
	expectScan(t, first+second, 5, []string{"the first", strings.Repeat("the second", 8)}, 3)
	nothing(t, second+first, 5)
}

// The sectors of some frames, written out: they hold Put and its definition.
func TestPutOfSomeFrames(t *testing.T) {
	x := strings.Repeat("x", 47)
	for _, c := range []struct {
		f         frame.Frame
		head, sum string
		// behind is what follows the head: the body (% stands for the sum), a byte 2 ahead of each further piece, and bytes 0.
		behind string
		n      int
	}{
		{frame.Frame{Epoch: 1, Seq: 1}, "00000000000000010000000100000000", "0e235f8e", "%" + strings.Repeat("\x00", 43), 1},
		{frame.Frame{Epoch: 4, Seq: 2, Body: "hi"}, "00000000000000040000000200000002", "4f5aaf04", "hi%" + strings.Repeat("\x00", 41), 1},
		{frame.Frame{Epoch: 258, Seq: 3, Body: x[:43]}, "0000000000000102000000030000002b", "49b1b219", x[:43] + "%", 1},
		{frame.Frame{Epoch: 258, Seq: 65537, Body: x[:44]}, "0000000000000102000100010000002c", "c792392f", "", 2},
		{frame.Frame{Epoch: mostEpoch, Seq: mostSeq, Body: "goods that come back"}, "000000003b9aca00000f424000000014", "a87f086b", "goods that come back%" + strings.Repeat("\x00", 23), 1},
	} {
		head, sum := unhexed(t, c.head), unhexed(t, c.sum)
		want := "\x01" + head + strings.Replace(c.behind, "%", sum, 1)
		if c.behind == "" {
			// The last byte of the sum stands in the second piece.
			want = "\x01" + head + c.f.Body + sum[:3] + "\x02" + sum[3:] + strings.Repeat("\x00", 62)
		}
		if got, e := frame.Put(c.f); got != want || e != api.OK {
			t.Errorf("Put(%s) = %s, %d, want %s", brief(c.f), short(got), int(e), short(want))
		}
		comparePut(t, c.f)
		expectGet(t, want, 0, c.f, c.n, api.OK)
		if got := frame.Sectors(c.f.Body); got != c.n {
			t.Errorf("Sectors of %d bytes = %d, want %d", len(c.f.Body), got, c.n)
		}
	}
}

func unhexed(t *testing.T, digits string) string {
	t.Helper()
	b, err := hex.DecodeString(digits)
	if err != nil {
		t.Fatal(err)
	}
	return string(b)
}

// P10.1

func TestSectorsAtLimits(t *testing.T) {
	for length, want := range map[int]int{
		0: 1, 1: 1, 42: 1, 43: 1, 44: 2, 105: 2, 106: 2, 107: 3, 169: 3, 170: 4, 2941: 47, 2942: 48, 2999: 48, 3000: 48,
		// No frame has such a body: the number is the one that its sectors would have.
		3001: 48, 3004: 48, 3005: 49, 100000: 1588,
	} {
		if got := frame.Sectors(strings.Repeat("x", length)); got != want {
			t.Errorf("Sectors of %d bytes = %d, want %d", length, got, want)
		}
	}
}

// It is bytes that count, not runes, and any bytes count alike.
func TestSectorsAndPutOfEachLength(t *testing.T) {
	r := rand.New(rand.NewSource(1))
	for length := range mostBody + 1 {
		comparePut(t, frame.Frame{Epoch: 1 + length, Seq: 1 + length, Body: randomText(r, length)})
		for _, body := range kinds(r, length) {
			if got, want := frame.Sectors(body), countOf(body); got != want {
				t.Errorf("Sectors of %.20q of %d bytes = %d, want %d", body, length, got, want)
			}
		}
	}
}

func TestPutOfBodies(t *testing.T) {
	r := rand.New(rand.NewSource(2))
	for _, length := range lengths {
		for _, body := range kinds(r, length) {
			for _, seq := range []int{1, 258, mostSeq} {
				comparePut(t, frame.Frame{Epoch: 258, Seq: seq, Body: body})
			}
		}
	}
}

func TestPutAtEpochsAndNumbers(t *testing.T) {
	for _, epoch := range epochs {
		for _, seq := range seqs {
			for _, body := range []string{"", "x", "goods", strings.Repeat("y", 44)} {
				f := frame.Frame{Epoch: epoch, Seq: seq, Body: body}
				if s, e := frame.Put(f); e != api.OK || len(s) != 64*countOf(body) {
					t.Errorf("Put(%s) has %d bytes, %d", brief(f), len(s), int(e))
				}
				comparePut(t, f)
			}
		}
	}
}

// The error of the epoch and of the number comes before that of the body.
func TestPutRefuses(t *testing.T) {
	long := strings.Repeat("x", mostBody+1)
	for _, body := range []string{"", "x", long[:mostBody], long, long + long, strings.Repeat("x", 65536+2)} {
		for _, epoch := range slices.Concat(epochs, noEpochs) {
			for _, seq := range noSeqs {
				expectPutRefused(t, frame.Frame{Epoch: epoch, Seq: seq, Body: body}, api.ErrArg)
			}
		}
		for _, epoch := range noEpochs {
			for _, seq := range seqs {
				expectPutRefused(t, frame.Frame{Epoch: epoch, Seq: seq, Body: body}, api.ErrArg)
			}
		}
		if len(body) > mostBody {
			for _, epoch := range epochs {
				for _, seq := range seqs {
					expectPutRefused(t, frame.Frame{Epoch: epoch, Seq: seq, Body: body}, api.ErrBig)
				}
			}
		}
	}
}

func expectPutRefused(t *testing.T, f frame.Frame, code api.Errno) {
	t.Helper()
	if got, e := frame.Put(f); got != "" || e != code {
		t.Errorf("Put(%s) = %s, %d, want %d", brief(f), short(got), int(e), int(code))
	}
	if got, e := putOf(f); got != "" || e != code {
		t.Errorf("the definition of Put of %s returns %s, %d, want %d", brief(f), short(got), int(e), int(code))
	}
}

// P10.2

func TestGetOfWhatPutReturns(t *testing.T) {
	r := rand.New(rand.NewSource(3))
	sides := around(r)
	for _, length := range lengths {
		for _, body := range kinds(r, length) {
			f := frame.Frame{Epoch: epochs[r.Intn(len(epochs))], Seq: seqs[r.Intn(len(seqs))], Body: body}
			s := put(t, f.Epoch, f.Seq, f.Body)
			for _, ahead := range sides {
				for _, behind := range []string{"", sides[r.Intn(len(sides))], s} {
					expectGet(t, ahead+s+behind, len(ahead)/64, f, len(ahead+s)/64, api.OK)
				}
			}
		}
	}
}

func TestGetAtEachSector(t *testing.T) {
	r := rand.New(rand.NewSource(4))
	frames := []frame.Frame{{Epoch: 1, Seq: 1}, {Epoch: 2, Seq: 9, Body: "a body"}, {Epoch: 3, Seq: mostSeq, Body: randomText(r, 107)}, {Epoch: mostEpoch, Seq: 2, Body: randomText(r, mostBody)}}
	for _, f := range frames {
		s := put(t, f.Epoch, f.Seq, f.Body)
		for at := range 200 {
			expectGet(t, strings.Repeat("\x02", 64*at)+s, at, f, at+frame.Sectors(f.Body), api.OK)
		}
	}
	// A frame begins where it begins, and in no sector ahead or behind.
	s := ""
	for range 100 {
		s += frame64(t, r, frames)
	}
	count := map[api.Errno]int{}
	for at := range len(s)/64 + 1 {
		compareGet(t, s, at)
		_, _, e := frame.Get(s, at)
		count[e]++
	}
	if count[api.OK] < 50 || count[api.ErrForm] < 50 || count[api.ErrShort] != 1 {
		t.Errorf("the sectors give %v", count)
	}
}

// frame64 returns a frame's sectors, or a sector of anything.
func frame64(t *testing.T, r *rand.Rand, frames []frame.Frame) string {
	t.Helper()
	if r.Intn(4) == 0 {
		return randomText(r, 64)
	}
	f := frames[r.Intn(len(frames))]
	return put(t, f.Epoch, f.Seq, f.Body)
}

func TestGetAtPlacesThatThereAreNot(t *testing.T) {
	for _, s := range []string{
		"", put(t, 1, 1, ""), put(t, 4, 2, strings.Repeat("x", 107)), strings.Repeat("\x00", 64), run(t, 3, "a", "b", "c"),
	} {
		n := len(s) / 64
		refused(t, s, n, api.ErrShort)
		for _, at := range []int{
			math.MinInt, math.MinInt + 1, math.MinInt / 64, math.MinInt32, -n - 1, -64, -2, -1,
			n + 1, n + 2, n + 64, 64*n + 1, math.MaxInt32, 1 << 32, 1 << 58, 1<<58 + 1, 1 << 62, math.MaxInt / 64, math.MaxInt/64 + 1, math.MaxInt - 1, math.MaxInt,
		} {
			refused(t, s, at, api.ErrArg)
		}
	}
}

// Bytes that are not whole sectors hold no frame, also where all of its sectors are there.
func TestGetOfBytesThatAreNotWholeSectors(t *testing.T) {
	s := put(t, 4, 2, strings.Repeat("x", 107))
	for to := range len(s) {
		if to%64 != 0 {
			for _, at := range []int{-1, 0, 1, 2, 3, 4} {
				refused(t, s[:to], at, api.ErrArg)
			}
		}
	}
	for n := 1; n < 64; n++ {
		for _, rest := range []string{strings.Repeat("\x00", n), strings.Repeat("\x01", n), s[:n]} {
			for at := range 5 {
				refused(t, s+rest, at, api.ErrArg)
			}
			refused(t, rest, 0, api.ErrArg)
			refused(t, rest, 1, api.ErrArg)
		}
	}
}

func TestGetOfFramesCutBehindEachSector(t *testing.T) {
	r := rand.New(rand.NewSource(5))
	for _, length := range lengths {
		for _, ahead := range []string{"", put(t, 1, 1, "ahead"), strings.Repeat("\x00", 256)} {
			s, at := ahead+put(t, 258, 3, randomText(r, length)), len(ahead)/64
			for to := len(ahead); to < len(s); to += 64 {
				refused(t, s[:to], at, api.ErrShort)
			}
		}
	}
}

// errorOf returns the error of a frame's sectors of which one byte has been changed, by the field in which it stands.
func errorOf(s string, length, at int) api.Errno {
	if at%64 == 0 {
		return api.ErrForm
	}
	// The place among the bytes of the pieces.
	in := at - at/64 - 1
	epoch := binary.BigEndian.Uint64([]byte(s[1:]))
	seq, now := binary.BigEndian.Uint32([]byte(s[9:])), int(binary.BigEndian.Uint32([]byte(s[13:])))
	switch {
	case in < 8 && epoch > math.MaxInt:
		return api.ErrOver
	case in < 12 && (epoch < 1 || epoch > mostEpoch || seq < 1 || seq > mostSeq):
		return api.ErrArg
	case in >= 12 && in < 16 && now > mostBody:
		return api.ErrBig
	case in >= 12 && in < 16 && 64*countOf(strings.Repeat("x", now)) > len(s):
		return api.ErrShort
	case in < 16+length+4:
		return api.ErrSum
	}
	return api.ErrForm
}

func TestGetWithEachByteChanged(t *testing.T) {
	r := rand.New(rand.NewSource(6))
	count := map[api.Errno]int{}
	for i, length := range []int{0, 1, 42, 43, 44, 106, 107} {
		for _, epoch := range []int{1, 258, mostEpoch} {
			s := put(t, epoch, seqs[(i+epoch)%len(seqs)], randomText(r, length))
			for at := range len(s) {
				for mask := 1; mask < 256; mask++ {
					other := changed(s, at, byte(mask))
					code := errorOf(other, length, at)
					refused(t, other, 0, code)
					count[code]++
				}
			}
		}
	}
	for _, code := range []api.Errno{api.ErrOver, api.ErrArg, api.ErrBig, api.ErrShort, api.ErrSum, api.ErrForm} {
		if count[code] < 100 {
			t.Errorf("only %d of the changes give the error %d", count[code], int(code))
		}
	}
}

func TestGetOfLongBodiesWithAByteChanged(t *testing.T) {
	r := rand.New(rand.NewSource(7))
	for _, length := range []int{2941, 2942, 2999, 3000} {
		s := put(t, mostEpoch, mostSeq, randomText(r, length))
		for at := range len(s) {
			other := changed(s, at, byte(1+r.Intn(255)))
			refused(t, other, 0, errorOf(other, length, at))
		}
	}
}

// What is ahead or behind heals nothing.
func TestGetOfChangedBytesAmongOthers(t *testing.T) {
	r := rand.New(rand.NewSource(8))
	for _, length := range []int{0, 43, 44, 107} {
		s := put(t, 258, 3, randomText(r, length))
		for _, side := range around(r) {
			for at := range len(s) {
				other := changed(s, at, byte(1+r.Intn(255)))
				if at < 13 || at >= 17 {
					refused(t, side+other+side, len(side)/64, errorOf(other, length, at))
				} else {
					compareGet(t, side+other+side, len(side)/64)
				}
			}
		}
	}
}

// A sector's first byte is 1 or 2, as its place asks for, and nothing else.
func TestGetWithOtherFirstBytes(t *testing.T) {
	s := put(t, 258, 3, strings.Repeat("x", 200))
	for at := 0; at < len(s); at += 64 {
		for b := range 256 {
			if byte(b) != s[at] {
				refused(t, s[:at]+string([]byte{byte(b)})+s[at+1:], 0, api.ErrForm)
			}
		}
	}
}

// Each of the bytes 0 behind the sealed ones counts, in a sector that is all but empty and in one that is all but full.
func TestGetWithOneByteOfThePaddingChanged(t *testing.T) {
	for length := range 130 {
		s := put(t, 3, 4, strings.Repeat("x", length))
		text := 16 + length + 4
		for at := len(s) - (63*(len(s)/64) - text); at < len(s); at++ {
			refused(t, changed(s, at, 0x01), 0, api.ErrForm)
			refused(t, changed(s, at, 0x80), 0, api.ErrForm)
			refused(t, changed(s, at, ' ')+s, 0, api.ErrForm)
		}
	}
}

// The sum is right, whatever the epoch is.
func TestGetWithEpochs(t *testing.T) {
	for _, body := range []string{"", "x", strings.Repeat("y", 44)} {
		for _, epoch := range epochs {
			expectGet(t, sectorsWith(uint64(epoch), 3, uint32(len(body)), body), 0, frame.Frame{Epoch: epoch, Seq: 3, Body: body}, countOf(body), api.OK)
		}
		for _, epoch := range noEpochs {
			code := api.ErrArg
			if epoch < 0 {
				code = api.ErrOver
			}
			refused(t, sectorsWith(uint64(epoch), 3, uint32(len(body)), body), 0, code)
		}
		for _, epoch := range []uint64{1 << 63, 1<<63 + 1, 1<<63 + 258, 1<<63 + mostEpoch, 1<<64 - 1} {
			refused(t, sectorsWith(epoch, 3, uint32(len(body)), body), 0, api.ErrOver)
		}
	}
}

// The sum is right, whatever the number is.
func TestGetWithNumbers(t *testing.T) {
	for _, body := range []string{"", "x", strings.Repeat("y", 44)} {
		for _, seq := range seqs {
			expectGet(t, sectorsWith(5, uint32(seq), uint32(len(body)), body), 0, frame.Frame{Epoch: 5, Seq: seq, Body: body}, countOf(body), api.OK)
		}
		for _, seq := range []uint32{0, mostSeq + 1, mostSeq + 2, 1<<24 + 1, 1 << 31, 1<<31 + 1, 1<<32 - mostSeq, 1<<32 - 2, 1<<32 - 1} {
			refused(t, sectorsWith(5, seq, uint32(len(body)), body), 0, api.ErrArg)
		}
	}
}

// The sum is right, whatever the length is.
func TestGetWithLengths(t *testing.T) {
	body := randomText(rand.New(rand.NewSource(9)), 70000)
	for _, length := range []int{mostBody - 1, mostBody} {
		expectGet(t, bytesOf(frame.Frame{Epoch: 5, Seq: 1, Body: body[:length]}), 0, frame.Frame{Epoch: 5, Seq: 1, Body: body[:length]}, 48, api.OK)
	}
	for _, length := range []int{mostBody + 1, mostBody + 2, 4095, 65536 + 2, 70000} {
		refused(t, bytesOf(frame.Frame{Epoch: 5, Seq: 1, Body: body[:length]}), 0, api.ErrBig)
	}
	for _, length := range []uint32{mostBody + 1, mostBody + 2, 65536 + 2, 1<<24 + 2, 1<<31 - 1, 1 << 31, 1<<32 - 20, 1<<32 - 2, 1<<32 - 1} {
		refused(t, sectorsWith(5, 1, length, "hi"), 0, api.ErrBig)
		refused(t, sectorsWith(5, 1, length, body[:mostBody]), 0, api.ErrBig)
	}
	for _, length := range []uint32{44, 106, 107, 256 + 2, mostBody - 1, mostBody} {
		refused(t, sectorsWith(5, 1, length, "hi"), 0, api.ErrShort)
		refused(t, sectorsWith(5, 1, length, "hi")+strings.Repeat("\x00", 64*48), 0, api.ErrForm)
		refused(t, sectorsWith(5, 1, length, "hi")+strings.Repeat("\x02", 64*48), 0, api.ErrSum)
	}
	// As many sectors as there are, but another length than the one that was sealed.
	for _, length := range []uint32{0, 1, 3, 42, 43} {
		refused(t, sectorsWith(5, 1, length, "hi"), 0, api.ErrSum)
	}
}

func TestGetOfSectorsThatAreNoFrame(t *testing.T) {
	refused(t, "", 0, api.ErrShort)
	for n := 1; n < 5; n++ {
		for at := range n {
			refused(t, strings.Repeat("\x00", 64*n), at, api.ErrForm)
			refused(t, strings.Repeat("\x02", 64*n), at, api.ErrForm)
			refused(t, strings.Repeat("\xff", 64*n), at, api.ErrForm)
			refused(t, strings.Repeat("\x01"+strings.Repeat("\x00", 63), n), at, api.ErrArg)
			refused(t, strings.Repeat("\x01", 64*n), at, api.ErrArg)
			refused(t, strings.Repeat("\x01"+strings.Repeat("\xff", 63), n), at, api.ErrOver)
		}
	}
}

// A sum that has its bytes in the other order, lacks the head, counts the marks, or is inverted, is not the sum.
func TestGetWithOtherSums(t *testing.T) {
	for _, body := range []string{"", "x", "goods that come back", strings.Repeat("y", 44)} {
		sealed := sealOf(headOf(5, 1, uint32(len(body))) + body)
		text, sum := sealed[:len(sealed)-4], []byte(sealed[len(sealed)-4:])
		other := slices.Clone(sum)
		slices.Reverse(other)
		refused(t, laid(text+string(other)), 0, api.ErrSum)
		for i := range sum {
			other[i] = ^sum[i]
		}
		refused(t, laid(text+string(other)), 0, api.ErrSum)
		refused(t, laid(text+sealOf(body)[len(body):]), 0, api.ErrSum)
		refused(t, laid(text+sealOf("\x01" + text)[len(text)+1:]), 0, api.ErrSum)
		refused(t, laid(text+"\x00\x00\x00\x00"), 0, api.ErrSum)
		expectGet(t, laid(text+string(sum)), 0, frame.Frame{Epoch: 5, Seq: 1, Body: body}, countOf(body), api.OK)
	}
}

// faults are what can be wrong with a frame's two sectors, in the order in which Get names their errors.
var faults = []struct {
	code api.Errno
	make func(s string) string
}{
	{api.ErrArg, func(s string) string { return s + "x" }},
	{api.ErrShort, func(s string) string { return "" }},
	{api.ErrForm, func(s string) string { return changed(s, 0, 3) }},
	{api.ErrOver, func(s string) string { return changed(s, 1, 0x80) }},
	{api.ErrArg, func(s string) string { return changed(s, 8, 5) }},
	{api.ErrArg, func(s string) string { return changed(s, 12, 7) }},
	{api.ErrBig, func(s string) string { return changed(s, 13, 0x40) }},
	{api.ErrShort, func(s string) string { return s[:64] }},
	{api.ErrForm, func(s string) string { return changed(s, 64, 3) }},
	{api.ErrSum, func(s string) string { return changed(s, 30, 0x20) }},
	{api.ErrForm, func(s string) string { return changed(s, 127, 1) }},
}

// Of all faults at once, in each combination, the first one is told.
func TestWhichErrorOfGetIsFirst(t *testing.T) {
	body := strings.Repeat("h", 60)
	for set := range 1 << len(faults) {
		s, code := put(t, 5, 7, body), api.OK
		for i, fault := range slices.Backward(faults) {
			if set>>i&1 == 1 {
				s, code = fault.make(s), fault.code
			}
		}
		if code != api.OK {
			refused(t, s, 0, code)
			// A place that there is not is told before all else.
			refused(t, s, -1, api.ErrArg)
			refused(t, s, len(s)/64+1, api.ErrArg)
		} else {
			expectGet(t, s, 0, frame.Frame{Epoch: 5, Seq: 7, Body: body}, 2, api.OK)
		}
	}
}

// The limits of the epoch, of the number and of the length are told before sectors are missed.
func TestErrorsOfTheHeadComeBeforeMissingSectors(t *testing.T) {
	for epoch, codes := range map[uint64][4]api.Errno{
		0:             {api.ErrArg, api.ErrArg, api.ErrArg, api.ErrArg},
		mostEpoch + 1: {api.ErrArg, api.ErrArg, api.ErrArg, api.ErrArg},
		1 << 63:       {api.ErrOver, api.ErrOver, api.ErrOver, api.ErrOver},
		1:             {api.ErrShort, api.ErrBig, api.ErrArg, api.ErrArg},
		mostEpoch:     {api.ErrShort, api.ErrBig, api.ErrArg, api.ErrArg},
	} {
		for i, c := range []struct{ seq, length uint32 }{{mostSeq, mostBody}, {mostSeq, mostBody + 1}, {mostSeq + 1, mostBody}, {0, mostBody + 1}} {
			refused(t, sectorsWith(epoch, c.seq, c.length, "hi"), 0, codes[i])
		}
	}
}

// P10.3

func TestScanOfNothing(t *testing.T) {
	for _, epoch := range slices.Concat(epochs, noEpochs) {
		nothing(t, "", epoch)
		for n := 1; n < 4; n++ {
			nothing(t, strings.Repeat("\x00", 64*n), epoch)
			nothing(t, strings.Repeat("\x01", 64*n), epoch)
			nothing(t, strings.Repeat("\xff", 64*n), epoch)
		}
	}
}

func TestScanOfBytesThatAreNotWholeSectors(t *testing.T) {
	s := run(t, 3, "a", strings.Repeat("b", 107), "")
	for to := range len(s) {
		if to%64 != 0 {
			nothing(t, s[:to], 3)
		}
	}
	for n := 1; n < 64; n++ {
		nothing(t, s+strings.Repeat("\x00", n), 3)
		nothing(t, s+s[:n], 3)
		nothing(t, strings.Repeat("x", n), 3)
	}
}

func TestScanOfFramesThatFollowOneAnother(t *testing.T) {
	r := rand.New(rand.NewSource(10))
	for _, epoch := range epochs {
		s, n := "", 0
		var bodies []string
		for _, length := range lengths {
			expectScan(t, s, epoch, bodies, n)
			for _, other := range epochs {
				if other != epoch {
					nothing(t, s, other)
				}
			}
			body := kinds(r, length)[r.Intn(6)]
			s += put(t, epoch, len(bodies)+1, body)
			bodies, n = append(bodies, body), n+countOf(body)
		}
		expectScan(t, s, epoch, bodies, n)
	}
}

// Frames are numbered on, beyond what one byte or two can tell.
func TestScanOfManyFrames(t *testing.T) {
	var s strings.Builder
	want := make([]string, 70000)
	for i := range want {
		want[i] = fmt.Sprint("number ", i+1)
		s.WriteString(put(t, 7, i+1, want[i]))
	}
	if got, to := frame.Scan(s.String(), 7); !slices.Equal(got, want) || to != len(want) {
		t.Errorf("Scan finds %d frames, and %d behind them", len(got), to)
	}
}

// No frame has such an epoch, although there can be sectors that tell it.
func TestScanForEpochsThatNoFrameHas(t *testing.T) {
	s := run(t, 1, "a", "b") + run(t, mostEpoch, "c")
	for _, epoch := range noEpochs {
		nothing(t, s, epoch)
		nothing(t, sectorsWith(uint64(epoch), 1, 1, "a")+sectorsWith(uint64(epoch), 2, 1, "b"), epoch)
	}
}

// parted returns frames of epoch 3 with some numbers, each of which has its number as a body, and of which some have two sectors.
func parted(t *testing.T, seqs ...int) string {
	t.Helper()
	s := ""
	for _, seq := range seqs {
		s += put(t, 3, seq, numbered(seq))
	}
	return s
}

func numbered(seq int) string { return strings.Repeat(fmt.Sprint(seq), 1+seq%3*22) }

// found returns the bodies of the frames 1 to n of parted, and how many sectors they have.
func found(n int) ([]string, int) {
	var bodies []string
	end := 0
	for seq := 1; seq <= n; seq++ {
		bodies = append(bodies, numbered(seq))
		end += countOf(numbered(seq))
	}
	return bodies, end
}

// Only the frames that are there in their order, from 1 on, are found.
func TestScanOfFramesInAnyOrder(t *testing.T) {
	for _, c := range []struct {
		seqs []int
		n    int
	}{
		{[]int{1}, 1}, {[]int{2}, 0}, {[]int{3}, 0}, {[]int{mostSeq}, 0},
		{[]int{1, 2, 3, 4, 5, 6}, 6}, {[]int{2, 1}, 0}, {[]int{1, 3, 2}, 1}, {[]int{6, 5, 4, 3, 2, 1}, 0}, {[]int{1, 2, 4, 3, 5}, 2},
		{[]int{2, 3, 4}, 0}, {[]int{1, 3, 4}, 1}, {[]int{1, 2, 3, 5, 6}, 3},
		{[]int{1, 1}, 1}, {[]int{1, 1, 2, 3}, 1}, {[]int{1, 2, 2, 3}, 2}, {[]int{1, 2, 3, 3}, 3}, {[]int{1, 2, 3, 1, 2, 3}, 3}, {[]int{1, 2, 3, 2}, 3},
		{[]int{1, 2, mostSeq}, 2}, {[]int{1, 257}, 1}, {[]int{257, 1}, 0},
	} {
		bodies, end := found(c.n)
		expectScan(t, parted(t, c.seqs...), 3, bodies, end)
	}
}

func TestScanOfFramesWithAnotherEpochBetween(t *testing.T) {
	for n := range 5 {
		before, rest := parted(t, upTo(1, n)...), parted(t, upTo(n+1, 6)...)
		bodies, end := found(n)
		for _, epoch := range []int{1, 2, 4, 259, 65539, mostEpoch} {
			expectScan(t, before+put(t, epoch, n+1, numbered(n+1))+rest, 3, bodies, end)
			expectScan(t, before+put(t, epoch, n+1, numbered(n+1))+parted(t, upTo(n+2, 6)...), 3, bodies, end)
			if n > 0 {
				nothing(t, before+put(t, epoch, n+1, numbered(n+1)), epoch)
			} else {
				expectScan(t, put(t, epoch, 1, numbered(1))+parted(t, 2), epoch, []string{numbered(1)}, countOf(numbered(1)))
			}
		}
	}
}

func upTo(from, to int) []int {
	var l []int
	for i := from; i <= to; i++ {
		l = append(l, i)
	}
	return l
}

func TestScanOfFramesWithNoFrameBetween(t *testing.T) {
	r := rand.New(rand.NewSource(11))
	for n := range 6 {
		next := put(t, 3, n+1, strings.Repeat("n", 50))
		bodies, end := found(n)
		for _, no := range []string{
			strings.Repeat("\x00", 64), strings.Repeat("\x02", 64), strings.Repeat("\xff", 128), randomText(r, 192), "\x01" + strings.Repeat("\x00", 63),
			next[:64], next[64:], changed(next, 0, 3), changed(next, 20, 1), changed(next, 64, 1), changed(next, 127, 1), changed(next, 65, 1),
			sectorsWith(3, uint32(n+1), 3001, strings.Repeat("x", 3001)), sectorsWith(0, uint32(n+1), 1, "x"), sectorsWith(3, 0, 1, "x"), sectorsWith(1<<63+3, uint32(n+1), 1, "x"),
		} {
			expectScan(t, parted(t, upTo(1, n)...)+no, 3, bodies, end)
			expectScan(t, parted(t, upTo(1, n)...)+no+parted(t, upTo(n+1, 6)...), 3, bodies, end)
		}
	}
}

// Cut behind a sector, the last frame that is there as a whole is the last one that is found.
func TestScanOfFramesCutBehindEachSector(t *testing.T) {
	s := parted(t, upTo(1, 9)...)
	for to := 0; to <= len(s); to += 64 {
		n := 0
		for _, end := found(n + 1); n < 9 && 64*end <= to; _, end = found(n + 1) {
			n++
		}
		bodies, end := found(n)
		expectScan(t, s[:to], 3, bodies, end)
	}
}

// drawn returns a frame: most bodies are short ones.
func drawn(r *rand.Rand) frame.Frame {
	length := r.Intn(200)
	switch r.Intn(20) {
	case 0:
		length = lengths[r.Intn(len(lengths))]
	case 1:
		length = r.Intn(mostBody + 1)
	}
	f := frame.Frame{Epoch: 1 + r.Intn(mostEpoch), Seq: 1 + r.Intn(mostSeq), Body: randomText(r, length)}
	switch r.Intn(4) {
	case 0:
		f.Epoch, f.Seq = epochs[r.Intn(len(epochs))], seqs[r.Intn(len(seqs))]
	case 1:
		f.Epoch, f.Seq = 1+r.Intn(10), 1+r.Intn(10)
	}
	return f
}

// drawnRun returns frames that often, but not always, follow one another, and sectors that are no frame.
func drawnRun(r *rand.Rand) string {
	s, seq := "", 1
	for range r.Intn(12) {
		f := drawn(r)
		f.Epoch, f.Seq = 3, seq
		switch r.Intn(20) {
		case 0:
			f.Epoch += 1 - 2*r.Intn(2)
		case 1:
			f.Seq = 1 + r.Intn(10)
		case 2:
			s += randomText(r, 64)
		}
		bytes := bytesOf(f)
		switch r.Intn(20) {
		case 0:
			bytes = changed(bytes, r.Intn(len(bytes)), byte(1+r.Intn(255)))
		case 1:
			bytes = bytes[64:]
		}
		s, seq = s+bytes, seq+1
	}
	return s
}

func TestScanOfDrawnSectors(t *testing.T) {
	r := rand.New(rand.NewSource(12))
	count := map[int]int{}
	for range 5000 {
		s := drawnRun(r)
		for _, epoch := range []int{2, 3, 4} {
			compareScan(t, s, epoch)
		}
		bodies, to := frame.Scan(s, 3)
		count[min(len(bodies), 4)]++
		if to > len(s)/64 || len(bodies) > to {
			t.Errorf("%d bodies and %d in %d sectors", len(bodies), to, len(s)/64)
		}
	}
	for n := range 5 {
		if count[n] < 200 {
			t.Errorf("%d frames are found only %d times", n, count[n])
		}
	}
}

// P10.4

func TestDrawnFramesComeBack(t *testing.T) {
	r := rand.New(rand.NewSource(13))
	for range 10000 {
		f := drawn(r)
		comparePut(t, f)
		s := put(t, f.Epoch, f.Seq, f.Body)
		if len(s) != 64*frame.Sectors(f.Body) {
			t.Errorf("%s has %d bytes, %d sectors", brief(f), len(s), frame.Sectors(f.Body))
		}
		ahead, behind := randomText(r, 64*r.Intn(4)), randomText(r, 64*r.Intn(4))
		expectGet(t, ahead+s+behind, len(ahead)/64, f, len(ahead+s)/64, api.OK)
	}
}

// drawnSectors returns sectors, of which often, but not always, the one at a place begins a frame.
func drawnSectors(r *rand.Rand) (string, int) {
	f := drawn(r)
	epoch, seq, length := uint64(f.Epoch), uint32(f.Seq), uint32(len(f.Body))
	switch r.Intn(14) {
	case 0:
		epoch = uint64(noEpochs[r.Intn(len(noEpochs))])
	case 1:
		epoch = r.Uint64()
	case 2:
		seq = uint32(noSeqs[r.Intn(len(noSeqs))])
	case 3:
		length += uint32(r.Intn(7)) - 3
	case 4:
		length = r.Uint32() >> r.Intn(32)
	case 5:
		length = uint32(r.Intn(200))
	}
	s := sectorsWith(epoch, seq, length, f.Body)
	switch r.Intn(8) {
	case 0:
		s = changed(s, r.Intn(len(s)), byte(1+r.Intn(255)))
	case 1:
		s = changed(s, r.Intn(20), 1<<r.Intn(8))
	case 2:
		s = changed(s, 64*r.Intn(len(s)/64), byte(1+r.Intn(255)))
	case 3:
		s = s[:64*r.Intn(len(s)/64)]
	case 4:
		s = changed(s, len(s)-1-r.Intn(20), 1<<r.Intn(8))
	}
	ahead := randomText(r, 64*r.Intn(3))
	return ahead + s + randomText(r, 64*r.Intn(3)*r.Intn(2)), len(ahead) / 64
}

func TestWhatGetAcceptsIsWhatPutReturns(t *testing.T) {
	r := rand.New(rand.NewSource(14))
	count := map[api.Errno]int{}
	for range 50000 {
		s, at := drawnSectors(r)
		compareGet(t, s, at)
		f, to, e := frame.Get(s, at)
		count[e]++
		if e != api.OK {
			continue
		}
		bytes, e := frame.Put(f)
		if e != api.OK || bytes != s[64*at:64*to] || to-at != frame.Sectors(f.Body) {
			t.Errorf("Get accepts %s at %d up to %d, of which Put returns %s, %d", short(s), at, to, short(bytes), int(e))
		}
	}
	for _, code := range []api.Errno{api.OK, api.ErrOver, api.ErrArg, api.ErrBig, api.ErrShort, api.ErrSum, api.ErrForm} {
		if count[code] < 500 {
			t.Errorf("Get of the drawn sectors gives the error %d only %d times", int(code), count[code])
		}
	}
}

// All sectors that differ from a frame's in two places are no frame's.
func TestGetWithTwoBytesChanged(t *testing.T) {
	r := rand.New(rand.NewSource(15))
	s := put(t, 258, 3, randomText(r, 60))
	for i := range len(s) {
		for j := range i {
			other := changed(changed(s, i, byte(1+r.Intn(255))), j, byte(1+r.Intn(255)))
			compareGet(t, other, 0)
			if f, _, e := frame.Get(other, 0); e == api.OK {
				t.Errorf("with the bytes %d and %d changed it is %s", i, j, brief(f))
			}
		}
	}
}

// P10.5

// apart checks that no sector of a frame begins a frame, except its first one, whatever follows them.
func apart(t *testing.T, body string, behind ...string) {
	t.Helper()
	s := put(t, 3, 1, body)
	for _, rest := range append(behind, "") {
		for at := 1; at < len(s)/64; at++ {
			if f, to, e := frame.Get(s+rest, at); f != (frame.Frame{}) || to != 0 || e != api.ErrForm {
				t.Errorf("sector %d of the frame of %.40q begins %s, %d, %d", at, body, brief(f), to, int(e))
			}
			if l, to := frame.Scan(s[64*at:]+rest, 3); len(l) != 0 || to != 0 {
				t.Errorf("from sector %d of the frame of %.40q on there are %d frames", at, body, len(l))
			}
		}
	}
}

// A body can hold whole frames, at each place of its sectors.
func TestBodiesThatHoldFrames(t *testing.T) {
	for _, inner := range []string{run(t, 3, ""), run(t, 3, "inner"), run(t, 3, strings.Repeat("i", 107)), run(t, 3, "a", "b", strings.Repeat("c", 44))} {
		for n := range 130 {
			for _, fill := range []string{"\x00", "\x01", "\x02"} {
				apart(t, strings.Repeat(fill, n)+inner, inner, strings.Repeat("\x00", 64))
			}
		}
	}
	// A frame in a frame in a frame.
	body := "innermost"
	for range 20 {
		body = strings.Repeat("x", len(body)%7) + put(t, 3, 1, body)
		apart(t, body, put(t, 3, 1, ""))
	}
}

// As if the pieces of a body were themselves sectors: wherever a piece begins, the body holds what could be one.
func TestBodiesOfWhichEachPieceCouldBeASector(t *testing.T) {
	head := headOf(3, 1, 0)
	for n := range 63 {
		piece := strings.Repeat("\x01", n) + sealOf(head) + strings.Repeat("\x00", 63)
		for shift := range 63 {
			apart(t, strings.Repeat("\x01", shift)+strings.Repeat(piece[:63], 4))
		}
	}
}

func TestBodiesWithBytes1And2AtEachPlace(t *testing.T) {
	for n := range 200 {
		for _, b := range []string{"\x01", "\x02"} {
			body := strings.Repeat("\x00", n) + b + strings.Repeat("\x00", 199-n)
			apart(t, body)
			expectGet(t, put(t, 3, 1, body), 0, frame.Frame{Epoch: 3, Seq: 1, Body: body}, 4, api.OK)
			other := strings.Repeat("\x01", n) + "\x02" + strings.Repeat("\x01", 199-n)
			apart(t, other, put(t, 3, 1, other))
			expectGet(t, put(t, 3, 1, other), 0, frame.Frame{Epoch: 3, Seq: 1, Body: other}, 4, api.OK)
		}
	}
}

func TestDrawnBodiesAreApart(t *testing.T) {
	r := rand.New(rand.NewSource(16))
	for range 3000 {
		f := drawn(r)
		apart(t, f.Body, randomText(r, 64), put(t, 3, 2, "next"))
		inner := drawnRun(r)
		apart(t, randomText(r, r.Intn(70))+inner[:min(len(inner), 2900)])
	}
}

// P10.6

// grown checks that the next frame is found as well, if it is written where those that Scan finds end: over what was there, or with nothing behind it.
func grown(t *testing.T, s string, epoch int, body string) {
	t.Helper()
	before, end := frame.Scan(s, epoch)
	next := put(t, epoch, len(before)+1, body)
	expectScan(t, s[:64*end]+next, epoch, append(slices.Clone(before), body), end+countOf(body))
	whole := s[:64*end] + next
	if len(whole) < len(s) {
		whole += s[len(whole):]
	}
	compareScan(t, whole, epoch)
	after, to := frame.Scan(whole, epoch)
	if len(after) <= len(before) || !slices.Equal(after[:len(before)], before) || after[len(before)] != body || to < end+countOf(body) {
		t.Errorf("behind %d frames in %d sectors a frame of %d bytes was written: Scan finds %d frames in %d sectors", len(before), end, len(body), len(after), to)
	}
}

func TestTheNextFrameIsFoundAsWell(t *testing.T) {
	r := rand.New(rand.NewSource(17))
	for range 4000 {
		s, body := drawnRun(r), drawn(r).Body
		for _, epoch := range []int{2, 3, 4} {
			grown(t, s, epoch, body)
		}
		// What is there can be anything.
		grown(t, randomText(r, 64*r.Intn(8)), 1+r.Intn(mostEpoch), body)
	}
}

// A journal that is written anew, epoch by epoch, over the frames of the epoch before.
func TestFramesOverThoseOfAnotherEpoch(t *testing.T) {
	r := rand.New(rand.NewSource(18))
	area := strings.Repeat("\x00", 64*60)
	for epoch := 1; epoch <= 60; epoch++ {
		nothing(t, area, epoch)
		var bodies []string
		end := 0
		for {
			body := drawn(r).Body
			if end+countOf(body) > 60 {
				break
			}
			bytes := put(t, epoch, len(bodies)+1, body)
			area = area[:64*end] + bytes + area[64*end+len(bytes):]
			bodies, end = append(bodies, body), end+countOf(body)
			expectScan(t, area, epoch, bodies, end)
		}
	}
}

// The general rules

// within reports whether a text lies in the memory of another one.
func within(text, whole string) bool {
	from := uintptr(unsafe.Pointer(unsafe.StringData(whole)))
	at := uintptr(unsafe.Pointer(unsafe.StringData(text)))
	return len(text) > 0 && from <= at && at < from+uintptr(len(whole))
}

func TestTextsAreNew(t *testing.T) {
	r := rand.New(rand.NewSource(19))
	for _, length := range []int{1, 2, 43, 44, 1000, mostBody} {
		body := randomText(r, length)
		s := put(t, 5, 1, body)
		f, _, e := frame.Get(s, 0)
		if e != api.OK {
			t.Fatal(int(e))
		}
		l, _ := frame.Scan(s+put(t, 5, 2, body), 5)
		if len(l) != 2 {
			t.Fatalf("%d frames are found", len(l))
		}
		if within(body, s) || within(s, body) || within(f.Body, s) || within(f.Body, body) || within(l[0], s) || within(l[0], l[1]) {
			t.Errorf("a result lies in its argument of %d bytes", length)
		}
	}
}

// A list that has been changed does not change what another call returns.
func TestListsAreNew(t *testing.T) {
	s := run(t, 5, "a", "b", "c")
	for range 3 {
		l, _ := frame.Scan(s, 5)
		if !slices.Equal(l, []string{"a", "b", "c"}) {
			t.Fatalf("the frames are %q", l)
		}
		l[0], l[2] = "changed", ""
		_ = append(l, "more")
	}
}

func TestCallsDoNotDependOnWhatWasCalledBefore(t *testing.T) {
	s := run(t, 5, "a", strings.Repeat("b", 107), "c")
	for range 3 {
		comparePut(t, frame.Frame{Epoch: 5, Seq: 1, Body: "a"})
		comparePut(t, frame.Frame{Body: "a"})
		for at := -1; at < 8; at++ {
			compareGet(t, s, at)
		}
		compareScan(t, s, 5)
		compareScan(t, s, 4)
		compareScan(t, s[64:], 5)
		compareScan(t, s[:128], 5)
		compareGet(t, "", 0)
	}
}

func TestCallsAtTheSameTime(t *testing.T) {
	r := rand.New(rand.NewSource(20))
	var all sync.WaitGroup
	for range 8 {
		f, s := drawn(r), drawnRun(r)
		all.Go(func() {
			for range 50 {
				comparePut(t, f)
				for at := range len(s)/64 + 1 {
					compareGet(t, s, at)
				}
				compareScan(t, s, 3)
			}
		})
	}
	all.Wait()
}
