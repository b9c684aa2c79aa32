package slot_test

import (
	"encoding/binary"
	"encoding/hex"
	"fmt"
	"hash/crc32"
	"math"
	"math/rand"
	"slices"
	"strings"
	"sync"
	"testing"
	"unsafe"

	"backhaul/api"
	"backhaul/slot"
)

const (
	// mostGen is the greatest generation, mostText the length of the longest text.
	mostGen  = 1000000000
	mostText = 100000
)

// lengths are those that the chapter or a sector's end makes a limit, and their neighbours.
var lengths = []int{
	0, 1, 2, 15, 16, 47, 48, 49, 63, 64, 65, 111, 112, 113, 176, 177, 255, 256, 257, 1000, 65535, 65536, 65537,
	99951, 99952, 99953, 99999, 100000,
}

// gens are the least generations and the greatest ones, and others that differ in each of the bytes that are not always 0.
var gens = []int{1, 2, 3, 4, 5, 127, 128, 255, 256, 258, 65535, 65536, 1<<24 - 1, 1 << 24, 1<<29 + 258, mostGen - 1, mostGen}

// wrong are generations that no snapshot has, many of which have one in their last bits.
var wrong = []int{
	math.MinInt, math.MinInt + 1, -1<<62 + 1, -1 << 32, 1 - 1<<32, math.MinInt32, -mostGen, -256, -2, -1, 0,
	mostGen + 1, mostGen + 2, math.MaxInt32, 1 << 31, 1<<32 - 1, 1 << 32, 1<<32 + 1, 1<<40 + 1, 1<<56 + 1, 1 << 62, math.MaxInt - 1, math.MaxInt,
}

// sealOf is the definition of what is sealed, with the library's checksum.
func sealOf(s string) string {
	sum := crc32.Checksum([]byte(s), crc32.MakeTable(crc32.Castagnoli))
	return string(binary.LittleEndian.AppendUint32([]byte(s), sum))
}

// sealedWith returns what is sealed for a generation, a length and a text, be they as they may.
func sealedWith(gen uint64, length uint32, text string) string {
	head := binary.BigEndian.AppendUint64(nil, gen)
	return sealOf(string(binary.BigEndian.AppendUint32(head, length)) + text)
}

// filled returns bytes, and bytes 0 up to whole sectors.
func filled(s string) string {
	for len(s)%64 != 0 {
		s += "\x00"
	}
	return s
}

// bytesOf is the definition of a snapshot's bytes, for any number as a generation and for any text.
func bytesOf(gen uint64, text string) string {
	return filled(sealedWith(gen, uint32(len(text)), text))
}

// sectorsOf is the definition of Sectors.
func sectorsOf(text string) int {
	n := 0
	for left := 8 + 4 + len(text) + 4; left > 0; left -= 64 {
		n++
	}
	return n
}

// putOf is the definition of Put.
func putOf(s slot.Snap) (string, api.Errno) {
	if s.Gen <= 0 || s.Gen >= mostGen+1 {
		return "", api.ErrArg
	}
	if len(s.Text) >= mostText+1 {
		return "", api.ErrBig
	}
	return bytesOf(uint64(s.Gen), s.Text), api.OK
}

// getOf is the definition of Get.
func getOf(s string) (slot.Snap, api.Errno) {
	if len(s) < 16 {
		return slot.Snap{}, api.ErrShort
	}
	gen := binary.BigEndian.Uint64([]byte(s))
	length := uint64(binary.BigEndian.Uint32([]byte(s[8:])))
	switch {
	case gen > math.MaxInt:
		return slot.Snap{}, api.ErrOver
	case gen == 0 || gen > mostGen:
		return slot.Snap{}, api.ErrArg
	case length > mostText:
		return slot.Snap{}, api.ErrBig
	}
	sealed := 12 + int(length) + 4
	whole := sealed
	for whole%64 != 0 {
		whole++
	}
	if len(s) < whole {
		return slot.Snap{}, api.ErrShort
	}
	text := s[12 : 12+length]
	if s[:sealed] != sealOf(s[:12]+text) {
		return slot.Snap{}, api.ErrSum
	}
	if s[sealed:whole] != strings.Repeat("\x00", whole-sealed) {
		return slot.Snap{}, api.ErrForm
	}
	return slot.Snap{Gen: int(gen), Text: text}, api.OK
}

// chooseOf is the definition of Choose.
func chooseOf(a, b string) (slot.Snap, int) {
	first, e := getOf(a)
	second, e2 := getOf(b)
	switch {
	case e != api.OK && e2 != api.OK:
		return slot.Snap{}, -1
	case e != api.OK:
		return second, 1
	case e2 != api.OK:
		return first, 0
	case second.Gen > first.Gen:
		return second, 1
	}
	return first, 0
}

// nextOf is the definition of Next.
func nextOf(a, b string) (int, int) {
	s, at := chooseOf(a, b)
	other := map[int]int{0: 1, 1: 0}[at]
	switch {
	case at == -1:
		return 1, 0
	case s.Gen == mostGen:
		return 0, other
	}
	return s.Gen + 1, other
}

// brief tells a snapshot, but of a long text only its beginning.
func brief(s slot.Snap) string {
	return fmt.Sprintf("{%d, %.40q of %d bytes}", s.Gen, s.Text, len(s.Text))
}

// short tells bytes, but of many only the first ones and the last ones.
func short(s string) string {
	if len(s) <= 192 {
		return fmt.Sprintf("% x (%d bytes)", s, len(s))
	}
	return fmt.Sprintf("% x .. % x (%d bytes)", s[:80], s[len(s)-80:], len(s))
}

// put returns the bytes of a snapshot that there is.
func put(t *testing.T, gen int, text string) string {
	t.Helper()
	s, e := slot.Put(slot.Snap{Gen: gen, Text: text})
	if e != api.OK {
		t.Fatalf("Put(%s): %d", brief(slot.Snap{Gen: gen, Text: text}), int(e))
	}
	return s
}

func comparePut(t *testing.T, s slot.Snap) {
	t.Helper()
	want, code := putOf(s)
	if got, e := slot.Put(s); got != want || e != code {
		t.Errorf("Put(%s) = %s, %d, want %s, %d", brief(s), short(got), int(e), short(want), int(code))
	}
	if got, want := slot.Sectors(s.Text), sectorsOf(s.Text); got != want {
		t.Errorf("Sectors of %d bytes = %d, want %d", len(s.Text), got, want)
	}
}

// expectGet checks what Get returns, by the words of the test, and the definition too.
func expectGet(t *testing.T, s string, want slot.Snap, code api.Errno) {
	t.Helper()
	if got, e := getOf(s); got != want || e != code {
		t.Fatalf("the definition of Get of %s returns %s, %d, want %s, %d", short(s), brief(got), int(e), brief(want), int(code))
	}
	compareGet(t, s)
}

// refused checks that Get returns an error, and nothing beside it.
func refused(t *testing.T, s string, code api.Errno) {
	t.Helper()
	expectGet(t, s, slot.Snap{}, code)
}

func compareGet(t *testing.T, s string) {
	t.Helper()
	want, code := getOf(s)
	if got, e := slot.Get(s); got != want || e != code {
		t.Errorf("Get(%s) = %s, %d, want %s, %d", short(s), brief(got), int(e), brief(want), int(code))
	}
}

// expectChoose checks what Choose returns, by the words of the test, and Choose and Next by their definitions.
func expectChoose(t *testing.T, a, b string, want slot.Snap, at int) {
	t.Helper()
	if got, n := slot.Choose(a, b); got != want || n != at {
		t.Errorf("Choose(%s, %s) = %s, %d, want %s, %d", short(a), short(b), brief(got), n, brief(want), at)
	}
	compareChoose(t, a, b)
}

func expectNext(t *testing.T, a, b string, gen, at int) {
	t.Helper()
	if g, n := slot.Next(a, b); g != gen || n != at {
		t.Errorf("Next(%s, %s) = %d, %d, want %d, %d", short(a), short(b), g, n, gen, at)
	}
	compareChoose(t, a, b)
}

func compareChoose(t *testing.T, a, b string) {
	t.Helper()
	want, at := chooseOf(a, b)
	if got, n := slot.Choose(a, b); got != want || n != at {
		t.Errorf("Choose(%s, %s) = %s, %d, want %s, %d", short(a), short(b), brief(got), n, brief(want), at)
	}
	gen, to := nextOf(a, b)
	if g, n := slot.Next(a, b); g != gen || n != to {
		t.Errorf("Next(%s, %s) = %d, %d, want %d, %d", short(a), short(b), g, n, gen, to)
	}
}

func randomText(r *rand.Rand, length int) string {
	b := make([]byte, length)
	r.Read(b)
	return string(b)
}

// kinds returns texts of a length: of bytes 0, of bytes ff, of random bytes, and of runes of more than one byte, as far as they go.
func kinds(r *rand.Rand, length int) []string {
	return []string{
		strings.Repeat("\x00", length),
		strings.Repeat("\xff", length),
		randomText(r, length),
		strings.Repeat("ü", length/2) + strings.Repeat("u", length%2),
	}
}

// changed returns bytes of which one is combined with a mask.
func changed(s string, at int, mask byte) string {
	b := []byte(s)
	b[at] ^= mask
	return string(b)
}

// behind is what can follow a snapshot's sectors.
func behind(r *rand.Rand) []string {
	return []string{
		"", "\x00", "x", "\xff", strings.Repeat("\x00", 64), strings.Repeat("\xff", 63), randomText(r, 200),
		bytesOf(1, ""), bytesOf(9, "another one"), bytesOf(mostGen, strings.Repeat("z", 300)),
	}
}

// The examples

func TestExamples(t *testing.T) {
	for length, want := range map[int]int{0: 1, 48: 1, 49: 2} {
		if got := slot.Sectors(strings.Repeat("x", length)); got != want {
			t.Errorf("Sectors of %d bytes = %d, want %d", length, got, want)
		}
	}
	refused(t, strings.Repeat("\x00", 64), api.ErrArg)
	a, b := put(t, 4, "the fourth"), put(t, 5, "the fifth")
	expectChoose(t, a, b, slot.Snap{Gen: 5, Text: "the fifth"}, 1)
	expectNext(t, a, b, 6, 0)
}

// The bytes of some snapshots, written out: they hold Put and its definition.
func TestPutOfSomeSnapshots(t *testing.T) {
	for _, x := range []struct {
		gen      int
		text     string
		head     string
		sum      string
		whole, n int
	}{
		{1, "", "0000000000000001" + "00000000", "f1da7113", 64, 1},
		{4, "hi", "0000000000000004" + "00000002", "3d0e1898", 64, 1},
		{258, strings.Repeat("x", 48), "0000000000000102" + "00000030", "78c96b98", 64, 1},
		{258, strings.Repeat("x", 49), "0000000000000102" + "00000031", "d1ce19b3", 128, 2},
		{mostGen, "goods that come back", "000000003b9aca00" + "00000014", "56a18016", 64, 1},
	} {
		head, err := hex.DecodeString(x.head)
		if err != nil {
			t.Fatal(err)
		}
		sum, err := hex.DecodeString(x.sum)
		if err != nil {
			t.Fatal(err)
		}
		want := string(head) + x.text + string(sum)
		want += strings.Repeat("\x00", x.whole-len(want))
		s := slot.Snap{Gen: x.gen, Text: x.text}
		if got, e := slot.Put(s); got != want || e != api.OK {
			t.Errorf("Put(%s) = %s, %d, want %s", brief(s), short(got), int(e), short(want))
		}
		comparePut(t, s)
		expectGet(t, want, s, api.OK)
		if got := slot.Sectors(x.text); got != x.n {
			t.Errorf("Sectors of %d bytes = %d, want %d", len(x.text), got, x.n)
		}
	}
}

// P9.1

func TestSectorsAtLimits(t *testing.T) {
	for length, want := range map[int]int{
		0: 1, 1: 1, 47: 1, 48: 1, 49: 2, 111: 2, 112: 2, 113: 3, 176: 3, 177: 4,
		99951: 1562, 99952: 1562, 99953: 1563, 99999: 1563, 100000: 1563,
		// No snapshot has such a text: the number is the one that its bytes would have.
		100001: 1563, 100016: 1563, 100017: 1564, 200000: 3126,
	} {
		if got := slot.Sectors(strings.Repeat("x", length)); got != want {
			t.Errorf("Sectors of %d bytes = %d, want %d", length, got, want)
		}
	}
}

func TestSectorsOfEachLength(t *testing.T) {
	text := strings.Repeat("x", mostText)
	for length := range 3000 {
		for _, part := range []string{text[:length], text[:mostText-length]} {
			if got, want := slot.Sectors(part), sectorsOf(part); got != want {
				t.Errorf("Sectors of %d bytes = %d, want %d", len(part), got, want)
			}
		}
	}
}

// It is bytes that count, not runes, and any bytes count alike.
func TestSectorsOfAnyBytes(t *testing.T) {
	r := rand.New(rand.NewSource(1))
	for _, length := range lengths {
		for _, text := range kinds(r, length) {
			if got, want := slot.Sectors(text), sectorsOf(text); got != want {
				t.Errorf("Sectors of %.20q of %d bytes = %d, want %d", text, length, got, want)
			}
		}
	}
}

func TestPutOfTexts(t *testing.T) {
	r := rand.New(rand.NewSource(2))
	for _, length := range lengths {
		for _, text := range kinds(r, length) {
			for _, gen := range []int{1, 258, mostGen} {
				comparePut(t, slot.Snap{Gen: gen, Text: text})
			}
		}
	}
	for length := range 300 {
		comparePut(t, slot.Snap{Gen: 1 + length, Text: randomText(r, length)})
	}
}

func TestPutAtGenerations(t *testing.T) {
	for _, gen := range gens {
		for _, text := range []string{"", "x", "goods", strings.Repeat("y", 49)} {
			if s, e := slot.Put(slot.Snap{Gen: gen, Text: text}); e != api.OK || len(s) != 64*sectorsOf(text) {
				t.Errorf("generation %d: %d bytes, %d", gen, len(s), int(e))
			}
			comparePut(t, slot.Snap{Gen: gen, Text: text})
		}
	}
}

// The error of the generation comes before that of the text.
func TestPutRefuses(t *testing.T) {
	long := strings.Repeat("x", mostText+1)
	for _, gen := range wrong {
		for _, text := range []string{"", "x", long[:mostText], long} {
			expectPutRefused(t, gen, text, api.ErrArg)
		}
	}
	for _, gen := range gens {
		expectPutRefused(t, gen, long, api.ErrBig)
		expectPutRefused(t, gen, long+long, api.ErrBig)
		// A length whose last two bytes, taken alone, are small.
		expectPutRefused(t, gen, strings.Repeat("x", 2*65536+2), api.ErrBig)
	}
}

func expectPutRefused(t *testing.T, gen int, text string, code api.Errno) {
	t.Helper()
	s := slot.Snap{Gen: gen, Text: text}
	if got, e := slot.Put(s); got != "" || e != code {
		t.Errorf("Put(%s) = %s, %d, want %d", brief(s), short(got), int(e), int(code))
	}
	comparePut(t, s)
}

// P9.2

func TestGetOfWhatPutReturns(t *testing.T) {
	r := rand.New(rand.NewSource(3))
	for _, length := range lengths {
		for _, text := range kinds(r, length) {
			for _, gen := range []int{1, 258, mostGen} {
				s := put(t, gen, text)
				for _, rest := range behind(r) {
					expectGet(t, s+rest, slot.Snap{Gen: gen, Text: text}, api.OK)
				}
			}
		}
	}
}

// Cut anywhere, they are fewer than 16 bytes, or fewer than those of the sectors.
func TestGetOfCutBytes(t *testing.T) {
	r := rand.New(rand.NewSource(4))
	for _, length := range lengths {
		s := put(t, gens[length%len(gens)], randomText(r, length))
		for to := range len(s) {
			if got, e := slot.Get(s[:to]); got != (slot.Snap{}) || e != api.ErrShort {
				t.Errorf("Get of %d of %d bytes = %s, %d, want %d", to, len(s), brief(got), int(e), int(api.ErrShort))
			}
		}
		for _, to := range []int{0, 1, 15, 16, 17, 63, len(s) - 64, len(s) - 1} {
			refused(t, s[:to], api.ErrShort)
		}
	}
}

// The bytes 0 up to whole sectors belong to the snapshot: its sealed bytes alone are too few.
func TestGetOfSealedBytesAlone(t *testing.T) {
	for length := range 200 {
		text := strings.Repeat("x", length)
		s := sealedWith(7, uint32(length), text)
		if len(s)%64 == 0 {
			expectGet(t, s, slot.Snap{Gen: 7, Text: text}, api.OK)
		} else {
			refused(t, s, api.ErrShort)
		}
	}
}

// errorOf returns the error of a snapshot's bytes of which one has been changed, by the field in which it stands.
func errorOf(s string, length, at int) api.Errno {
	gen := binary.BigEndian.Uint64([]byte(s))
	now := int(binary.BigEndian.Uint32([]byte(s[8:])))
	switch {
	case at < 8 && gen > math.MaxInt:
		return api.ErrOver
	case at < 8 && (gen < 1 || gen > mostGen):
		return api.ErrArg
	case at < 8:
		return api.ErrSum
	case at < 12 && now > mostText:
		return api.ErrBig
	case at < 12 && 64*sectorsOf(strings.Repeat("x", now)) > len(s):
		return api.ErrShort
	case at < 12, at < 12+length+4:
		return api.ErrSum
	}
	return api.ErrForm
}

func TestGetWithEachByteChanged(t *testing.T) {
	r := rand.New(rand.NewSource(5))
	count := map[api.Errno]int{}
	for _, length := range []int{0, 1, 47, 48, 49, 112, 113} {
		for _, gen := range []int{1, 258, mostGen} {
			s := put(t, gen, randomText(r, length))
			for at := range len(s) {
				for mask := 1; mask < 256; mask++ {
					other := changed(s, at, byte(mask))
					code := errorOf(other, length, at)
					refused(t, other, code)
					count[code]++
				}
			}
		}
	}
	for _, code := range []api.Errno{api.ErrOver, api.ErrArg, api.ErrBig, api.ErrShort, api.ErrSum, api.ErrForm} {
		if count[code] < 100 {
			t.Errorf("only %d of the changes give the error %d", count[code], int(code))
		}
	}
}

func TestGetOfLongTextsWithAByteChanged(t *testing.T) {
	r := rand.New(rand.NewSource(6))
	for _, length := range []int{99952, 99953, 99999, 100000} {
		s := put(t, mostGen, randomText(r, length))
		places := []int{12, 13, length/2 + 12, 12 + length - 1}
		for at := range 12 {
			places = append(places, at)
		}
		for at := 12 + length; at < len(s); at++ {
			places = append(places, at)
		}
		for range 100 {
			places = append(places, 12+r.Intn(length))
		}
		for _, at := range places {
			other := changed(s, at, byte(1+r.Intn(255)))
			refused(t, other, errorOf(other, length, at))
		}
	}
}

// What follows the sectors heals nothing.
func TestGetOfChangedBytesWithMoreBehind(t *testing.T) {
	r := rand.New(rand.NewSource(7))
	for _, length := range []int{0, 48, 49, 113} {
		s := put(t, 258, randomText(r, length))
		for _, rest := range behind(r) {
			for at := range len(s) {
				if at < 8 || at >= 12 {
					other := changed(s, at, byte(1+r.Intn(255)))
					refused(t, other+rest, errorOf(other, length, at))
				}
				compareGet(t, changed(s+rest, at, byte(1+r.Intn(255))))
			}
		}
	}
}

// Each of the bytes 0 behind the sealed ones counts, in a sector that is all but empty and in one that is all but full.
func TestGetWithOneByteOfThePaddingChanged(t *testing.T) {
	for length := range 130 {
		text := strings.Repeat("x", length)
		s := put(t, 3, text)
		for at := 16 + length; at < len(s); at++ {
			refused(t, changed(s, at, 0x01), api.ErrForm)
			refused(t, changed(s, at, 0x80), api.ErrForm)
			refused(t, changed(s, at, ' ')+"x", api.ErrForm)
		}
		expectGet(t, s+"x", slot.Snap{Gen: 3, Text: text}, api.OK)
	}
}

// The sum is right, whatever the generation is.
func TestGetWithGenerations(t *testing.T) {
	for _, text := range []string{"", "x", strings.Repeat("y", 49)} {
		for _, gen := range gens {
			expectGet(t, bytesOf(uint64(gen), text), slot.Snap{Gen: gen, Text: text}, api.OK)
		}
		for _, gen := range wrong {
			if gen >= 0 {
				refused(t, bytesOf(uint64(gen), text), api.ErrArg)
			}
		}
		for _, gen := range []uint64{1 << 63, 1<<63 + 1, 1<<63 + 258, 1<<63 + mostGen, 1<<64 - mostGen, 1<<64 - 2, 1<<64 - 1} {
			refused(t, bytesOf(gen, text), api.ErrOver)
		}
	}
}

// The sum is right, whatever the length is.
func TestGetWithLengths(t *testing.T) {
	text := randomText(rand.New(rand.NewSource(8)), 200000)
	for _, length := range []int{mostText - 1, mostText} {
		expectGet(t, bytesOf(5, text[:length]), slot.Snap{Gen: 5, Text: text[:length]}, api.OK)
	}
	for _, length := range []int{mostText + 1, mostText + 2, 2*65536 + 2, 200000} {
		refused(t, bytesOf(5, text[:length]), api.ErrBig)
	}
	for _, length := range []uint32{mostText + 1, 2*65536 + 2, 1<<24 + 2, 1<<31 - 1, 1 << 31, 1<<32 - 65536, 1<<32 - 16, 1<<32 - 2, 1<<32 - 1} {
		refused(t, filled(sealedWith(5, length, "hi")), api.ErrBig)
	}
	for _, length := range []uint32{49, 113, 65536 + 2, mostText} {
		refused(t, filled(sealedWith(5, length, "hi")), api.ErrShort)
	}
	// As many sectors as there are, but another length than the one that was sealed.
	for _, length := range []uint32{0, 1, 3, 47, 48} {
		refused(t, filled(sealedWith(5, length, "hi")), api.ErrSum)
	}
}

// Fewer bytes than the head and the sum have are too few, whatever they are; 16 bytes have a head.
func TestGetOfFewBytes(t *testing.T) {
	for n := range 16 {
		for _, s := range []string{strings.Repeat("\x00", n), strings.Repeat("\xff", n), strings.Repeat("\x00\x01", n)[:n], bytesOf(1, "")[:n]} {
			refused(t, s, api.ErrShort)
		}
	}
	refused(t, strings.Repeat("\x00", 16), api.ErrArg)
	refused(t, strings.Repeat("\xff", 16), api.ErrOver)
	refused(t, bytesOf(1, "")[:16], api.ErrShort)
}

func TestGetOfBytesThatAreNoSnapshot(t *testing.T) {
	refused(t, "", api.ErrShort)
	for n := 16; n < 200; n++ {
		refused(t, strings.Repeat("\x00", n), api.ErrArg)
		refused(t, strings.Repeat("\xff", n), api.ErrOver)
		refused(t, strings.Repeat("x", n), api.ErrArg)
	}
	// A snapshot counts only where the bytes begin.
	for _, ahead := range []string{"\x00", "x", strings.Repeat("\x00", 64)} {
		refused(t, ahead+bytesOf(3, "a text"), api.ErrArg)
	}
}

// A sum that has its bytes in the other order, lacks the head, or is inverted, is not the sum.
func TestGetWithOtherSums(t *testing.T) {
	for _, text := range []string{"", "x", "goods that come back"} {
		sealed := sealedWith(5, uint32(len(text)), text)
		head, sum := sealed[:len(sealed)-4], []byte(sealed[len(sealed)-4:])
		other := slices.Clone(sum)
		slices.Reverse(other)
		refused(t, filled(head+string(other)), api.ErrSum)
		for i := range sum {
			other[i] = ^sum[i]
		}
		refused(t, filled(head+string(other)), api.ErrSum)
		refused(t, filled(head+sealOf(text)[len(text):]), api.ErrSum)
		refused(t, filled(head+"\x00\x00\x00\x00"), api.ErrSum)
		expectGet(t, filled(head+string(sum)), slot.Snap{Gen: 5, Text: text}, api.OK)
	}
}

// faults are what can be wrong with a snapshot's bytes, in the order in which Get names their errors.
var faults = []struct {
	code api.Errno
	make func(s string) string
}{
	{api.ErrShort, func(s string) string { return s[:15] }},
	{api.ErrOver, func(s string) string { return changed(s, 0, 0x80) }},
	{api.ErrArg, func(s string) string { return changed(s, 7, 5) }},
	{api.ErrBig, func(s string) string { return changed(s, 8, 0x40) }},
	{api.ErrShort, func(s string) string { return s[:63] }},
	{api.ErrSum, func(s string) string { return changed(s, 13, 0x20) }},
	{api.ErrForm, func(s string) string { return changed(s, 30, 1) }},
}

// Of all faults at once, in each combination, the first one is told.
func TestWhichErrorOfGetIsFirst(t *testing.T) {
	for set := range 1 << len(faults) {
		s, code := put(t, 5, "hi"), api.OK
		for i, fault := range slices.Backward(faults) {
			if set>>i&1 == 1 {
				s, code = fault.make(s), fault.code
			}
		}
		want := slot.Snap{}
		if code == api.OK {
			want = slot.Snap{Gen: 5, Text: "hi"}
		}
		expectGet(t, s, want, code)
	}
}

// The limits of the generation and of the length are told before bytes are missed.
func TestErrorsOfTheHeadComeBeforeMissingBytes(t *testing.T) {
	for gen, codes := range map[uint64][2]api.Errno{
		0:           {api.ErrArg, api.ErrArg},
		mostGen + 1: {api.ErrArg, api.ErrArg},
		1 << 63:     {api.ErrOver, api.ErrOver},
		1:           {api.ErrShort, api.ErrBig},
		mostGen:     {api.ErrShort, api.ErrBig},
	} {
		for i, length := range []uint32{mostText, mostText + 1} {
			for _, n := range []int{16, 17, 63, 64} {
				refused(t, filled(sealedWith(gen, length, "hi"))[:n], codes[i])
			}
		}
	}
}

// P9.3

// nothing are bytes that hold no snapshot, each of them for another reason.
func nothing() map[string]string {
	s := bytesOf(9, "the ninth")
	return map[string]string{
		"no bytes":             "",
		"too few bytes":        s[:15],
		"bytes 0":              strings.Repeat("\x00", 64),
		"bytes ff":             strings.Repeat("\xff", 640),
		"no int":               bytesOf(1<<63, "the ninth"),
		"the generation 0":     bytesOf(0, "the ninth"),
		"too great":            bytesOf(mostGen+1, "the ninth"),
		"too long":             bytesOf(9, strings.Repeat("x", mostText+1)),
		"a byte too few":       s[:63],
		"another byte of text": changed(s, 14, 1),
		"another sum":          changed(s, 12+9, 1),
		"another byte behind":  changed(s, 63, 1),
		"a sector ahead":       strings.Repeat("\x00", 64) + s,
	}
}

func TestChooseWhereThereIsNone(t *testing.T) {
	none := nothing()
	for _, a := range none {
		for _, b := range none {
			expectChoose(t, a, b, slot.Snap{}, -1)
			expectNext(t, a, b, 1, 0)
		}
	}
}

func TestChooseWhereThereIsOne(t *testing.T) {
	none := nothing()
	for _, gen := range gens {
		for _, text := range []string{"", "alone", strings.Repeat("x", 49)} {
			s, next := put(t, gen, text), gen+1
			if gen == mostGen {
				next = 0
			}
			for _, other := range none {
				expectChoose(t, s, other, slot.Snap{Gen: gen, Text: text}, 0)
				expectNext(t, s, other, next, 1)
				expectChoose(t, other, s, slot.Snap{Gen: gen, Text: text}, 1)
				expectNext(t, other, s, next, 0)
			}
		}
	}
}

// Each generation meets each other one, and itself with the same text and with another one.
func TestChooseWhereThereAreBoth(t *testing.T) {
	for _, first := range gens {
		for _, second := range gens {
			for _, texts := range [][2]string{{"a", "b"}, {"b", "a"}, {"same", "same"}, {"", strings.Repeat("x", 49)}, {strings.Repeat("x", 49), ""}} {
				a, b := put(t, first, texts[0]), put(t, second, texts[1])
				want, at := slot.Snap{Gen: first, Text: texts[0]}, 0
				if second > first {
					want, at = slot.Snap{Gen: second, Text: texts[1]}, 1
				}
				expectChoose(t, a, b, want, at)
				if want.Gen == mostGen {
					expectNext(t, a, b, 0, 1-at)
				} else {
					expectNext(t, a, b, want.Gen+1, 1-at)
				}
			}
		}
	}
}

func TestNextAtTheLastGeneration(t *testing.T) {
	last, before := put(t, mostGen, "the last"), put(t, mostGen-1, "the one before")
	for _, none := range nothing() {
		expectNext(t, before, none, mostGen, 1)
		expectNext(t, none, before, mostGen, 0)
		expectNext(t, last, none, 0, 1)
		expectNext(t, none, last, 0, 0)
	}
	expectNext(t, before, before, mostGen, 1)
	expectNext(t, last, before, 0, 1)
	expectNext(t, before, last, 0, 0)
	expectNext(t, last, last, 0, 1)
}

// What follows the sectors of a snapshot has no effect, be it a snapshot of a greater generation.
func TestChooseWithMoreBehind(t *testing.T) {
	r := rand.New(rand.NewSource(9))
	a, b := put(t, 4, "the fourth"), put(t, 5, strings.Repeat("the fifth", 20))
	for _, x := range behind(r) {
		for _, y := range behind(r) {
			expectChoose(t, a+x, b+y, slot.Snap{Gen: 5, Text: strings.Repeat("the fifth", 20)}, 1)
			expectChoose(t, b+x, a+y, slot.Snap{Gen: 5, Text: strings.Repeat("the fifth", 20)}, 0)
			expectNext(t, a+x, b+y, 6, 0)
			expectNext(t, b+x, a+y, 6, 1)
		}
	}
}

// P9.4

// drawn returns a snapshot: most texts are short ones.
func drawn(r *rand.Rand) slot.Snap {
	length := r.Intn(200)
	switch r.Intn(100) {
	case 0:
		length = lengths[r.Intn(len(lengths))]
	case 1, 2, 3:
		length = r.Intn(5000)
	}
	gen := 1 + r.Intn(mostGen)
	switch r.Intn(4) {
	case 0:
		gen = gens[r.Intn(len(gens))]
	case 1:
		gen = 1 + r.Intn(10)
	}
	return slot.Snap{Gen: gen, Text: randomText(r, length)}
}

func TestDrawnSnapshotsComeBack(t *testing.T) {
	r := rand.New(rand.NewSource(10))
	for range 5000 {
		s := drawn(r)
		comparePut(t, s)
		bytes := put(t, s.Gen, s.Text)
		if len(bytes) != 64*slot.Sectors(s.Text) {
			t.Errorf("%s has %d bytes, %d sectors", brief(s), len(bytes), slot.Sectors(s.Text))
		}
		expectGet(t, bytes+randomText(r, r.Intn(3)*r.Intn(100)), s, api.OK)
	}
}

// drawnBytes returns bytes that can hold a snapshot: often they do, and often they all but do.
func drawnBytes(r *rand.Rand) string {
	d := drawn(r)
	gen, length, text := uint64(d.Gen), uint32(len(d.Text)), d.Text
	switch r.Intn(12) {
	case 0:
		gen = uint64(wrong[r.Intn(len(wrong))])
	case 1:
		gen = r.Uint64()
	case 2:
		length += uint32(r.Intn(7)) - 3
	case 3:
		length = r.Uint32() >> r.Intn(32)
	case 4:
		return randomText(r, r.Intn(300))
	case 5:
		return strings.Repeat("\x00", 64*r.Intn(4)) + bytesOf(gen, text)
	}
	s := filled(sealedWith(gen, length, text))
	switch r.Intn(6) {
	case 0:
		s = changed(s, r.Intn(len(s)), byte(1+r.Intn(255)))
	case 1:
		s = changed(s, r.Intn(min(16, len(s))), 1<<r.Intn(8))
	case 2:
		s = s[:r.Intn(len(s))]
	case 3:
		s = changed(s, len(s)-1-r.Intn(min(20, len(s))), 1<<r.Intn(8))
	}
	return s + randomText(r, r.Intn(2)*r.Intn(130))
}

func TestWhatGetAcceptsIsWhatPutReturns(t *testing.T) {
	r := rand.New(rand.NewSource(11))
	count := map[api.Errno]int{}
	for range 60000 {
		s := drawnBytes(r)
		compareGet(t, s)
		got, e := slot.Get(s)
		count[e]++
		if e != api.OK {
			continue
		}
		bytes, e := slot.Put(got)
		if e != api.OK || !strings.HasPrefix(s, bytes) || len(bytes) != 64*slot.Sectors(got.Text) {
			t.Errorf("Get accepts %s, of which Put returns %s, %d", short(s), short(bytes), int(e))
		}
	}
	for _, code := range []api.Errno{api.OK, api.ErrOver, api.ErrArg, api.ErrBig, api.ErrShort, api.ErrSum, api.ErrForm} {
		if count[code] < 500 {
			t.Errorf("Get of the drawn bytes gives the error %d only %d times", int(code), count[code])
		}
	}
}

// All bytes that differ from a snapshot's in two places are no snapshot's.
func TestGetWithTwoBytesChanged(t *testing.T) {
	r := rand.New(rand.NewSource(12))
	s := put(t, 258, randomText(r, 20))
	for i := range len(s) {
		for j := range i {
			other := changed(changed(s, i, byte(1+r.Intn(255))), j, byte(1+r.Intn(255)))
			compareGet(t, other)
			if got, e := slot.Get(other); e == api.OK {
				t.Errorf("with the bytes %d and %d changed it is %s", i, j, brief(got))
			}
		}
	}
}

// P9.5

// over returns a slot after bytes have been written from its beginning on.
func over(before, bytes string) string {
	if len(bytes) > len(before) {
		return bytes
	}
	return bytes + before[len(bytes):]
}

// slots are two of them, and the snapshot that was written last.
type slots struct {
	held [2]string
	last slot.Snap
	at   int
}

// write writes the snapshot of the next generation with a text to the next slot, and checks that it is chosen.
func (s *slots) write(t *testing.T, text string) {
	t.Helper()
	gen, to := slot.Next(s.held[0], s.held[1])
	if gen != s.last.Gen+1 || to == s.at {
		t.Fatalf("behind generation %d in slot %d Next returns %d, %d", s.last.Gen, s.at, gen, to)
	}
	s.held[to] = over(s.held[to], put(t, gen, text))
	s.last, s.at = slot.Snap{Gen: gen, Text: text}, to
	s.chosen(t)
}

// chosen checks that the last snapshot is the one that is chosen.
func (s *slots) chosen(t *testing.T) {
	t.Helper()
	expectChoose(t, s.held[0], s.held[1], s.last, s.at)
}

// spoiled checks that the last snapshot is chosen, if the next slot holds something that is not a snapshot.
func (s *slots) spoiled(t *testing.T, bytes string) {
	t.Helper()
	if _, e := getOf(bytes); e == api.OK {
		t.Fatalf("%s is a snapshot", short(bytes))
	}
	other := *s
	other.held[1-s.at] = bytes
	other.chosen(t)
}

func TestANewSnapshotIsChosen(t *testing.T) {
	r := rand.New(rand.NewSource(13))
	none := nothing()
	for range 20 {
		empty := strings.Repeat("\x00", 64*r.Intn(8))
		s := slots{held: [2]string{empty, empty}, at: 1}
		for range 50 {
			s.write(t, drawn(r).Text)
			for _, bytes := range none {
				s.spoiled(t, bytes)
			}
		}
	}
}

// Also up to the last generation, behind which there is none.
func TestNewSnapshotsUpToTheLastGeneration(t *testing.T) {
	for at := range 2 {
		s := slots{last: slot.Snap{Gen: mostGen - 9, Text: "almost"}, at: at}
		s.held[at] = put(t, mostGen-9, "almost")
		s.held[1-at] = put(t, mostGen-10, "before that")
		for s.last.Gen < mostGen {
			s.write(t, "one more")
		}
		expectNext(t, s.held[0], s.held[1], 0, 1-s.at)
	}
}

// Of a snapshot that is being written, any sectors can be there, and one of them only in part: the new one is chosen if it is there as a whole, and else the last one.
func TestASnapshotWrittenInPart(t *testing.T) {
	r := rand.New(rand.NewSource(14))
	whole, part := 0, 0
	s := slots{held: [2]string{strings.Repeat("\x00", 640), strings.Repeat("\x00", 640)}, at: 1}
	for range 400 {
		s.write(t, randomText(r, r.Intn(600)))
		gen, to := slot.Next(s.held[0], s.held[1])
		next := slot.Snap{Gen: gen, Text: randomText(r, r.Intn(600))}
		bytes := put(t, next.Gen, next.Text)
		for range 20 {
			left := []byte(s.held[to])
			for at := 0; at < len(bytes); at += 64 {
				switch r.Intn(8) {
				case 0:
				case 1:
					copy(left[at:], bytes[at:at+r.Intn(64)])
				default:
					copy(left[at:], bytes[at:at+64])
				}
			}
			if strings.HasPrefix(string(left), bytes) {
				whole++
				other := s
				other.held[to], other.last, other.at = string(left), next, to
				other.chosen(t)
			} else if got, e := getOf(string(left)); e != api.OK {
				part++
				s.spoiled(t, string(left))
			} else if got.Gen >= s.last.Gen {
				t.Fatalf("%s is there, but was not written", brief(got))
			}
		}
	}
	if whole < 100 || part < 1000 {
		t.Errorf("only %d whole ones, %d in part", whole, part)
	}
}

func TestChooseOfDrawnBytes(t *testing.T) {
	r := rand.New(rand.NewSource(15))
	count := map[int]int{}
	for range 30000 {
		a, b := drawnBytes(r), drawnBytes(r)
		if r.Intn(4) == 0 {
			b = bytesOf(uint64(1+r.Intn(mostGen)), "b")
		}
		compareChoose(t, a, b)
		_, at := slot.Choose(a, b)
		count[at]++
	}
	if count[-1] < 1000 || count[0] < 1000 || count[1] < 1000 {
		t.Errorf("the slots are chosen %v times", count)
	}
}

// The general rules

// within reports whether a text lies in the memory of another one.
func within(text, whole string) bool {
	from := uintptr(unsafe.Pointer(unsafe.StringData(whole)))
	at := uintptr(unsafe.Pointer(unsafe.StringData(text)))
	return len(text) > 0 && from <= at && at < from+uintptr(len(whole))
}

func TestTextsAreNew(t *testing.T) {
	r := rand.New(rand.NewSource(16))
	for _, length := range []int{1, 2, 48, 49, 3000, mostText} {
		text := randomText(r, length)
		s := put(t, 5, text)
		got, e := slot.Get(s)
		if e != api.OK {
			t.Fatal(int(e))
		}
		if within(text, s) || within(s, text) || within(got.Text, s) || within(got.Text, text) {
			t.Errorf("a result lies in its argument of %d bytes", length)
		}
		for at, pair := range [][2]string{{s, ""}, {"", s}} {
			chosen, n := slot.Choose(pair[0], pair[1])
			if n != at || within(chosen.Text, s) {
				t.Errorf("slot %d: what is chosen lies in the argument of %d bytes", n, len(s))
			}
		}
	}
}

func TestCallsDoNotDependOnWhatWasCalledBefore(t *testing.T) {
	a, b := put(t, 4, "the fourth"), put(t, 5, "the fifth")
	for range 3 {
		comparePut(t, slot.Snap{Gen: 5, Text: "the fifth"})
		comparePut(t, slot.Snap{Text: "the fifth"})
		compareGet(t, a)
		compareGet(t, a[:63])
		compareGet(t, b)
		compareChoose(t, a, b)
		compareChoose(t, "", "")
		compareChoose(t, b, a)
		compareGet(t, "")
	}
}

func TestCallsAtTheSameTime(t *testing.T) {
	r := rand.New(rand.NewSource(17))
	var all sync.WaitGroup
	for range 8 {
		x, y := drawn(r), drawn(r)
		all.Go(func() {
			a, b := bytesOf(uint64(x.Gen), x.Text), bytesOf(uint64(y.Gen), y.Text)
			for range 50 {
				comparePut(t, x)
				compareGet(t, b)
				compareChoose(t, a, b)
			}
		})
	}
	all.Wait()
}
