package crc_test

import (
	"hash/crc32"
	"math"
	"math/bits"
	"math/rand"
	"slices"
	"strings"
	"sync"
	"testing"
	"unsafe"

	"backhaul/api"
	"backhaul/crc"
)

// most is how many bytes the second string of Both may have.
const most = 1000000

// polynomial is what the definition of an update combines a checksum with.
const polynomial = 0x82f63b78

// updateByBit is the definition of an update by a bit.
func updateByBit(sum, b uint32) uint32 {
	x := sum&1 ^ b
	sum >>= 1
	if x == 1 {
		sum ^= polynomial
	}
	return sum
}

// updateByByte is the definition of an update by a byte.
func updateByByte(sum uint32, b byte) uint32 {
	for i := range 8 {
		sum = updateByBit(sum, uint32(b)>>i&1)
	}
	return sum
}

// ofOf is the definition of Of.
func ofOf(s string) uint32 {
	sum := uint32(0xffffffff)
	for i := range len(s) {
		sum = updateByByte(sum, s[i])
	}
	return ^sum
}

// bytesWith returns the four bytes that have a checksum: there are such bytes for each one.
func bytesWith(sum uint32) string {
	sum = ^sum
	for range 32 {
		// An update leaves the most significant bit only where the polynomial has been combined, as the shift makes it 0.
		if sum>>31 == 1 {
			sum = (sum^polynomial)<<1 | 1
		} else {
			sum <<= 1
		}
	}
	return digits(^sum)
}

// onOf is the definition of On: four bytes stand for all that have the checksum.
func onOf(sum uint32, s string) uint32 { return ofOf(bytesWith(sum) + s) }

// digits returns the four bytes of a number, the least significant one first.
func digits(n uint32) string {
	b := make([]byte, 4)
	for i := range b {
		b[i] = byte(n % 256)
		n /= 256
	}
	return string(b)
}

// sealOf is the definition of Seal.
func sealOf(s string) string { return s + digits(ofOf(s)) }

// unsealOf is the definition of Unseal.
func unsealOf(s string) (string, api.Errno) {
	if len(s) < 4 {
		return "", api.ErrShort
	}
	text := s[:len(s)-4]
	if s[len(s)-4:] != digits(ofOf(text)) {
		return "", api.ErrSum
	}
	return text, api.OK
}

// prefixSums returns the checksums of the first bytes of a text behind a text ahead: of none of them, of one, and so on.
func prefixSums(ahead, text string) []uint32 {
	sums := make([]uint32, 0, len(text)+1)
	sum := ^ofOf(ahead)
	sums = append(sums, ^sum)
	for i := range len(text) {
		sum = updateByByte(sum, text[i])
		sums = append(sums, ^sum)
	}
	return sums
}

// compare compares Of, Seal and Unseal with their definitions, Unseal by the text and by the sealed text.
func compare(t *testing.T, s string) {
	t.Helper()
	if got, want := crc.Of(s), ofOf(s); got != want {
		t.Errorf("Of(% .60x) of %d bytes = %08x, want %08x", s, len(s), got, want)
	}
	sealed := sealOf(s)
	if got := crc.Seal(s); got != sealed {
		t.Errorf("Seal(% .60x) of %d bytes ends with % x of %d bytes, want % x", s, len(s), got[max(0, len(got)-6):], len(got), sealed[max(0, len(sealed)-6):])
	}
	compareUnseal(t, s)
	compareUnseal(t, sealed)
}

func compareUnseal(t *testing.T, s string) {
	t.Helper()
	want, code := unsealOf(s)
	if got, e := crc.Unseal(s); got != want || e != code {
		t.Errorf("Unseal(% .60x) of %d bytes = % .60x, %d, want % .60x, %d", s, len(s), got, int(e), want, int(code))
	}
}

func compareOn(t *testing.T, sum uint32, s string) {
	t.Helper()
	if got, want := crc.On(sum, s), onOf(sum, s); got != want {
		t.Errorf("On(%08x, % .60x) of %d bytes = %08x, want %08x", sum, s, len(s), got, want)
	}
}

// expectBoth checks what Both returns.
func expectBoth(t *testing.T, a, b uint32, n int, want uint32, code api.Errno) {
	t.Helper()
	if got, e := crc.Both(a, b, n); got != want || e != code {
		t.Errorf("Both(%08x, %08x, %d) = %08x, %d, want %08x, %d", a, b, n, got, int(e), want, int(code))
	}
}

// rejected checks that a text is refused because of its checksum.
func rejected(t *testing.T, s, why string) {
	t.Helper()
	if got, e := crc.Unseal(s); got != "" || e != api.ErrSum {
		t.Errorf("%s: Unseal(% .60x) of %d bytes = % .60x, %d", why, s, len(s), got, int(e))
	}
}

// randomText returns a text of so many bytes, of which many are 0 or 255.
func randomText(r *rand.Rand, length int) string {
	b := make([]byte, length)
	r.Read(b)
	for i := range b {
		switch r.Intn(8) {
		case 0:
			b[i] = 0
		case 1:
			b[i] = 255
		}
	}
	return string(b)
}

// alike returns texts of so many bytes: bytes 0, bytes 255, increasing ones, and other ones.
func alike(r *rand.Rand, length int) []string {
	rising := make([]byte, length)
	for i := range rising {
		rising[i] = byte(i)
	}
	return []string{strings.Repeat("\x00", length), strings.Repeat("\xff", length), strings.Repeat("a", length), string(rising), randomText(r, length)}
}

// lengths are those around powers of two, around what the layers above seal, and some long ones.
var lengths = []int{0, 1, 2, 3, 4, 5, 6, 7, 8, 9, 11, 12, 13, 15, 16, 17, 31, 32, 33, 48, 52, 60, 63, 64, 65, 127, 128, 129, 255, 256, 257, 1000, 1999, 2000, 2001, 3000, 4095, 4096, 4097, 65534, 65535, 65536, 65537, 100000, 100012}

// sums are checksums with few bits, with nearly all bits, and the parts of the definition.
func sums(r *rand.Rand) []uint32 {
	l := []uint32{0, 1, 2, 0xff, 0x100, 0xffff, 0x10000, 0x7fffffff, 0x80000000, 0xfffffffe, 0xffffffff, polynomial, ^uint32(polynomial), 0xe3069283}
	for i := range 32 {
		l = append(l, 1<<i, ^(uint32(1) << i))
	}
	for range 40 {
		l = append(l, r.Uint32())
	}
	return l
}

// The examples

func TestExamples(t *testing.T) {
	if got := crc.Of("123456789"); got != 0xe3069283 {
		t.Errorf("the checksum of 123456789 is %08x", got)
	}
	if got, e := crc.Unseal("abc"); got != "" || e != api.ErrShort {
		t.Errorf("Unseal of abc returns %q, %d", got, int(e))
	}
	if got := crc.Seal("123456789"); got != "123456789\x83\x92\x06\xe3" {
		t.Errorf("Seal of 123456789 returns % x", got)
	}
	if got, e := crc.Unseal("123456789\x83\x92\x06\xe3"); got != "123456789" || e != api.OK {
		t.Errorf("Unseal of it returns %q, %d", got, int(e))
	}
	if got := crc.On(crc.Of("12345"), "6789"); got != 0xe3069283 {
		t.Errorf("On returns %08x", got)
	}
	if got, e := crc.Both(crc.Of("12345"), crc.Of("6789"), 4); got != 0xe3069283 || e != api.OK {
		t.Errorf("Both returns %08x, %d", got, int(e))
	}
}

// What the tests take for the definition is CRC-32C, as others compute it.
func TestTheDefinition(t *testing.T) {
	r := rand.New(rand.NewSource(1))
	table := crc32.MakeTable(crc32.Castagnoli)
	for _, length := range lengths {
		s := randomText(r, length)
		if got, want := ofOf(s), crc32.Checksum([]byte(s), table); got != want {
			t.Errorf("of %d bytes: %08x, want %08x", length, got, want)
		}
	}
	for _, sum := range sums(r) {
		if got := ofOf(bytesWith(sum)); got != sum {
			t.Errorf("the bytes % x have the checksum %08x, want %08x", bytesWith(sum), got, sum)
		}
	}
}

// P7.1

func TestOfNoBytes(t *testing.T) {
	if got := crc.Of(""); got != 0 {
		t.Errorf("Of of no bytes = %08x", got)
	}
	compare(t, "")
}

func TestOfEachByte(t *testing.T) {
	for b := range 256 {
		compare(t, string([]byte{byte(b)}))
	}
}

func TestOfTwoBytes(t *testing.T) {
	for n := range 1 << 16 {
		s := string([]byte{byte(n >> 8), byte(n)})
		if got, want := crc.Of(s), ofOf(s); got != want {
			t.Errorf("Of(% x) = %08x, want %08x", s, got, want)
		}
	}
}

func TestOfEachByteAtEachPlace(t *testing.T) {
	for _, length := range []int{3, 4, 5, 8, 9, 16, 17} {
		for at := range length {
			for b := range 256 {
				text := []byte(strings.Repeat("-", length))
				text[at] = byte(b)
				compare(t, string(text))
			}
		}
	}
}

func TestOfLongerStrings(t *testing.T) {
	r := rand.New(rand.NewSource(2))
	for _, length := range lengths {
		for _, s := range alike(r, length) {
			compare(t, s)
		}
	}
	for length := range 400 {
		compare(t, randomText(r, length))
	}
	for _, length := range []int{most - 1, most, most + 1, 1 << 20, 1<<20 + 1, 1 << 21} {
		compare(t, randomText(r, length))
	}
}

// Any text is bytes: runes and bytes 0 are nothing special.
func TestOfBytesThatAreNoText(t *testing.T) {
	for _, s := range []string{"\xc3\xa4", "\xa4\xc3", "\xff\xfe", "\x00", "\x00\x00", "a\x00", "\x00a", "\xe2\x82", "\u20ac\u20ac", "\xf0\x9f\x92\xa9", "\xef\xbf\xbd", "\ufeff", "\r\n"} {
		compare(t, s)
		for _, sum := range []uint32{0, 0xffffffff, 0xe3069283} {
			compareOn(t, sum, s)
		}
	}
}

func TestOn(t *testing.T) {
	r := rand.New(rand.NewSource(3))
	for _, sum := range sums(r) {
		for length := range 20 {
			for _, s := range alike(r, length) {
				compareOn(t, sum, s)
			}
		}
		for _, s := range alike(r, 300) {
			compareOn(t, sum, s)
		}
		for b := range 256 {
			compareOn(t, sum, string([]byte{byte(b)}))
		}
	}
	for _, sum := range []uint32{0, 0xffffffff, 0x12345678} {
		compareOn(t, sum, randomText(r, 1<<20+1))
	}
}

func TestOnWithNoBytes(t *testing.T) {
	r := rand.New(rand.NewSource(4))
	for _, sum := range sums(r) {
		if got := crc.On(sum, ""); got != sum {
			t.Errorf("On(%08x, no bytes) = %08x", sum, got)
		}
	}
}

// P7.2

func TestSealedStringsComeBack(t *testing.T) {
	r := rand.New(rand.NewSource(5))
	for length := range 300 {
		for _, s := range alike(r, length) {
			sealed := crc.Seal(s)
			if sealed != sealOf(s) {
				t.Errorf("Seal of %d bytes: %d bytes, % .80x", length, len(sealed), sealed)
			}
			if got, e := crc.Unseal(sealed); got != s || e != api.OK {
				t.Errorf("%d bytes came back as %d, %d", length, len(got), int(e))
			}
		}
	}
}

func TestSealedTwice(t *testing.T) {
	r := rand.New(rand.NewSource(6))
	for length := range 70 {
		once := crc.Seal(randomText(r, length))
		if got, e := crc.Unseal(crc.Seal(once)); got != once || e != api.OK {
			t.Errorf("%d bytes came back as %d, %d", len(once), len(got), int(e))
		}
	}
}

func TestUnsealOfFewerThanFourBytes(t *testing.T) {
	short := []string{""}
	for a := range 256 {
		short = append(short, string([]byte{byte(a)}))
		for b := range 256 {
			short = append(short, string([]byte{byte(a), byte(b)}))
		}
	}
	for _, s := range short {
		for _, s := range []string{s, s + "\x00", s + "\xff"} {
			if len(s) > 3 {
				t.Fatal(len(s))
			}
			if got, e := crc.Unseal(s); got != "" || e != api.ErrShort {
				t.Errorf("Unseal(% x) = % x, %d", s, got, int(e))
			}
		}
	}
}

// The checksum of no bytes is 0: of all strings of four bytes, one is sealed.
func TestUnsealOfFourBytes(t *testing.T) {
	if got, e := crc.Unseal("\x00\x00\x00\x00"); got != "" || e != api.OK {
		t.Errorf("Unseal of four bytes 0 = % x, %d", got, int(e))
	}
	for at := range 4 {
		for b := 1; b < 256; b++ {
			s := []byte{0, 0, 0, 0}
			s[at] = byte(b)
			rejected(t, string(s), "four bytes")
		}
	}
	r := rand.New(rand.NewSource(7))
	for _, sum := range sums(r) {
		compareUnseal(t, digits(sum))
		compareUnseal(t, digits(ofOf(digits(sum))))
	}
}

func TestUnsealWithAnotherByte(t *testing.T) {
	r := rand.New(rand.NewSource(8))
	for length := range 70 {
		for _, text := range alike(r, length) {
			sealed := sealOf(text)
			for at := range len(sealed) {
				for range 4 {
					s := []byte(sealed)
					s[at] ^= byte(1 + r.Intn(255))
					rejected(t, string(s), "another byte")
				}
			}
		}
	}
	for _, text := range []string{"", "a", "123456789"} {
		sealed := sealOf(text)
		for at := range len(sealed) {
			for other := 1; other < 256; other++ {
				s := []byte(sealed)
				s[at] ^= byte(other)
				rejected(t, string(s), "another byte")
			}
		}
	}
}

func TestUnsealOfOtherStrings(t *testing.T) {
	r := rand.New(rand.NewSource(9))
	for range 2000 {
		text := randomText(r, r.Intn(40))
		sealed := sealOf(text)
		compareUnseal(t, text)
		compareUnseal(t, sealed+"\x00")
		compareUnseal(t, "\x00"+sealed)
		compareUnseal(t, sealed[1:])
		compareUnseal(t, sealed[:len(sealed)-1])
		compareUnseal(t, sealed+sealed)
		compareUnseal(t, text+digits(0))
		compareUnseal(t, text+digits(^ofOf(text)))
		compareUnseal(t, text+digits(ofOf(text)+1))
		compareUnseal(t, digits(ofOf(text))+text)
		backwards := []byte(digits(ofOf(text)))
		slices.Reverse(backwards)
		compareUnseal(t, text+string(backwards))
	}
}

// P7.3

// refusedNumbers lie beyond the limits, and where a number of fewer bits wraps around into them.
var refusedNumbers = []int{
	math.MinInt, math.MinInt + 1, math.MinInt + 9, -1 << 62, -1 << 32, 9 - 1<<32, -most - 1, -most, -most + 1, -256, -9, -2, -1,
	most + 1, most + 2, most + 9, 1 << 20, 2 * most, 1 << 31, 1 << 32, 1<<32 + 9, 1<<32 + most, 1 << 62, math.MaxInt - most, math.MaxInt - 1, math.MaxInt,
}

func TestBothRefuses(t *testing.T) {
	r := rand.New(rand.NewSource(10))
	for _, n := range refusedNumbers {
		for _, a := range sums(r) {
			for _, b := range []uint32{0, 0xffffffff, ofOf("123456789"), r.Uint32()} {
				expectBoth(t, a, b, n, 0, api.ErrArg)
			}
		}
	}
}

func TestBothWithFewBytes(t *testing.T) {
	r := rand.New(rand.NewSource(11))
	all := sums(r)
	for _, a := range all {
		expectBoth(t, a, 0, 0, a, api.OK)
		for _, length := range []int{1, 2, 3, 4, 5, 7, 8, 9, 15, 16, 17} {
			for _, second := range alike(r, length) {
				expectBoth(t, a, ofOf(second), length, onOf(a, second), api.OK)
			}
		}
		for _, b := range all {
			expectBoth(t, a, b, 4, onOf(a, bytesWith(b)), api.OK)
		}
	}
}

// Strings of each length up to some thousands, and of many up to the limit, are the beginnings of one.
func TestBothWithBytesUpToTheLimit(t *testing.T) {
	r := rand.New(rand.NewSource(12))
	second := randomText(r, most)
	alone := prefixSums("", second)
	for i, first := range []string{"", "a", "123456789", bytesWith(0xffffffff), bytesWith(0), randomText(r, 5000)} {
		a, together := ofOf(first), prefixSums(first, second)
		for n := range 5000 {
			expectBoth(t, a, alone[n], n, together[n], api.OK)
		}
		for power := 1; power <= most; power *= 2 {
			for n := max(0, power-2); n <= min(most, power+2); n++ {
				expectBoth(t, a, alone[n], n, together[n], api.OK)
			}
		}
		for range 300 {
			n := r.Intn(most + 1)
			expectBoth(t, a, alone[n], n, together[n], api.OK)
		}
		for n := most - 20; n <= most; n++ {
			expectBoth(t, a, alone[n], n, together[n], api.OK)
		}
		if i == 0 && !slices.Equal(alone, together) {
			t.Error("the definition hangs on a first string of no bytes")
		}
	}
}

func TestBothWithBytesAllAlike(t *testing.T) {
	for _, b := range []string{"\x00", "\xff"} {
		second := strings.Repeat(b, most)
		alone, together := prefixSums("", second), prefixSums("first", second)
		for _, n := range []int{0, 1, 2, 3, 4, 63, 64, 65, 1000, 65535, 65536, 99999, 524287, 524288, most - 1, most} {
			expectBoth(t, ofOf("first"), alone[n], n, together[n], api.OK)
		}
	}
}

// No string of so few bytes has the checksum: nothing is promised but that the number of bytes alone is refused.
func TestBothWithChecksumsOfNoSuchString(t *testing.T) {
	r := rand.New(rand.NewSource(13))
	for _, b := range sums(r) {
		for _, n := range []int{0, 1, 2, 3, most} {
			if _, e := crc.Both(b, ^b, n); e != api.OK {
				t.Errorf("Both(%08x, %08x, %d): %d", b, ^b, n, int(e))
			}
		}
	}
}

// P7.4

// concatenated checks the checksum of a concatenation, by definition, by On and by Both.
func concatenated(t *testing.T, first, second string) {
	t.Helper()
	want := ofOf(first + second)
	if got := crc.Of(first + second); got != want {
		t.Errorf("Of of %d and %d bytes = %08x, want %08x", len(first), len(second), got, want)
	}
	if got := crc.On(crc.Of(first), second); got != want {
		t.Errorf("On with %d and %d bytes = %08x, want %08x", len(first), len(second), got, want)
	}
	expectBoth(t, crc.Of(first), crc.Of(second), len(second), want, api.OK)
}

func TestConcatenations(t *testing.T) {
	r := rand.New(rand.NewSource(14))
	for _, whole := range alike(r, 120) {
		for i := range len(whole) + 1 {
			concatenated(t, whole[:i], whole[i:])
		}
	}
	for range 3000 {
		concatenated(t, randomText(r, r.Intn(60)), randomText(r, r.Intn(60)))
	}
	for _, length := range lengths {
		s := randomText(r, length)
		concatenated(t, "", s)
		concatenated(t, s, "")
		concatenated(t, s, s)
		concatenated(t, "123456789", s)
		concatenated(t, s, "123456789")
	}
	concatenated(t, randomText(r, most+1), randomText(r, most))
}

func TestConcatenationsOfMany(t *testing.T) {
	r := rand.New(rand.NewSource(15))
	for range 100 {
		whole, sum, length := "", uint32(0), 0
		on := sum
		for range 1 + r.Intn(20) {
			piece := randomText(r, r.Intn(30))
			whole += piece
			on = crc.On(on, piece)
			both, e := crc.Both(sum, crc.Of(piece), len(piece))
			if e != api.OK {
				t.Fatal(int(e))
			}
			sum, length = both, length+len(piece)
		}
		if want := ofOf(whole); on != want || sum != want || length != len(whole) {
			t.Errorf("of %d bytes in pieces: %08x by On, %08x by Both, want %08x", len(whole), on, sum, want)
		}
	}
}

// P7.5

// changed returns a text of which bits are changed: the bits of a pattern, the least significant one first, from a bit of the text on; of each byte the least significant bit is the first one.
func changed(s string, from int, pattern uint64) string {
	b := []byte(s)
	for i := range 64 {
		if pattern>>i&1 == 1 {
			at := from + i
			b[at/8] ^= 1 << (at % 8)
		}
	}
	return string(b)
}

// bursts calls f with patterns within 32 bits that begin with a changed bit: all short ones, and many of each length.
func bursts(r *rand.Rand, f func(pattern uint64, length int)) {
	for pattern := uint64(1); pattern < 1<<8; pattern += 2 {
		f(pattern, bits.Len64(pattern))
	}
	for length := 2; length <= 32; length++ {
		ends := uint64(1)<<(length-1) | 1
		f(ends, length)
		f(uint64(1)<<length-1, length)
		for range 3 {
			f(ends|uint64(r.Uint32())&(1<<length-1), length)
		}
	}
}

func TestBurstsAreRejected(t *testing.T) {
	r := rand.New(rand.NewSource(16))
	tried := 0
	for _, size := range []int{0, 1, 2, 3, 4, 5, 8, 16, 33, 60} {
		for _, text := range []string{strings.Repeat("\x00", size), randomText(r, size)} {
			sealed := crc.Seal(text)
			for from := range 8 * len(sealed) {
				bursts(r, func(pattern uint64, length int) {
					if from+length <= 8*len(sealed) {
						tried++
						rejected(t, changed(sealed, from, pattern), "a burst")
					}
				})
			}
		}
	}
	if tried < 500000 {
		t.Errorf("only %d bursts", tried)
	}
}

func TestBurstsInLongStringsAreRejected(t *testing.T) {
	r := rand.New(rand.NewSource(17))
	for _, size := range []int{1000, 2000, 3000, 100012} {
		sealed := crc.Seal(randomText(r, size))
		for range 100 {
			from := r.Intn(8*len(sealed) - 31)
			rejected(t, changed(sealed, from, 1|uint64(r.Uint32())), "a burst")
		}
		for _, from := range []int{0, 1, 8*size - 32, 8*size - 16, 8 * size, 8*len(sealed) - 32} {
			rejected(t, changed(sealed, from, 1|uint64(r.Uint32())), "a burst")
			rejected(t, changed(sealed, from, 1<<32-1), "a burst")
		}
	}
}

// 33 bits are too many: the polynomial itself, added anywhere, leaves a sealed string sealed.
func TestAChangeOf33BitsCanBeAccepted(t *testing.T) {
	r := rand.New(rand.NewSource(18))
	for _, size := range []int{1, 2, 8, 40} {
		sealed := crc.Seal(randomText(r, size))
		for from := 0; from+33 <= 8*len(sealed); from++ {
			other := changed(sealed, from, 1|polynomial<<1)
			if other == sealed {
				t.Fatal("nothing has been changed")
			}
			if got, e := crc.Unseal(other); got != other[:size] || e != api.OK {
				t.Errorf("from bit %d of %d bytes: % x, %d", from, len(sealed), got, int(e))
			}
		}
	}
}

// The general rules

// within reports whether a text lies in the memory of another one.
func within(text, whole string) bool {
	from := uintptr(unsafe.Pointer(unsafe.StringData(whole)))
	at := uintptr(unsafe.Pointer(unsafe.StringData(text)))
	return len(text) > 0 && from <= at && at < from+uintptr(len(whole))
}

func TestTextsAreNew(t *testing.T) {
	r := rand.New(rand.NewSource(19))
	for _, length := range []int{1, 2, 5, 64, 3000, 100000} {
		text := randomText(r, length)
		sealed := crc.Seal(text)
		again, e := crc.Unseal(sealed)
		if e != api.OK {
			t.Fatal(int(e))
		}
		if within(text, sealed) || within(again, sealed) || within(sealed, text) || within(again, text) {
			t.Errorf("a result lies in its argument of %d bytes", length)
		}
	}
}

func TestCallsDoNotDependOnWhatWasCalledBefore(t *testing.T) {
	for range 3 {
		compare(t, "123456789")
		compare(t, "")
		compareOn(t, 0xffffffff, "abc")
		compareOn(t, 0, "")
		expectBoth(t, ofOf("12345"), ofOf("6789"), 4, 0xe3069283, api.OK)
		expectBoth(t, ofOf("12345"), ofOf("6789"), -1, 0, api.ErrArg)
		compareUnseal(t, "abc")
		compareUnseal(t, "abcdefgh")
		compare(t, "abc")
	}
}

func TestCallsAtTheSameTime(t *testing.T) {
	r := rand.New(rand.NewSource(20))
	texts := make([]string, 8)
	for i := range texts {
		texts[i] = randomText(r, 100+i)
	}
	var all sync.WaitGroup
	for _, s := range texts {
		all.Go(func() {
			for range 50 {
				compare(t, s)
				compareOn(t, 0xffffffff, s)
				expectBoth(t, ofOf("123456789"), ofOf(s), len(s), ofOf("123456789"+s), api.OK)
			}
		})
	}
	all.Wait()
}
