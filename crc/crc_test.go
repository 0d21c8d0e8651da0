package crc_test

import (
	"bytes"
	"math/bits"
	"testing"

	"posthouse/crc"
)

// bitwise is the checksum as the chapter words it, bit by bit and without a table.
func bitwise(b []byte) uint32 {
	register := ^uint32(0)
	for _, x := range b {
		register ^= uint32(x)
		for range 8 {
			out := register & 1
			register >>= 1
			if out == 1 {
				register ^= 0x82f63b78
			}
		}
	}
	return ^register
}

// mixer yields the same numbers in each run.
type mixer uint64

func (m *mixer) next() uint64 {
	*m += 0x9e3779b97f4a7c15
	x := uint64(*m)
	x = (x ^ x>>30) * 0xbf58476d1ce4e5b9
	x = (x ^ x>>27) * 0x94d049bb133111eb
	return x ^ x>>31
}

func (m *mixer) bytes(n int) []byte {
	b := make([]byte, n)
	for i := range b {
		b[i] = byte(m.next())
	}
	return b
}

// bodies are bytes of all small lengths and some greater ones: zeros, ones, ascending, and mixed.
func bodies() [][]byte {
	out := [][]byte{nil, {}}
	m := mixer(1)
	for _, n := range []int{1, 2, 3, 4, 5, 7, 8, 9, 31, 32, 33, 64, 255, 256, 257, 1000, 4096} {
		ascending := make([]byte, n)
		for i := range ascending {
			ascending[i] = byte(i)
		}
		out = append(out, make([]byte, n), bytes.Repeat([]byte{0xff}, n), ascending, m.bytes(n))
	}
	return out
}

// sealed is b, sealed, made without the package.
func sealed(b []byte) []byte {
	sum := bitwise(b)
	return append(bytes.Clone(b), byte(sum), byte(sum>>8), byte(sum>>16), byte(sum>>24))
}

// roomy returns a copy of b in the front of a longer array, and the whole array.
func roomy(b []byte) (front, whole []byte) {
	whole = append(bytes.Clone(b), bytes.Repeat([]byte{0xee}, 16)...)
	return whole[:len(b)], whole
}

// checkRoom asks whether b and the memory after it are as roomy made them.
func checkRoom(t *testing.T, whole, b []byte) {
	t.Helper()
	if !bytes.Equal(whole[:len(b)], b) || !bytes.Equal(whole[len(b):], bytes.Repeat([]byte{0xee}, 16)) {
		t.Errorf("argument changed: %x", whole)
	}
}

// overwrite changes b, its spare capacity included.
func overwrite(b []byte) {
	b = b[:cap(b)]
	for i := range b {
		b[i] ^= 0x55
	}
}

// invert inverts one bit of b, by its place in the bit order.
func invert(b []byte, place int) { b[place/8] ^= 1 << (place % 8) }

// checkRefused asks whether b is refused, with nothing beside the false.
func checkRefused(t *testing.T, why string, b []byte) {
	t.Helper()
	if out, is := crc.Open(b); is || out != nil {
		t.Fatalf("%s: Open of %x: %x, %v", why, b, out, is)
	}
}

// checkOpened asks whether b is accepted as want, sealed.
func checkOpened(t *testing.T, b, want []byte) {
	t.Helper()
	if out, is := crc.Open(b); !is || !bytes.Equal(out, want) {
		t.Fatalf("Open of %x: %x, %v", b, out, is)
	}
}

func TestP2_1_SumKnown(t *testing.T) {
	ascending, descending := make([]byte, 32), make([]byte, 32)
	for i := range 32 {
		ascending[i], descending[31-i] = byte(i), byte(i)
	}
	for _, c := range []struct {
		b    []byte
		want uint32
	}{
		{nil, 0},
		{[]byte{}, 0},
		{[]byte("123456789"), 0xe3069283},
		{[]byte("a"), 0xc1d04330},
		{[]byte{0}, 0x527d5351},
		{make([]byte, 4), 0x48674bc7},
		{bytes.Repeat([]byte{0xff}, 4), 0xffffffff},
		{make([]byte, 32), 0x8a9136aa},
		{bytes.Repeat([]byte{0xff}, 32), 0x62a8ab43},
		{ascending, 0x46dd794e},
		{descending, 0x113fdb5c},
	} {
		if got := crc.Sum(c.b); got != c.want {
			t.Errorf("Sum of %x: %08x, not %08x", c.b, got, c.want)
		}
	}
}

func TestP2_1_SumAsWorded(t *testing.T) {
	for x := range 1 << 16 {
		b := []byte{byte(x), byte(x >> 8)}
		if got, want := crc.Sum(b), bitwise(b); got != want {
			t.Fatalf("Sum of %x: %08x, not %08x", b, got, want)
		}
	}
	for x := range 256 {
		b := []byte{byte(x)}
		if got, want := crc.Sum(b), bitwise(b); got != want {
			t.Fatalf("Sum of %x: %08x, not %08x", b, got, want)
		}
	}
	for _, b := range bodies() {
		if got, want := crc.Sum(b), bitwise(b); got != want {
			t.Errorf("Sum of %d bytes: %08x, not %08x", len(b), got, want)
		}
	}
}

func TestP2_1_MoreKnown(t *testing.T) {
	for _, c := range []struct {
		sum  uint32
		b    []byte
		want uint32
	}{
		{0, nil, 0},
		{0xe3069283, nil, 0xe3069283},
		{0xffffffff, []byte{}, 0xffffffff},
		{0, []byte("123456789"), 0xe3069283},
		{crc.Sum([]byte("1234")), []byte("56789"), 0xe3069283},
		// The register is 0, and stays so over bytes that are 0.
		{0xffffffff, make([]byte, 9), 0xffffffff},
	} {
		if got := crc.More(c.sum, c.b); got != c.want {
			t.Errorf("More(%08x, %x): %08x, not %08x", c.sum, c.b, got, c.want)
		}
	}
}

// Four bytes lead to any checksum whatever: those that the wanted register is made of, when the steps are gone backwards.
func TestP2_1_MoreOfAnySum(t *testing.T) {
	m := mixer(2)
	sums := []uint32{0, 1, 0x80000000, 0xffffffff, 0x7fffffff, 0x82f63b78}
	for range 200 {
		sums = append(sums, uint32(m.next()))
	}
	for _, sum := range sums {
		a := bytesOf(sum)
		if bitwise(a) != sum {
			t.Fatalf("the checksum of %x is %08x, not %08x", a, bitwise(a), sum)
		}
		b := m.bytes(int(m.next() % 20))
		if got, want := crc.More(sum, b), bitwise(append(bytes.Clone(a), b...)); got != want {
			t.Fatalf("More(%08x, %x): %08x, not %08x", sum, b, got, want)
		}
	}
}

// bytesOf returns the four bytes whose checksum is sum.
func bytesOf(sum uint32) []byte {
	register := ^sum
	for range 32 {
		if register>>31 == 1 {
			register = (register^0x82f63b78)<<1 | 1
		} else {
			register <<= 1
		}
	}
	register = ^register
	return []byte{byte(register), byte(register >> 8), byte(register >> 16), byte(register >> 24)}
}

func TestP2_1_ArgumentsStay(t *testing.T) {
	for _, b := range bodies() {
		front, whole := roomy(b)
		crc.Sum(front)
		checkRoom(t, whole, b)
		crc.More(77, front)
		checkRoom(t, whole, b)
	}
}

func TestP2_2_SealKnown(t *testing.T) {
	for _, c := range []struct{ b, want string }{
		{"", "\x00\x00\x00\x00"},
		{"123456789", "123456789\x83\x92\x06\xe3"},
		{"\x00", "\x00\x51\x53\x7d\x52"},
	} {
		if got := crc.Seal([]byte(c.b)); string(got) != c.want {
			t.Errorf("Seal of %q: %x", c.b, got)
		}
	}
	if got := crc.Seal(nil); string(got) != "\x00\x00\x00\x00" {
		t.Errorf("Seal of nil: %x", got)
	}
	for _, b := range bodies() {
		if got := crc.Seal(b); !bytes.Equal(got, sealed(b)) {
			t.Errorf("Seal of %d bytes: %x", len(b), got)
		}
	}
}

func TestP2_2_OpenKnown(t *testing.T) {
	checkOpened(t, []byte{0, 0, 0, 0}, nil)
	checkOpened(t, []byte("123456789\x83\x92\x06\xe3"), []byte("123456789"))
	for _, b := range bodies() {
		checkOpened(t, sealed(b), b)
	}
}

func TestP2_2_OpenOfTooFew(t *testing.T) {
	checkRefused(t, "nil", nil)
	checkRefused(t, "no bytes", []byte{})
	for n := range 4 {
		checkRefused(t, "zeros", make([]byte, n))
		checkRefused(t, "ones", bytes.Repeat([]byte{0xff}, n))
		// What stands after the bytes is none of them, though it would make them four.
		checkRefused(t, "zeros before zeros", make([]byte, n, 16))
	}
}

func TestP2_2_OpenOfJustFour(t *testing.T) {
	for place := range 32 {
		b := make([]byte, 4)
		invert(b, place)
		checkRefused(t, "one bit of four bytes", b)
	}
	checkRefused(t, "ones", []byte{0xff, 0xff, 0xff, 0xff})
	checkRefused(t, "text", []byte("abcd"))
}

func TestP2_2_OpenOfOtherOrders(t *testing.T) {
	checkRefused(t, "the highest first", []byte("123456789\xe3\x06\x92\x83"))
	checkRefused(t, "the checksum in front", []byte("\x83\x92\x06\xe3123456789"))
	checkRefused(t, "the register itself", []byte("123456789\x7c\x6d\xf9\x1c"))
	checkRefused(t, "no checksum", []byte("123456789"))
	checkRefused(t, "sealed twice, with one checksum of four bytes 0", append(sealed([]byte("123456789")), 0, 0, 0, 0))
}

// small are bodies that are short enough for each of their places to be tried with each value.
func small() [][]byte {
	var out [][]byte
	for _, b := range bodies() {
		if len(b) <= 64 {
			out = append(out, b)
		}
	}
	return out
}

func TestP2_2_OpenOfChangedByte(t *testing.T) {
	for _, b := range small() {
		good := sealed(b)
		for i := range good {
			for x := range 256 {
				bad := bytes.Clone(good)
				bad[i] = byte(x)
				if bad[i] != good[i] {
					checkRefused(t, "a byte changed", bad)
				}
			}
		}
	}
}

// checkJudged asks whether b, which has at least four bytes, is opened just if it is sealed.
func checkJudged(t *testing.T, why string, b []byte) {
	t.Helper()
	if body := b[:len(b)-4]; bytes.Equal(sealed(body), b) {
		checkOpened(t, b, body)
	} else {
		checkRefused(t, why, b)
	}
}

// A register of 0 stays 0 over a byte 0, so that one that is added where the register is 0 leaves sealed bytes: that is what the checksum's definition says, and so it is judged by that.
func TestP2_2_OpenOfAddedByte(t *testing.T) {
	checkOpened(t, []byte("\xff\xff\xff\xff\x00\xff\xff\xff\xff"), []byte("\xff\xff\xff\xff\x00"))
	for _, b := range small() {
		good := sealed(b)
		for x := range 256 {
			checkRefused(t, "a byte added at the end", append(bytes.Clone(good), byte(x)))
			for i := range good {
				checkJudged(t, "a byte added", append(append(bytes.Clone(good[:i]), byte(x)), good[i:]...))
			}
		}
	}
}

func TestP2_2_OpenOfMissingByte(t *testing.T) {
	for _, b := range bodies() {
		good := sealed(b)
		checkRefused(t, "the last byte missing", good[:len(good)-1])
		if len(b) == 0 {
			continue
		}
		for i := range good {
			checkJudged(t, "a byte missing", append(bytes.Clone(good[:i]), good[i+1:]...))
		}
	}
}

func TestP2_2_ArgumentsStay(t *testing.T) {
	for _, b := range bodies() {
		front, whole := roomy(b)
		crc.Seal(front)
		checkRoom(t, whole, b)
		good := sealed(b)
		front, whole = roomy(good)
		crc.Open(front)
		checkRoom(t, whole, good)
		good[0] ^= 1
		front, whole = roomy(good)
		crc.Open(front)
		checkRoom(t, whole, good)
	}
}

func TestP2_2_ResultsAreNew(t *testing.T) {
	for _, b := range bodies() {
		front, whole := roomy(b)
		first, second := crc.Seal(front), crc.Seal(front)
		overwrite(first)
		checkRoom(t, whole, b)
		if !bytes.Equal(second, sealed(b)) {
			t.Fatalf("two results of Seal share memory")
		}
		front, whole = roomy(second)
		body, _ := crc.Open(front)
		other, _ := crc.Open(front)
		overwrite(body)
		checkRoom(t, whole, sealed(b))
		if !bytes.Equal(other, b) {
			t.Fatalf("two results of Open share memory")
		}
	}
}

func TestP2_3_OpenOfSeal(t *testing.T) {
	for _, b := range bodies() {
		checkOpened(t, crc.Seal(b), b)
		checkOpened(t, crc.Seal(crc.Seal(b)), crc.Seal(b))
	}
}

// invertRun inverts the bits of b from the place on where those of run, from the lowest, are 1, and reports whether there is room for it.
func invertRun(b []byte, place int, run uint32) bool {
	if place+bits.Len32(run) > 8*len(b) {
		return false
	}
	for ; run != 0; run &= run - 1 {
		invert(b, place+bits.TrailingZeros32(run))
	}
	return true
}

// runs are what may be inverted within 32 bits, from the first that is: one bit, all up to each length, just the first and the last, and mixed ones.
func runs() []uint32 {
	out := []uint32{0x82f63b78 >> 3, 0xedb88320 >> 5, 0x05ec76f1}
	m := mixer(3)
	for length := 1; length <= 32; length++ {
		last := uint32(1) << (length - 1)
		out = append(out, 1|last, last|(last-1))
		for range 4 {
			out = append(out, 1|last|uint32(m.next())&(last-1))
		}
	}
	return out
}

func TestP2_3_Inverted(t *testing.T) {
	m := mixer(4)
	all := [][]byte{nil, {0}, {0xff}, []byte("123456789"), make([]byte, 40), m.bytes(61)}
	for _, b := range all {
		good := crc.Seal(b)
		for place := range 8 * len(good) {
			for _, run := range runs() {
				bad := bytes.Clone(good)
				if invertRun(bad, place, run) {
					checkRefused(t, "bits inverted", bad)
				}
			}
		}
	}
}

func TestP2_3_InvertedAtTheEnds(t *testing.T) {
	for _, b := range bodies() {
		good := crc.Seal(b)
		last := 8*len(good) - 1
		for _, places := range [][]int{{0}, {last}, {0, 31}, {last - 31, last}, {7, 8}, {last - 8, last - 7}, {last - 32, last - 31}} {
			if places[0] < 0 {
				continue
			}
			bad := bytes.Clone(good)
			for _, place := range places {
				invert(bad, place)
			}
			checkRefused(t, "bits inverted at an end", bad)
		}
		for _, place := range []int{0, last - 31} {
			bad := bytes.Clone(good)
			invertRun(bad, place, 0xffffffff)
			checkRefused(t, "just 32 bits inverted at an end", bad)
		}
	}
}

func TestP2_4_Pieces(t *testing.T) {
	for _, b := range bodies() {
		want := crc.Sum(b)
		for cut := range len(b) + 1 {
			if got := crc.More(crc.Sum(b[:cut]), b[cut:]); got != want {
				t.Fatalf("%d bytes, cut at %d: %08x, not %08x", len(b), cut, got, want)
			}
		}
	}
}

func TestP2_4_ManyPieces(t *testing.T) {
	m := mixer(5)
	for _, b := range bodies() {
		for most := range uint64(9) {
			var got uint32
			for rest := b; ; {
				n := min(len(rest), int(m.next()%(most+1)))
				// A most of 0 yields empty pieces alone, so that one byte must follow each of them.
				got = crc.More(got, rest[:n])
				got = crc.More(got, nil)
				rest = rest[n:]
				if len(rest) == 0 {
					break
				}
				got, rest = crc.More(got, rest[:1]), rest[1:]
			}
			if want := crc.Sum(b); got != want {
				t.Fatalf("%d bytes in pieces: %08x, not %08x", len(b), got, want)
			}
		}
	}
}

func TestP2_4_Xor(t *testing.T) {
	m := mixer(6)
	for n := range 70 {
		for range 20 {
			a, b, c := m.bytes(n), m.bytes(n), m.bytes(n)
			xor := make([]byte, n)
			for i := range xor {
				xor[i] = a[i] ^ b[i] ^ c[i]
			}
			if got, want := crc.Sum(a)^crc.Sum(b)^crc.Sum(c), crc.Sum(xor); got != want {
				t.Fatalf("%x, %x, %x: %08x, not %08x", a, b, c, got, want)
			}
		}
	}
}
