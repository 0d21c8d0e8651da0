package octet_test

import (
	"bytes"
	"math"
	"strings"
	"testing"

	"posthouse/api"
	"posthouse/octet"
)

var noWidths = []int{0, 3, 5, 6, 7, 9, 16, -1, -2, -8, math.MinInt, math.MaxInt}

// checkBad asks a bad reader for all there is: it answers zero values, and stays bad.
func checkBad(t *testing.T, r *octet.Reader) {
	t.Helper()
	for range 2 {
		if !r.Bad() || r.Left() != 0 {
			t.Fatalf("Bad is %v, Left %d", r.Bad(), r.Left())
		}
		if n := r.Num(1); n != 0 {
			t.Errorf("Num of a bad reader: %d", n)
		}
		if s := r.Text(1, 9); s != "" {
			t.Errorf("Text of a bad reader: %q", s)
		}
		if b := r.Take(1); len(b) != 0 {
			t.Errorf("Take(1) of a bad reader: %x", b)
		}
		if b := r.Take(0); len(b) != 0 {
			t.Errorf("Take(0) of a bad reader: %x", b)
		}
	}
}

// checkGood asks whether a reader is good and has so many bytes left.
func checkGood(t *testing.T, r *octet.Reader, left int) {
	t.Helper()
	if r.Bad() || r.Left() != left {
		t.Errorf("Bad is %v, Left %d, not %d", r.Bad(), r.Left(), left)
	}
}

// roomy returns the bytes of s in the front of a longer array, and the whole array.
func roomy(s string) (front, whole []byte) {
	whole = []byte(s + strings.Repeat("\xee", 32))
	return whole[:len(s)], whole
}

// checkRoom asks whether b and the memory after it are as roomy made them.
func checkRoom(t *testing.T, whole []byte, s string) {
	t.Helper()
	if string(whole) != s+strings.Repeat("\xee", 32) {
		t.Errorf("argument changed: %x", whole)
	}
}

// overwrite changes b, its spare capacity included.
func overwrite(b []byte) {
	b = b[:cap(b)]
	for i := range b {
		b[i] = 0x5a
	}
}

func TestP1_1Put(t *testing.T) {
	const n = 0x0102030405060708
	for _, c := range []struct {
		b     string
		n     uint64
		width int
		want  string
	}{
		{"", n, 1, "\x08"},
		{"", n, 2, "\x07\x08"},
		{"", n, 4, "\x05\x06\x07\x08"},
		{"", n, 8, "\x01\x02\x03\x04\x05\x06\x07\x08"},
		{"\x07", 258, 2, "\x07\x01\x02"},
		{"", 258, 1, "\x02"},
		{"ab", 0, 4, "ab\x00\x00\x00\x00"},
		{"ab", 0, 8, "ab\x00\x00\x00\x00\x00\x00\x00\x00"},
		{"", math.MaxUint64, 1, "\xff"},
		{"", math.MaxUint64, 2, "\xff\xff"},
		{"", math.MaxUint64, 4, "\xff\xff\xff\xff"},
		{"", math.MaxUint64, 8, "\xff\xff\xff\xff\xff\xff\xff\xff"},
		{"\x07", 1 << 32, 4, "\x07\x00\x00\x00\x00"},
	} {
		if got := octet.Put([]byte(c.b), c.n, c.width); string(got) != c.want {
			t.Errorf("Put(%q, %d, %d): %x", c.b, c.n, c.width, got)
		}
	}
	if got := octet.Put(nil, 7, 1); string(got) != "\x07" {
		t.Errorf("Put after nil: %x", got)
	}
}

func TestP1_1PutNoWidth(t *testing.T) {
	for _, width := range noWidths {
		if got := octet.Put([]byte{7, 8}, 1, width); string(got) != "\x07\x08" {
			t.Errorf("Put with width %d: %x", width, got)
		}
		if got := octet.Put(nil, 1, width); len(got) != 0 {
			t.Errorf("Put after nil with width %d: %x", width, got)
		}
	}
}

func TestP1_1PutText(t *testing.T) {
	most1, most2 := strings.Repeat("x", 255), strings.Repeat("y", 65535)
	for _, c := range []struct {
		b, s  string
		width int
		want  string
		e     api.Errno
	}{
		{"", "ab", 1, "\x02ab", api.OK},
		{"", "ab", 2, "\x00\x02ab", api.OK},
		{"", "ab", 4, "\x00\x00\x00\x02ab", api.OK},
		{"zz", "\x00\xff", 1, "zz\x02\x00\xff", api.OK},
		{"zz", "", 1, "zz\x00", api.OK},
		{"", "", 2, "\x00\x00", api.OK},
		{"", "", 4, "\x00\x00\x00\x00", api.OK},
		{"", most1, 1, "\xff" + most1, api.OK},
		{"q", most1 + "x", 1, "", api.ErrLong},
		{"", most1 + "x", 2, "\x01\x00" + most1 + "x", api.OK},
		{"q", most2, 2, "q\xff\xff" + most2, api.OK},
		{"q", most2 + "y", 1, "", api.ErrLong},
		{"q", most2 + "y", 2, "", api.ErrLong},
		{"q", most2 + "y", 4, "q\x00\x01\x00\x00" + most2 + "y", api.OK},
		{"q", "a", 8, "", api.ErrArg},
		{"q", most2 + "y", 8, "", api.ErrArg},
	} {
		got, e := octet.PutText([]byte(c.b), c.s, c.width)
		if string(got) != c.want || e != c.e {
			t.Errorf("PutText of %d bytes with width %d: %d bytes, %d", len(c.s), c.width, len(got), e)
		}
	}
	for _, width := range noWidths {
		for _, s := range []string{"", "a", most1 + "x"} {
			if got, e := octet.PutText([]byte("q"), s, width); len(got) != 0 || e != api.ErrArg {
				t.Errorf("PutText of %d bytes with width %d: %x, %d", len(s), width, got, e)
			}
		}
	}
}

// What is put is new memory: neither the argument nor the room after it is written to or shared.
func TestP1_1NewMemory(t *testing.T) {
	puts := map[string]func(b []byte) []byte{
		"Put":               func(b []byte) []byte { return octet.Put(b, 258, 2) },
		"Put without width": func(b []byte) []byte { return octet.Put(b, 258, 3) },
		"PutText": func(b []byte) []byte {
			out, _ := octet.PutText(b, "ab", 1)
			return out
		},
	}
	for name, put := range puts {
		t.Run(name, func(t *testing.T) {
			b, whole := roomy("abc")
			first, second := put(b), put(b)
			checkRoom(t, whole, "abc")
			want := string(first)
			overwrite(second)
			checkRoom(t, whole, "abc")
			if string(first) != want {
				t.Errorf("two results share memory: %x", first)
			}
			overwrite(whole)
			if string(first) != want {
				t.Errorf("the result shares the argument's memory: %x", first)
			}
		})
	}
}

func TestP1_2Open(t *testing.T) {
	b, whole := roomy("\x01\x02\x03")
	r := octet.Open(b)
	overwrite(whole)
	if got := r.Take(3); string(got) != "\x01\x02\x03" {
		t.Errorf("a reader follows later changes: %x", got)
	}
	checkGood(t, r, 0)
	checkGood(t, octet.Open(nil), 0)
	checkGood(t, octet.Open([]byte{}), 0)

	one, other := octet.Open([]byte("ab")), octet.Open([]byte("ab"))
	one.Take(9)
	checkBad(t, one)
	checkGood(t, other, 2)
}

func TestP1_2Num(t *testing.T) {
	const b = "\x81\x02\x03\x04\x05\x06\x07\xff\x99"
	for _, c := range []struct {
		width int
		want  uint64
	}{
		{1, 0x81}, {2, 0x8102}, {4, 0x81020304}, {8, 0x81020304050607ff},
	} {
		r := octet.Open([]byte(b))
		if n := r.Num(c.width); n != c.want {
			t.Errorf("Num(%d): %x", c.width, n)
		}
		checkGood(t, r, len(b)-c.width)
	}
	r := octet.Open([]byte{1, 2, 3})
	if n := r.Num(2); n != 258 {
		t.Errorf("Num(2): %d", n)
	}
	checkGood(t, r, 1)
	if n := r.Num(2); n != 0 {
		t.Errorf("Num(2) with one byte left: %d", n)
	}
	checkBad(t, r)
}

func TestP1_2NumWrong(t *testing.T) {
	for _, width := range []int{1, 2, 4, 8} {
		fits := octet.Open(bytes.Repeat([]byte{0xff}, width))
		if n := fits.Num(width); n != math.MaxUint64>>(64-8*width) {
			t.Errorf("Num(%d) that just fits: %x", width, n)
		}
		checkGood(t, fits, 0)
		for left := range width {
			short := octet.Open(bytes.Repeat([]byte{0xff}, left))
			if n := short.Num(width); n != 0 {
				t.Errorf("Num(%d) of %d bytes: %x", width, left, n)
			}
			checkBad(t, short)
		}
	}
	for _, width := range noWidths {
		r := octet.Open(bytes.Repeat([]byte{0xff}, 20))
		if n := r.Num(width); n != 0 {
			t.Errorf("Num(%d): %x", width, n)
		}
		checkBad(t, r)
	}
}

func TestP1_2Text(t *testing.T) {
	long := strings.Repeat("z", 300)
	for _, c := range []struct {
		b           string
		width, most int
		want        string
		left        int
	}{
		{"\x02abc", 1, 9, "ab", 1},
		{"\x02abc", 1, 2, "ab", 1},
		{"\x02ab", 1, math.MaxInt, "ab", 0},
		{"\x00\x02abc", 2, 2, "ab", 1},
		{"\x00\x00\x00\x02abc", 4, 2, "ab", 1},
		{"\x00abc", 1, 0, "", 3},
		{"\x00\x00", 2, 0, "", 0},
		{"\x00\x00\x00\x00", 4, 0, "", 0},
		{"\x03\x00\xff\x80", 1, 3, "\x00\xff\x80", 0},
		{"\x01\x2c" + long + "!", 2, 300, long, 1},
		{"\x00\x00\x01\x2c" + long, 4, 300, long, 0},
	} {
		r := octet.Open([]byte(c.b))
		if s := r.Text(c.width, c.most); s != c.want {
			t.Errorf("Text(%d, %d) of %q: %q", c.width, c.most, c.b, s)
		}
		checkGood(t, r, c.left)
	}
}

func TestP1_2TextWrong(t *testing.T) {
	for _, c := range []struct {
		b           string
		width, most int
	}{
		{"\x02abc", 1, 1},
		{"\x02abc", 1, 0},
		{"\x02abc", 1, -1},
		{"\x00abc", 1, -1},
		{"\x00abc", 1, math.MinInt},
		{"\x02a", 1, 9},
		{"\x02", 1, 9},
		{"", 1, 9},
		{"\x00", 2, 9},
		{"", 2, 9},
		{"\x00\x03ab", 2, 9},
		{"\x01\x02ab", 2, 9},
		{"\x00\x00\x00", 4, 9},
		{"\x00\x00\x00\x03ab", 4, 9},
		{"\x01\x00\x00\x02ab", 4, math.MaxInt},
		{"\xff\xff\xff\xffab", 4, math.MaxInt},
		{"\x80\x00\x00\x00ab", 4, math.MaxInt},
		{"\x00\x00\x00\x00\x00\x00\x00\x01a", 8, 9},
	} {
		r := octet.Open([]byte(c.b))
		if s := r.Text(c.width, c.most); s != "" {
			t.Errorf("Text(%d, %d) of %q: %q", c.width, c.most, c.b, s)
		}
		checkBad(t, r)
	}
	for _, width := range noWidths {
		r := octet.Open(make([]byte, 20))
		if s := r.Text(width, 9); s != "" {
			t.Errorf("Text with width %d: %q", width, s)
		}
		checkBad(t, r)
	}
}

func TestP1_2Take(t *testing.T) {
	r := octet.Open([]byte("abcde"))
	for _, c := range []struct {
		n    int
		want string
		left int
	}{
		{2, "ab", 3}, {0, "", 3}, {1, "c", 2}, {2, "de", 0}, {0, "", 0},
	} {
		if b := r.Take(c.n); string(b) != c.want {
			t.Errorf("Take(%d): %q", c.n, b)
		}
		checkGood(t, r, c.left)
	}
	for _, n := range []int{-1, math.MinInt, 4, math.MaxInt} {
		r := octet.Open([]byte("abc"))
		if b := r.Take(n); len(b) != 0 {
			t.Errorf("Take(%d) of 3 bytes: %q", n, b)
		}
		checkBad(t, r)
	}
}

func TestP1_2TakeNewMemory(t *testing.T) {
	r := octet.Open([]byte("abcdefgh"))
	first := r.Take(2)
	overwrite(first)
	second := r.Take(2)
	if string(second) != "cd" {
		t.Errorf("Take shares memory with the reader: %q", second)
	}
	overwrite(first)
	if string(second) != "cd" {
		t.Errorf("two results of Take share memory: %q", second)
	}
	overwrite(second)
	if s := string(r.Take(4)); s != "efgh" {
		t.Errorf("Take shares memory with the reader: %q", s)
	}
}

func TestP1_3Left(t *testing.T) {
	r := octet.Open([]byte("\x01\x00\x02\x01aXYZ"))
	checkGood(t, r, 8)
	r.Num(1)
	checkGood(t, r, 7)
	r.Num(2)
	checkGood(t, r, 5)
	r.Text(1, 1)
	checkGood(t, r, 3)
	r.Take(3)
	checkGood(t, r, 0)
	checkGood(t, r, 0)
	r.Take(1)
	checkBad(t, r)
}

func TestP1_3NoReader(t *testing.T) {
	for name, r := range map[string]*octet.Reader{"nil": nil, "zero": {}} {
		t.Run(name, func(t *testing.T) {
			checkBad(t, r)
			if r.Num(3) != 0 || r.Text(8, -1) != "" || len(r.Take(-1)) != 0 {
				t.Error("wrong arguments are answered")
			}
			checkBad(t, r)
		})
	}
}

func TestP1_4RoundTrip(t *testing.T) {
	var nums []uint64
	for bit := range 64 {
		nums = append(nums, 1<<bit-1, 1<<bit)
	}
	nums = append(nums, math.MaxUint64, 0x0123456789abcdef)
	for _, width := range []int{1, 2, 4, 8} {
		var b []byte
		for _, n := range nums {
			b = octet.Put(b, n, width)
		}
		r := octet.Open(b)
		for _, n := range nums {
			if got := r.Num(width); got != n&(math.MaxUint64>>(64-8*width)) {
				t.Errorf("width %d: %x was put, %x is read", width, n, got)
			}
		}
		checkGood(t, r, 0)
	}
	texts := []string{"", "a", "\x00\xff", strings.Repeat("b", 127), strings.Repeat("c", 128), strings.Repeat("\xfe", 255)}
	for _, width := range []int{1, 2, 4} {
		var b []byte
		for _, s := range texts {
			b, _ = octet.PutText(b, s, width)
		}
		r := octet.Open(b)
		for _, s := range texts {
			if got := r.Text(width, len(s)); got != s {
				t.Errorf("width %d: %q was put, %q is read", width, s, got)
			}
		}
		checkGood(t, r, 0)
	}
}

func TestP1_4TakesAreTheInput(t *testing.T) {
	var in []byte
	for i := range 256 {
		in = append(in, byte(i))
	}
	for step := 1; step < 40; step++ {
		r := octet.Open(in)
		var out []byte
		for r.Left() > 0 {
			out = append(out, r.Take(min(step, r.Left()))...)
		}
		if !bytes.Equal(out, in) {
			t.Errorf("pieces of %d: %x", step, out)
		}
		checkGood(t, r, 0)
	}
}

// Each way of making a reader bad is followed by a call that would have been answered before.
func TestP1_4StaysBad(t *testing.T) {
	for name, spoil := range map[string]func(*octet.Reader){
		"Num":  func(r *octet.Reader) { r.Num(3) },
		"Text": func(r *octet.Reader) { r.Text(1, 0) },
		"Take": func(r *octet.Reader) { r.Take(-1) },
	} {
		t.Run(name, func(t *testing.T) {
			r := octet.Open([]byte("\x01a\x01b"))
			checkGood(t, r, 4)
			spoil(r)
			checkBad(t, r)
		})
	}
}
