package xid_test

import (
	"bytes"
	"encoding/hex"
	"fmt"
	"math"
	"regexp"
	"slices"
	"strconv"
	"strings"
	"testing"

	"posthouse/api"
	"posthouse/xid"
)

const top = math.MaxUint32

// name is a name by its three fields.
func name(format uint32, global, branch string) api.Xid {
	return api.Xid{Format: format, Global: global, Branch: branch}
}

// show tells names in a line that is not too long.
func show(l ...api.Xid) string {
	s := fmt.Sprintf("%#v", l)
	return s[:min(len(s), 600)]
}

// allBytes are the bytes from 0 to 255.
func allBytes() string {
	b := make([]byte, 256)
	for i := range b {
		b[i] = byte(i)
	}
	return string(b)
}

// full is a part of MaxXid bytes.
func full(of string) string { return strings.Repeat(of, api.MaxXid)[:api.MaxXid] }

// ladder is valid names in their order, each pair of neighbours at an edge of it.
func ladder() []api.Xid {
	return []api.Xid{
		name(0, "\x00", ""),
		name(0, "\x00", "\x00"),
		name(0, "\x00", "\x00\x00"),
		name(0, "\x00", full("\x00")),
		name(0, "\x00", "\x01"),
		name(0, "\x00\x00", ""),
		name(0, full("\x00"), ""),
		name(0, "a", ""),
		name(0, "a", "b"),
		name(0, "a", "bc"),
		name(0, "a", "c"),
		name(0, "a", "\x7f"),
		name(0, "a", "\x80"),
		name(0, "a", "\xff"),
		name(0, "a", full("\xff")),
		name(0, "a\x00", ""),
		name(0, "ab", ""),
		name(0, "ab", "a"),
		name(0, "abc", ""),
		name(0, "b", ""),
		name(0, "b", "a"),
		name(0, "\x7f", full("\xff")),
		name(0, "\x80", ""),
		name(0, full("\xff"), full("\xff")),
		name(1, "\x00", ""),
		name(9, "b", "b"),
		name(10, "a", "a"),
		name(255, "a", ""),
		name(256, "a", ""),
		name(1<<31-1, "z", "z"),
		name(1<<31, "b", "y"),
		name(1<<31+1, "a", "x"),
		name(top, "\x00", ""),
		name(top, "é", "\n. "),
		name(top, full("\xff"), full("\xfe")),
		name(top, full("\xff"), full("\xff")),
	}
}

// wrongs are names that are not valid.
func wrongs() []api.Xid {
	over := full("a") + "a"
	return []api.Xid{
		{},
		name(0, "", "b"),
		name(7, "", ""),
		name(top, "", ""),
		name(7, "", full("b")),
		name(7, "", over),
		name(7, over, ""),
		name(7, over, "b"),
		name(0, over, over),
		name(7, "a", over),
		name(top, full("a"), over),
		name(7, full("\x00")+"\x00", ""),
		name(7, "a", full("\xff")+"\xff"),
		name(7, allBytes()[:255], ""),
		name(7, "a", allBytes()[:255]),
		name(7, allBytes(), ""),
		name(7, "a", allBytes()),
		name(7, strings.Repeat("a", 1<<16+1), "b"),
		name(7, "a", strings.Repeat("b", 1<<16)),
	}
}

// mixer yields the same numbers in each run.
type mixer uint64

func (m *mixer) next() uint64 {
	*m += 0x9e3779b97f4a7c15
	x := uint64(*m)
	x = (x ^ x>>30) * 0xbf58476d1ce4e5b9
	x = (x ^ x>>27) * 0x94d049bb133111eb
	return x ^ x>>31
}

// below is a number from 0 to n - 1.
func (m *mixer) below(n int) int { return int(m.next() % uint64(n)) }

// text is so many bytes, all from the first few ones or from all of them.
func (m *mixer) text(size int) string {
	few := 2 + m.below(2)*254
	b := make([]byte, size)
	for i := range b {
		b[i] = byte(m.below(few))
	}
	return string(b)
}

// name is a valid name, often one that is near to others.
func (m *mixer) name() api.Xid {
	most := 2 + m.below(2)*(api.MaxXid-2)
	x := name(uint32(m.below(3)), m.text(1+m.below(most)), m.text(m.below(most+1)))
	if m.below(2) == 0 {
		x.Format = uint32(m.next())
	}
	return x
}

// names are the ladder's, and mixed ones.
func names() []api.Xid {
	m := mixer(1)
	l := ladder()
	for range 400 {
		l = append(l, m.name())
	}
	return l
}

// encoded is the encoding of a name, valid or not, made without the package; the lengths of its parts must fit into a byte.
func encoded(x api.Xid) []byte {
	b := []byte{byte(x.Format >> 24), byte(x.Format >> 16), byte(x.Format >> 8), byte(x.Format)}
	b = append(append(b, byte(len(x.Global))), x.Global...)
	return append(append(b, byte(len(x.Branch))), x.Branch...)
}

// worded is the text of a name, valid or not, made without the package.
func worded(x api.Xid) string {
	return fmt.Sprintf("%d.%x.%x", x.Format, x.Global, x.Branch)
}

// form is what the chapter says of texts, but for the greatest number.
var form = regexp.MustCompile(`\A(0|[1-9][0-9]*)\.((?:[0-9a-f]{2}){1,64})\.((?:[0-9a-f]{2}){0,64})\z`)

// named is the name whose text is s, and whether there is one, found without the package.
func named(s string) (api.Xid, bool) {
	parts := form.FindStringSubmatch(s)
	if parts == nil {
		return api.Xid{}, false
	}
	format, err := strconv.ParseUint(parts[1], 10, 32)
	if err != nil {
		return api.Xid{}, false
	}
	global, err1 := hex.DecodeString(parts[2])
	branch, err2 := hex.DecodeString(parts[3])
	return name(uint32(format), string(global), string(branch)), err1 == nil && err2 == nil
}

// precedes is the order of names as the chapter words it, byte by byte.
func precedes(a, b api.Xid) bool {
	if a.Format != b.Format {
		return a.Format < b.Format
	}
	if a.Global != b.Global {
		return shorterOrLess(a.Global, b.Global)
	}
	return shorterOrLess(a.Branch, b.Branch)
}

// shorterOrLess tells of two different strings whether a is a proper prefix of b, or less at the first place where they differ.
func shorterOrLess(a, b string) bool {
	for i := range min(len(a), len(b)) {
		if a[i] != b[i] {
			return a[i] < b[i]
		}
	}
	return len(a) < len(b)
}

func TestP4_1_CheckValid(t *testing.T) {
	for _, x := range names() {
		if e := xid.Check(x); e != api.OK {
			t.Errorf("Check of %s: %d", show(x), e)
		}
	}
	for _, format := range []uint32{0, 1, 7, 1<<31 - 1, 1 << 31, 1<<31 + 1, top} {
		for global := 1; global <= api.MaxXid; global++ {
			for branch := 0; branch <= api.MaxXid; branch++ {
				x := name(format, allBytes()[256-global:], allBytes()[:branch])
				if e := xid.Check(x); e != api.OK {
					t.Fatalf("Check of %s: %d", show(x), e)
				}
			}
		}
	}
}

func TestP4_1_CheckWrong(t *testing.T) {
	for _, x := range wrongs() {
		if e := xid.Check(x); e != api.ErrXid {
			t.Errorf("Check of %s: %d", show(x), e)
		}
	}
	for size := api.MaxXid + 1; size < 600; size++ {
		long := strings.Repeat("a", size)
		for _, x := range []api.Xid{name(7, long, ""), name(7, "a", long), name(7, long, long)} {
			if e := xid.Check(x); e != api.ErrXid {
				t.Errorf("Check with a part of %d bytes: %d", size, e)
			}
		}
	}
}

func TestP4_1_CompareLadder(t *testing.T) {
	l := ladder()
	for i, a := range l {
		for j, b := range l {
			want := min(max(i-j, -1), 1)
			if got := xid.Compare(a, b); got != want {
				t.Errorf("Compare(%s, %s): %d, not %d", show(a), show(b), got, want)
			}
		}
	}
}

// Names that are not valid have their order, too.
func TestP4_1_CompareAsWorded(t *testing.T) {
	l := append(names(), wrongs()...)
	for _, a := range l {
		for _, b := range l {
			want := 0
			if a != b {
				want = 1
			}
			if precedes(a, b) {
				want = -1
			}
			if got := xid.Compare(a, b); got != want {
				t.Fatalf("Compare(%s, %s): %d, not %d", show(a), show(b), got, want)
			}
		}
	}
}

func TestP4_1_CompareWrongNames(t *testing.T) {
	over := full("a") + "a"
	for _, c := range []struct {
		a, b api.Xid
		want int
	}{
		{api.Xid{}, api.Xid{}, 0},
		{api.Xid{}, name(0, "", "b"), -1},
		{name(1, "", ""), name(0, "a", "b"), 1},
		{name(7, "", "z"), name(7, "a", ""), -1},
		{name(7, over, ""), name(7, full("a"), ""), 1},
		{name(7, over, "b"), name(7, over, "b"), 0},
		{name(7, over, "b"), name(7, over, "c"), -1},
		{name(7, "a", over), name(7, "a", full("a")), 1},
	} {
		if got := xid.Compare(c.a, c.b); got != c.want {
			t.Errorf("Compare(%s, %s): %d, not %d", show(c.a), show(c.b), got, c.want)
		}
		if got := xid.Compare(c.b, c.a); got != -c.want {
			t.Errorf("Compare(%s, %s): %d, not %d", show(c.b), show(c.a), got, -c.want)
		}
	}
}

func TestP4_1_OneGlobal(t *testing.T) {
	over := full("a") + "a"
	for _, c := range []struct {
		a, b api.Xid
		want bool
	}{
		{name(7, "ab", "c"), name(7, "ab", "c"), true},
		{name(7, "ab", "c"), name(7, "ab", ""), true},
		{name(7, "ab", "c"), name(7, "ab", full("c")), true},
		{name(0, "a", "\x00"), name(0, "a", "\xff"), true},
		{name(top, full("\xff"), ""), name(top, full("\xff"), "b"), true},
		{name(7, "ab", "c"), name(8, "ab", "c"), false},
		{name(7, "ab", ""), name(7+1<<16, "ab", ""), false},
		{name(0, "ab", ""), name(top, "ab", ""), false},
		{name(7, "ab", "c"), name(7, "a", "c"), false},
		{name(7, "ab", "c"), name(7, "abc", ""), false},
		{name(7, "ab", "c"), name(7, "a", "bc"), false},
		{name(7, "a", ""), name(7, "a\x00", ""), false},
		{name(7, "a", ""), name(7, "A", ""), false},
		{api.Xid{}, api.Xid{}, true},
		{name(7, "", "b"), name(7, "", "c"), true},
		{name(7, "", "b"), name(8, "", "b"), false},
		{name(7, over, ""), name(7, over, "b"), true},
		{name(7, over, ""), name(7, full("a"), ""), false},
		{name(7, "a", over), name(7, "a", ""), true},
	} {
		for _, pair := range [][2]api.Xid{{c.a, c.b}, {c.b, c.a}} {
			if got := xid.OneGlobal(pair[0], pair[1]); got != c.want {
				t.Errorf("OneGlobal of %s: %v", show(pair[:]...), got)
			}
		}
	}
	l := append(names(), wrongs()...)
	for _, a := range l {
		for _, b := range l {
			if got, want := xid.OneGlobal(a, b), a.Format == b.Format && a.Global == b.Global; got != want {
				t.Fatalf("OneGlobal(%s, %s): %v", show(a), show(b), got)
			}
		}
	}
}

func TestP4_2_Put(t *testing.T) {
	for _, c := range []struct {
		x    api.Xid
		want string
	}{
		{name(7, "ab", "c"), "\x00\x00\x00\x07\x02ab\x01c"},
		{name(7, "a", ""), "\x00\x00\x00\x07\x01a\x00"},
		{name(0, "\x00", "\x00"), "\x00\x00\x00\x00\x01\x00\x01\x00"},
		{name(top, "\xff", "\xff\x00"), "\xff\xff\xff\xff\x01\xff\x02\xff\x00"},
		{name(0x01020304, "a", ""), "\x01\x02\x03\x04\x01a\x00"},
		{name(7, full("a"), full("b")), "\x00\x00\x00\x07\x40" + full("a") + "\x40" + full("b")},
	} {
		if b, e := xid.Put(c.x); string(b) != c.want || e != api.OK {
			t.Errorf("Put(%s): %x, %d", show(c.x), b, e)
		}
	}
	for _, x := range names() {
		if b, e := xid.Put(x); !bytes.Equal(b, encoded(x)) || e != api.OK {
			t.Errorf("Put(%s): %x, %d", show(x), b, e)
		}
	}
}

func TestP4_2_PutWrong(t *testing.T) {
	for _, x := range wrongs() {
		if b, e := xid.Put(x); len(b) != 0 || e != api.ErrXid {
			t.Errorf("Put(%s): %.40x, %d", show(x), b, e)
		}
	}
}

// checkGot asks whether Get answers that name for b, and that it takes so many bytes.
func checkGot(t *testing.T, b []byte, want api.Xid, size int) {
	t.Helper()
	if x, n, e := xid.Get(b); x != want || n != size || e != api.OK {
		t.Fatalf("Get of %d bytes, %.40x: %s, %d, %d, not %s, %d", len(b), b, show(x), n, e, show(want), size)
	}
}

// checkRefused asks whether Get answers that error for b, and nothing else.
func checkRefused(t *testing.T, b []byte, want api.Errno) {
	t.Helper()
	if x, n, e := xid.Get(b); x != (api.Xid{}) || n != 0 || e != want {
		t.Fatalf("Get of %d bytes, %.40x: %s, %d, %d, not %d", len(b), b, show(x), n, e, want)
	}
}

func TestP4_2_Get(t *testing.T) {
	behind := []string{"", "\x00", "\xff", "\x00\x00\x00\x07\x01a\x00", strings.Repeat("\x05", 2000)}
	for _, x := range names() {
		b := encoded(x)
		for _, s := range behind {
			checkGot(t, append(bytes.Clone(b), s...), x, len(b))
		}
	}
}

func TestP4_2_GetShort(t *testing.T) {
	checkRefused(t, nil, api.ErrShort)
	checkRefused(t, []byte{}, api.ErrShort)
	for _, x := range ladder() {
		b := encoded(x)
		for end := range len(b) {
			checkRefused(t, b[:end], api.ErrShort)
			checkRefused(t, slices.Clip(b[:end]), api.ErrShort)
		}
	}
	for _, s := range []string{
		"\x00\x00\x00",
		"\x00\x00\x00\x07",
		"\x00\x00\x00\x07\x01",
		"\x00\x00\x00\x07\x02a",
		"\x00\x00\x00\x07\x01a",
		"\x00\x00\x00\x07\x01a\x01",
		"\x00\x00\x00\x07\x01a\x03bc",
		"\x00\x00\x00\x07\x40" + full("a")[1:],
		"\x00\x00\x00\x07\x01a\x40" + full("b")[1:],
	} {
		checkRefused(t, []byte(s), api.ErrShort)
	}
}

func TestP4_2_GetWrong(t *testing.T) {
	checkRefused(t, []byte("\x00\x00\x00\x07\x00\x00"), api.ErrXid)
	checkRefused(t, []byte("\x00\x00\x00\x07\x00\x01b"), api.ErrXid)
	checkRefused(t, make([]byte, 6), api.ErrXid)
	checkRefused(t, make([]byte, 6000), api.ErrXid)
	for _, x := range wrongs() {
		if len(x.Global) > 255 || len(x.Branch) > 255 {
			continue
		}
		b := encoded(x)
		checkRefused(t, b, api.ErrXid)
		checkRefused(t, append(bytes.Clone(b), 0xff), api.ErrXid)
		checkRefused(t, append(bytes.Clone(b), make([]byte, 3000)...), api.ErrXid)
		// ErrShort comes before the ErrXid of a part that can be seen to be wrong already.
		for end := range len(b) {
			checkRefused(t, b[:end], api.ErrShort)
		}
	}
}

// All lengths of both parts, with just the bytes for them, with one too few, and with some behind them.
func TestP4_2_GetLengths(t *testing.T) {
	for global := range 256 {
		for branch := range 256 {
			x := name(7, strings.Repeat("a", global), strings.Repeat("b", branch))
			b := encoded(x)
			checkRefused(t, b[:len(b)-1], api.ErrShort)
			if global == 0 || global > api.MaxXid || branch > api.MaxXid {
				checkRefused(t, b, api.ErrXid)
				checkRefused(t, append(b, 'b'), api.ErrXid)
				continue
			}
			checkGot(t, b, x, len(b))
			checkGot(t, append(b, 'b'), x, len(b))
		}
	}
}

func TestP4_2_ArgumentsStay(t *testing.T) {
	room := bytes.Repeat([]byte{0xee}, 600)
	for _, x := range append(ladder(), wrongs()[:12]...) {
		whole := append(encoded(x), room...)
		before := bytes.Clone(whole)
		front := whole[:len(whole)-len(room)]
		got, _, e := xid.Get(front)
		if !bytes.Equal(whole, before) {
			t.Errorf("argument changed: %x", whole)
		}
		for i := range whole {
			whole[i] = 'z'
		}
		if e == api.OK && got != x {
			t.Errorf("the result follows the argument: %s", show(got))
		}
	}
}

func TestP4_2_NewMemory(t *testing.T) {
	for _, x := range ladder() {
		first, _ := xid.Put(x)
		second, _ := xid.Put(x)
		second = second[:cap(second)]
		for i := range second {
			second[i] ^= 0x55
		}
		if !bytes.Equal(first, encoded(x)) {
			t.Errorf("two results share memory: %x", first)
		}
	}
}

// checkParsed asks whether Parse answers that name for s.
func checkParsed(t *testing.T, s string, want api.Xid) {
	t.Helper()
	if x, e := xid.Parse(s); x != want || e != api.OK {
		t.Fatalf("Parse(%.300q): %s, %d, not %s", s, show(x), e, show(want))
	}
}

// checkNoText asks whether Parse answers ErrForm for s, and nothing else.
func checkNoText(t *testing.T, s string) {
	t.Helper()
	if x, e := xid.Parse(s); x != (api.Xid{}) || e != api.ErrForm {
		t.Fatalf("Parse(%.300q): %s, %d", s, show(x), e)
	}
}

// checkAsWorded asks whether Parse answers for s what the chapter's words say of it, and returns whether it is a text.
func checkAsWorded(t *testing.T, s string) bool {
	t.Helper()
	want, is := named(s)
	if is {
		checkParsed(t, s, want)
	} else {
		checkNoText(t, s)
	}
	return is
}

func TestP4_3_TextParse(t *testing.T) {
	for _, c := range []struct {
		x    api.Xid
		text string
	}{
		{name(7, "ab", ""), "7.6162."},
		{name(7, "a", ""), "7.61."},
		{name(7, "a", "b"), "7.61.62"},
		{name(0, "\x00", "\x00"), "0.00.00"},
		{name(0, "\x09\x0a", "\x9a\xa9"), "0.090a.9aa9"},
		{name(10, "0", "."), "10.30.2e"},
		{name(1000000000, "é", "\n"), "1000000000.c3a9.0a"},
		{name(2147483648, "a", ""), "2147483648.61."},
		{name(2147483649, "1", ""), "2147483649.31."},
		{name(4294967295, "\xff", "\xfe\xef"), "4294967295.ff.feef"},
		{name(4294967295, full("\xff"), full("\x00")), "4294967295." + strings.Repeat("ff", 64) + "." + strings.Repeat("00", 64)},
	} {
		if s, e := xid.Text(c.x); s != c.text || e != api.OK {
			t.Errorf("Text(%s): %q, %d", show(c.x), s, e)
		}
		checkParsed(t, c.text, c.x)
	}
	for _, x := range names() {
		if s, e := xid.Text(x); s != worded(x) || e != api.OK {
			t.Errorf("Text(%s): %q, %d", show(x), s, e)
		}
		checkParsed(t, worded(x), x)
	}
}

func TestP4_3_EachByte(t *testing.T) {
	for c := range 256 {
		b := string([]byte{byte(c)})
		for _, x := range []api.Xid{name(7, b, ""), name(7, "a", b), name(7, b+"a", "b"+b)} {
			if s, e := xid.Text(x); s != worded(x) || e != api.OK {
				t.Errorf("Text(%s): %q, %d", show(x), s, e)
			}
			checkParsed(t, worded(x), x)
		}
	}
}

func TestP4_3_TextWrong(t *testing.T) {
	for _, x := range wrongs() {
		if s, e := xid.Text(x); s != "" || e != api.ErrXid {
			t.Errorf("Text(%s): %.40q, %d", show(x), s, e)
		}
	}
}

func TestP4_3_ParseWrongNumber(t *testing.T) {
	for _, number := range []string{
		"", "00", "01", "07", "007", "0000000000000000000000007", "04294967295",
		"4294967296", "4294967297", "4294967303", "9999999999", "10000000000", "42949672950", "42949672960",
		"9223372036854775808", "18446744073709551615", "18446744073709551616", "18446744073709551623",
		"79228162514264337593543950343", strings.Repeat("9", 5000), "1" + strings.Repeat("0", 64),
		"+7", "-7", "-0", "+0", " 7", "7 ", "\t7", "7\n", "7,0", "7_0", "0x7", "7e0", "1e9", "a", "f", "7a", "a7", "7f", "NaN",
	} {
		for _, rest := range []string{".61.", ".61.62", "." + strings.Repeat("61", 64) + "."} {
			checkNoText(t, number+rest)
		}
	}
}

func TestP4_3_ParseWrongStops(t *testing.T) {
	for _, s := range []string{
		"", ".", "..", "...", "7", "7.", "7..", "7...", "7.61", "61", ".61.", "..61", ".61.62", "7..61", "7..62", "7.61..", "7.61.62.",
		"7.61.62.63", "7.61..62", "7.61...", "7.6162", "7.61,", "7,61,", "7:61:", "7 61 ", ".7.61.", "7.61. ", " 7.61.", "7 .61.", "7. 61.",
		"7.61 .", "7.61.\n", "7.61.\x00", "\x007.61.", "7.61.62 ", "7/61/", "7.61.-", "7.61.0x62",
	} {
		checkNoText(t, s)
	}
}

func TestP4_3_ParseWrongDigits(t *testing.T) {
	for _, s := range []string{
		"7.6.", "7.6.62", "7.61.6", "7.616.", "7.616.62", "7.61.626", "7.6.6", "7.61.6.2", "7.6.1.", "7.6.162",
		"7.6A.", "7.6a.6A", "7.A6.", "7.AA.", "7.6F.", "7.FF.ff", "7.ff.FF", "7.61.6B", "7.61.B6", "7.6C.", "7.6D.", "7.6E.", "7.61.CC",
		"7.6g.", "7.g6.", "7.61.6g", "7.61.g6", "7.zz.", "7.0x.", "7.x0.", "7.6/.", "7.6:.", "7.6@.", "7.6`.", "7.+6.", "7.-6.", "7. 6.", "7.6 .", "7.61.6 ",
	} {
		checkNoText(t, s)
	}
	for _, c := range "ABCDEFghijklmnopqrstuvwxyzGHIJKLMNOPQRSTUVWXYZ" {
		for _, s := range []string{"7.6#.", "7.#6.", "7.61.6#", "7.61.#6", "7#.61.", "#.61.", "7.61#.", "7.61.62#"} {
			checkNoText(t, strings.ReplaceAll(s, "#", string(c)))
		}
	}
}

func TestP4_3_ParseWrongLengths(t *testing.T) {
	for _, s := range []string{"00", "61", "ff"} {
		long := strings.Repeat(s, api.MaxXid)
		checkParsed(t, "7."+long+"."+long, name(7, bytesOf(t, long), bytesOf(t, long)))
		for _, over := range []string{long + s, long + "6", long + s + "6", strings.Repeat(s, 256), strings.Repeat(s, 257), strings.Repeat(s, 1<<16+1)} {
			checkNoText(t, "7."+over+".")
			checkNoText(t, "7."+over+".62")
			checkNoText(t, "7.61."+over)
			checkNoText(t, "7."+over+"."+over)
		}
	}
}

// bytesOf is the bytes of those hexadecimal digits.
func bytesOf(t *testing.T, digits string) string {
	t.Helper()
	b, err := hex.DecodeString(digits)
	if err != nil {
		t.Fatal(err)
	}
	return string(b)
}

// Runes that are no digits and no full stop, though some count as digits elsewhere, and the low byte of many is that of one; and bytes that are no UTF-8.
func TestP4_3_ParseWrongRunes(t *testing.T) {
	wrong := []string{
		"\u0130", "\u0137", "\u0161", "\u0166", "\u012e", "\u022e", "\u0630", "\u0632", "\u4e30", "\u4e2e", "\U00010037", "\U0001002e", "\U00010361",
		"\u0667", "\u06f7", "\u0967", "\uff17", "\uff41", "\uff0e", "\u2024", "\u3002", "\u00b2", "\u00bd", "\u2167", "\U0001d7d5", "é", "\ufeff", "\ufffd", "\u200b",
		"\x80", "\xff", "\xfe", "\xc0", "\xc3", "\xe2\x80", "\xf0\x9d\x9f", "\xb7", "\xae",
		"\xc0\xb7", "\xc0\xae", "\xc1\xa1", "\xe0\x80\xb7", "\xf0\x80\x80\xb7", "\xed\xa0\xb7", "\xf4\x90\x80\xb7", "\xf8\x80\x80\x80\xb7",
	}
	for _, w := range wrong {
		for _, s := range []string{
			"#", "#.61.", "7#.61.", "#7.61.", "7#61.", "7.#.", "7.6#.", "7.#1.", "7.##.", "7.61#.", "7.#61.", "7.61#", "7.61#62",
			"7.61.#", "7.61.6#", "7.61.#2", "7.61.##", "7.61.62#", "7.61.#62",
		} {
			checkNoText(t, strings.ReplaceAll(s, "#", w))
		}
	}
}

// All strings of up to six of the characters that matter most, by the chapter's words.
func TestP4_3_ParseAllShortStrings(t *testing.T) {
	const characters = "01a.A"
	all := []string{""}
	good := 0
	for start := 0; len(all) < 19531; {
		end := len(all)
		for _, s := range all[start:end] {
			for _, c := range characters {
				all = append(all, s+string(c))
			}
		}
		start = end
	}
	for _, s := range all {
		if checkAsWorded(t, s) {
			good++
		}
	}
	// A digit, or two of them that begin with 1, ahead of a Global of one byte.
	if want := 2*9 + 2*9; good != want {
		t.Errorf("%d texts among them, not %d", good, want)
	}
}

// All texts that differ in a byte from one that is valid: another one in its place, one more, one less, and two exchanged.
func TestP4_3_ParseNearTexts(t *testing.T) {
	for _, text := range []string{
		"7.61.", "0.00.ff", "10.6162.c3a9", "4294967295.61.62", "429496729.61.", "2147483649.31.",
		"7." + strings.Repeat("61", 64) + ".62", "7.61." + strings.Repeat("62", 64), "4294967295." + strings.Repeat("ff", 64) + "." + strings.Repeat("0a", 64),
	} {
		if !checkAsWorded(t, text) {
			t.Fatalf("%q is not valid", text)
		}
		for i := range len(text) {
			front, back := text[:i], text[i+1:]
			checkAsWorded(t, front)
			checkAsWorded(t, text[i:])
			checkAsWorded(t, front+back)
			if back != "" {
				checkAsWorded(t, front+back[:1]+text[i:i+1]+back[1:])
			}
			for c := range 256 {
				other := string([]byte{byte(c)})
				checkAsWorded(t, front+other+back)
				checkAsWorded(t, front+other+text[i:])
			}
		}
		for c := range 256 {
			checkAsWorded(t, text+string([]byte{byte(c)}))
		}
	}
}

// Numbers about each power of two and of ten, as a Format.
func TestP4_3_ParseNumbers(t *testing.T) {
	var numbers []uint64
	for shift := range 64 {
		numbers = append(numbers, 1<<shift-1, 1<<shift, 1<<shift+1)
	}
	for n := uint64(1); n <= math.MaxUint64/10; n *= 10 {
		numbers = append(numbers, n-1, n, n+1, 4*n, 42*n/10)
	}
	for _, n := range numbers {
		s := strconv.FormatUint(n, 10)
		if is := checkAsWorded(t, s+".61."); is != (n <= top) {
			t.Errorf("%s as a Format: %v", s, is)
		}
		checkNoText(t, "0"+s+".61.")
		checkAsWorded(t, s+"0.61.")
	}
}

func TestP4_4_Sorted(t *testing.T) {
	for _, c := range []struct{ l, want []api.Xid }{
		{nil, nil},
		{[]api.Xid{}, nil},
		{wrongs(), nil},
		{[]api.Xid{{}}, nil},
		{[]api.Xid{name(7, "a", "")}, []api.Xid{name(7, "a", "")}},
		{[]api.Xid{name(7, "a", ""), name(7, "a", "")}, []api.Xid{name(7, "a", "")}},
		{
			[]api.Xid{name(2, "b", ""), name(1, "b", ""), name(2, "a", ""), name(1, "b", ""), name(1, "", "")},
			[]api.Xid{name(1, "b", ""), name(2, "a", ""), name(2, "b", "")},
		},
		{
			// Twice, with another one and one that is not valid between the two.
			[]api.Xid{name(7, "a", "x"), name(7, "b", ""), name(7, "", ""), name(7, "a", "x"), name(7, "a", "")},
			[]api.Xid{name(7, "a", ""), name(7, "a", "x"), name(7, "b", "")},
		},
		{
			// One global transaction's branches are no duplicates.
			[]api.Xid{name(7, "a", "c"), name(7, "a", "b"), name(7, "a", ""), name(8, "a", "b"), name(7, "ab", "")},
			[]api.Xid{name(7, "a", ""), name(7, "a", "b"), name(7, "a", "c"), name(7, "ab", ""), name(8, "a", "b")},
		},
	} {
		if got := xid.Sorted(c.l); !slices.Equal(got, c.want) {
			t.Errorf("Sorted(%s): %s, not %s", show(c.l...), show(got...), show(c.want...))
		}
	}
}

// The ladder in many orders, its names there once to three times, with names that are not valid among them.
func TestP4_4_SortedInAnyOrder(t *testing.T) {
	m := mixer(2)
	want := ladder()
	for range 300 {
		var l []api.Xid
		for _, x := range want {
			for range 1 + m.below(3) {
				l = append(l, x)
			}
		}
		for range m.below(9) {
			l = append(l, wrongs()[m.below(len(wrongs()))])
		}
		for i := range l {
			j := i + m.below(len(l)-i)
			l[i], l[j] = l[j], l[i]
		}
		if got := xid.Sorted(l); !slices.Equal(got, want) {
			t.Fatalf("Sorted(%s): %s", show(l...), show(got...))
		}
	}
}

// Long lists, by what the chapter says of the result: the same valid names, each before the next one.
func TestP4_4_SortedAsWorded(t *testing.T) {
	m := mixer(3)
	for range 20 {
		var l []api.Xid
		valid := map[api.Xid]bool{}
		for range m.below(2000) {
			x := m.name()
			if m.below(10) == 0 {
				x.Global = ""
			} else {
				valid[x] = true
			}
			l = append(l, x)
		}
		got := xid.Sorted(l)
		if len(got) != len(valid) {
			t.Fatalf("Sorted: %d names, not %d", len(got), len(valid))
		}
		for i, x := range got {
			if !valid[x] || i > 0 && !precedes(got[i-1], x) {
				t.Fatalf("Sorted: %s at %d", show(x), i)
			}
		}
	}
}

// overwrite changes a list, its spare capacity included.
func overwrite(l []api.Xid) {
	l = l[:cap(l)]
	for i := range l {
		l[i] = name(5, "other", "")
	}
}

func TestP4_4_NewMemory(t *testing.T) {
	reversed := ladder()
	slices.Reverse(reversed)
	for _, l := range [][]api.Xid{ladder(), reversed, append(ladder(), reversed...), ladder()[:1], append(wrongs(), ladder()...)} {
		whole := append(slices.Clone(l), make([]api.Xid, 8)...)
		before := slices.Clone(whole)
		front := whole[:len(l)]
		first, second := xid.Sorted(front), xid.Sorted(front)
		want := slices.Clone(first)
		overwrite(second)
		if !slices.Equal(first, want) {
			t.Errorf("two results share memory: %s", show(first...))
		}
		if !slices.Equal(whole, before) {
			t.Errorf("argument changed: %s", show(whole...))
		}
		overwrite(whole)
		if !slices.Equal(first, want) {
			t.Errorf("the result follows the argument: %s", show(first...))
		}
	}
}

// What was written is read again, whatever bytes follow, and what was read is written as it was.
func TestP4_5_ThereAndBack(t *testing.T) {
	m := mixer(4)
	for _, x := range names() {
		text, e := xid.Text(x)
		if e != api.OK {
			t.Fatalf("Text(%s): %d", show(x), e)
		}
		checkParsed(t, text, x)
		b, e := xid.Put(x)
		if e != api.OK {
			t.Fatalf("Put(%s): %d", show(x), e)
		}
		for range 3 {
			checkGot(t, append(bytes.Clone(b), m.text(m.below(300))...), x, len(b))
		}
	}
}

func TestP4_5_TextOfParsed(t *testing.T) {
	const characters = "0127af..."
	m := mixer(5)
	var good, bad int
	for range 30000 {
		s := fmt.Sprintf("%d.", m.below(12))
		for range m.below(9) {
			s += characters[m.below(len(characters)):][:1]
		}
		x, e := xid.Parse(s)
		if e != api.OK {
			checkNoText(t, s)
			bad++
			continue
		}
		good++
		if back, e := xid.Text(x); back != s || e != api.OK {
			t.Fatalf("Text of what Parse returned of %q: %q, %d", s, back, e)
		}
	}
	if good < 1000 || bad < 1000 {
		t.Errorf("%d good ones, %d bad ones", good, bad)
	}
}

// Bytes with few numbers, of which many begin with a name and many do not.
func TestP4_5_PutOfGot(t *testing.T) {
	m := mixer(6)
	var good, bad int
	for range 30000 {
		b := []byte{0, byte(m.below(2)), 0, byte(m.next())}
		for range m.below(14) {
			b = append(b, byte(m.below(5)))
		}
		x, n, e := xid.Get(b)
		if e != api.OK {
			checkRefused(t, b, e)
			bad++
			continue
		}
		good++
		if back, e := xid.Put(x); !bytes.Equal(back, b[:n]) || e != api.OK {
			t.Fatalf("Put of what Get returned of %x, %d: %x, %d", b, n, back, e)
		}
	}
	if good < 1000 || bad < 1000 {
		t.Errorf("%d good ones, %d bad ones", good, bad)
	}
}

// Different names are written differently: short ones of all kinds, which are near to each other, and longer ones.
func TestP4_5_DifferentForms(t *testing.T) {
	parts := []string{"", "\x00", "\x01", "a", ".", "\x00\x00", "\x00\x01", "\x01a", "a\x00", "a.", ".a", "aa", "\x01\x00\x00", "a\x01b", "a.b"}
	l := names()
	for _, format := range []uint32{0, 1, 10, 100, 0x61, top} {
		for _, global := range parts[1:] {
			for _, branch := range parts {
				l = append(l, name(format, global, branch))
			}
		}
	}
	byBytes, byText := map[string]api.Xid{}, map[string]api.Xid{}
	for _, x := range l {
		b, _ := xid.Put(x)
		text, _ := xid.Text(x)
		if y, is := byBytes[string(b)]; is && y != x {
			t.Errorf("%s and %s are both %x", show(x), show(y), b)
		}
		if y, is := byText[text]; is && y != x {
			t.Errorf("%s and %s are both %s", show(x), show(y), text)
		}
		byBytes[string(b)], byText[text] = x, x
	}
}

func TestP4_5_TotalOrder(t *testing.T) {
	m := mixer(7)
	l := append(ladder(), wrongs()[:14]...)
	for range 30 {
		l = append(l, m.name())
	}
	for _, a := range l {
		for _, b := range l {
			ab := xid.Compare(a, b)
			if ab != -xid.Compare(b, a) || ab < -1 || ab > 1 || (ab == 0) != (a == b) {
				t.Fatalf("Compare(%s, %s): %d", show(a), show(b), ab)
			}
			for _, c := range l {
				if ab <= 0 && xid.Compare(b, c) <= 0 && xid.Compare(a, c) > 0 {
					t.Fatalf("%s, %s, %s in a circle", show(a), show(b), show(c))
				}
			}
		}
	}
}
