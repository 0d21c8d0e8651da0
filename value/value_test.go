package value_test

import (
	"bytes"
	"encoding/binary"
	"fmt"
	"math"
	"os"
	"runtime"
	"runtime/debug"
	"slices"
	"strconv"
	"strings"
	"syscall"
	"testing"
	"unicode/utf8"

	"posthouse/api"
	"posthouse/value"
)

// The limits as the chapter tells them.
const (
	mostDeep   = 6
	mostValues = 200
	mostBytes  = 4096
	mostKey    = 255
)

// kinds are all Kinds there are.
var kinds = []api.ValueKind{0xf0, 0x08, 0x02, 0x32, 0x31, 0x95, 0xa0, 0xa9, 0xa8}

func void() api.Value { return api.Value{Kind: api.ValueVoid} }

func number(kind api.ValueKind, n uint64) api.Value { return api.Value{Kind: kind, N: n} }

func text(s string) api.Value { return api.Value{Kind: api.ValueText, S: s} }

func octets(s string) api.Value { return api.Value{Kind: api.ValueBytes, S: s} }

func list(l ...api.Value) api.Value { return api.Value{Kind: api.ValueList, List: l} }

// dict is a map with those keys, in a line with stops between them.
func dict(keys string, l ...api.Value) api.Value {
	return api.Value{Kind: api.ValueMap, Keys: strings.Split(keys, "."), List: l}
}

// voids is so many voids.
func voids(n int) []api.Value { return slices.Repeat([]api.Value{void()}, n) }

// numbered is so many different keys.
func numbered(n int) []string {
	var keys []string
	for i := range n {
		keys = append(keys, strconv.Itoa(i))
	}
	return keys
}

// nested is v in so many lists, each in the next one.
func nested(v api.Value, lists int) api.Value {
	for range lists {
		v = list(v)
	}
	return v
}

// show tells a value so that two of them are told alike if and only if they are equal.
func show(v api.Value) string {
	var b strings.Builder
	fmt.Fprintf(&b, "{%x %d %q %q", uint8(v.Kind), v.N, v.S, v.Keys)
	for _, element := range v.List {
		b.WriteString(show(element))
	}
	b.WriteString("}")
	return b.String()
}

// short tells a value, or anything else, in a line that is not too long.
func short(x any) string {
	s := fmt.Sprint(x)
	if v, is := x.(api.Value); is {
		s = show(v)
	}
	return s[:min(len(s), 300)]
}

// depth is in how many others the deepest value in v is nested.
func depth(v api.Value) int {
	most := 0
	for _, element := range v.List {
		most = max(most, 1+depth(element))
	}
	return most
}

// count is how many values there are in v, itself included.
func count(v api.Value) int {
	n := 1
	for _, element := range v.List {
		n += count(element)
	}
	return n
}

// right tells whether v is valid, as the chapter words it, field by field.
func right(v api.Value) bool {
	usesN, usesS, usesList, usesKeys := false, false, false, false
	switch v.Kind {
	case 0xf0:
	case 0x08:
		usesN = v.N == 0 || v.N == 1
	case 0x02:
		usesN = v.N <= 255
	case 0x32, 0x31:
		usesN = true
	case 0x95:
		usesS = utf8.ValidString(v.S) && len(v.S) <= mostBytes
	case 0xa0:
		usesS = len(v.S) <= mostBytes
	case 0xa9:
		usesList = true
	case 0xa8:
		usesList, usesKeys = true, len(v.Keys) == len(v.List)
	default:
		return false
	}
	if v.N != 0 && !usesN || v.S != "" && !usesS || len(v.List) > 0 && !usesList || len(v.Keys) > 0 && !usesKeys || v.Kind == 0xa8 && !usesKeys {
		return false
	}
	for i, key := range v.Keys {
		if len(key) < 1 || len(key) > mostKey || !utf8.ValidString(key) || slices.Contains(v.Keys[:i], key) {
			return false
		}
	}
	for _, element := range v.List {
		if !right(element) {
			return false
		}
	}
	return true
}

// judged is what Check is to answer.
func judged(v api.Value) api.Errno {
	switch {
	case depth(v) > mostDeep-1:
		return api.ErrDeep
	case count(v) > mostValues:
		return api.ErrLong
	case !right(v):
		return api.ErrValue
	}
	return api.OK
}

// encoded is the encoding of a value, valid or not, made without the package.
func encoded(v api.Value) []byte {
	b := []byte{byte(v.Kind)}
	switch v.Kind {
	case 0x08, 0x02:
		b = append(b, byte(v.N))
	case 0x32, 0x31:
		b = binary.BigEndian.AppendUint64(b, v.N)
	case 0x95:
		b = append(binary.BigEndian.AppendUint16(b, uint16(len(v.S))), v.S...)
	case 0xa0:
		b = append(binary.BigEndian.AppendUint32(b, uint32(len(v.S))), v.S...)
	case 0xa9, 0xa8:
		var inner []byte
		for i, element := range v.List {
			if v.Kind == 0xa8 {
				inner = append(append(inner, byte(len(v.Keys[i]))), v.Keys[i]...)
			}
			inner = append(inner, encoded(element)...)
		}
		b = binary.BigEndian.AppendUint32(b, uint32(4+len(inner)))
		b = binary.BigEndian.AppendUint32(b, uint32(len(v.List)))
		b = append(b, inner...)
	}
	return b
}

// decoded is the value that is encoded at the start of b, found without the package, and what follows it there; it need not be valid.
func decoded(b []byte) (v api.Value, rest []byte, is bool) {
	if len(b) == 0 {
		return v, nil, false
	}
	v.Kind = api.ValueKind(b[0])
	switch b = b[1:]; v.Kind {
	case 0xf0:
		return v, b, true
	case 0x08, 0x02:
		v.N, rest, is = integer(b, 1)
	case 0x32, 0x31:
		v.N, rest, is = integer(b, 8)
	case 0x95:
		v.S, rest, is = sized(b, 2)
	case 0xa0:
		v.S, rest, is = sized(b, 4)
	case 0xa9, 0xa8:
		var inner string
		if inner, rest, is = sized(b, 4); is {
			v.Keys, v.List, is = members([]byte(inner), v.Kind == 0xa8)
		}
	}
	return v, rest, is
}

// integer is the integer of so many bytes at the start of b, and what follows it.
func integer(b []byte, width int) (uint64, []byte, bool) {
	if len(b) < width {
		return 0, nil, false
	}
	wide := make([]byte, 8)
	copy(wide[8-width:], b)
	return binary.BigEndian.Uint64(wide), b[width:], true
}

// sized is the string of that width at the start of b, and what follows it.
func sized(b []byte, width int) (string, []byte, bool) {
	n, rest, is := integer(b, width)
	if !is || n > uint64(len(rest)) {
		return "", nil, false
	}
	return string(rest[:n]), rest[n:], true
}

// members are what is in a list or a map of which b is all that follows the number of its bytes.
func members(b []byte, keyed bool) (keys []string, l []api.Value, is bool) {
	n, b, is := integer(b, 4)
	for ; is && n > 0; n-- {
		if keyed {
			var key string
			key, b, is = sized(b, 1)
			keys = append(keys, key)
		}
		if is {
			var v api.Value
			v, b, is = decoded(b)
			l = append(l, v)
		}
	}
	return keys, l, is && len(b) == 0
}

// edges are N, S and others at the chapter's edges.
func edges() []api.Value {
	full := strings.Repeat("x", mostBytes)
	l := []api.Value{void(), number(api.ValueBool, 0), number(api.ValueBool, 1)}
	for _, n := range []uint64{0, 1, 2, 127, 128, 254, 255} {
		l = append(l, number(api.ValueByte, n), number(api.ValueNum, n), number(api.ValueInt, n))
	}
	for _, n := range []uint64{256, 65535, 65536, math.MaxUint32, 1 << 32, 0x0102030405060708, math.MaxInt64, 1 << 63, math.MaxUint64 - 1, math.MaxUint64} {
		l = append(l, number(api.ValueNum, n), number(api.ValueInt, n))
	}
	for _, s := range append(goodTexts(), "", "a", "\x00", full[:255], full[:256], full[1:], full, strings.Repeat("é", mostBytes/2)) {
		l = append(l, text(s), octets(s))
	}
	for _, s := range append(badTexts(), strings.Repeat("\xff", mostBytes)) {
		l = append(l, octets(s))
	}
	return l
}

// goodTexts are strings of valid UTF-8: runes of each size at its edges, and what is read in the place of wrong bytes.
func goodTexts() []string {
	return []string{
		"k", "é", "\x7f", "\u0080", "\u07ff", "\u0800", "\ud7ff", "\ue000", "\ufffd", "\uffff", "\U00010000", "\U0010ffff", "\ufeff", "\u0000",
		"a\ufffd", "\ufffdb", "\ufffd\ufffd", "\ufffc\ufffd\ufffe", "a\u0300", "日本語", "k\x00k", "\xef\xbf\xbd",
	}
}

// badTexts are strings that are no UTF-8.
func badTexts() []string {
	return []string{
		"\x80", "\xbf", "\xff", "\xfe", "\xc0", "\xc3", "\xc3(", "\xe2\x82", "\xe2(\xa1", "\xf0\x9f\x98", "\xf8\x88\x80\x80\x80", "\xfc\x84\x80\x80\x80\x80",
		"\xc0\x80", "\xc1\xbf", "\xe0\x80\x80", "\xe0\x9f\xbf", "\xf0\x80\x80\x80", "\xf0\x8f\xbf\xbf",
		"\xed\xa0\x80", "\xed\xbf\xbf", "\xed\xa0\x80\xed\xb0\x80", "\xf4\x90\x80\x80", "\xf7\xbf\xbf\xbf",
		"a\xff", "\xffa", "a\xffb", "é\xc3", "\xa9é", "\xef\xbf", "\xef\xbf\xbd\xef", "\xff\ufffd", "\ufffd\xff", "\xef\xef\xbf\xbd", "\xe2\x82\xef\xbf\xbd",
	}
}

// valids are valid values: the edges, in lists and maps of one and of many, as deep and as large as may be.
func valids() []api.Value {
	l := edges()
	longKey, wideKey := strings.Repeat("k", mostKey), strings.Repeat("é", mostKey/2)+"k"
	for _, v := range edges() {
		l = append(l, list(v), dict("k", v), list(list(v), v), dict("a.b", v, dict(longKey, v)))
	}
	for _, key := range append(goodTexts(), "a", "\x00", longKey, wideKey, longKey[1:]) {
		l = append(l, api.Value{Kind: api.ValueMap, Keys: []string{key}, List: []api.Value{void()}})
	}
	for n := range mostValues {
		l = append(l, list(voids(n)...), api.Value{Kind: api.ValueMap, Keys: numbered(n), List: voids(n)})
	}
	for _, v := range []api.Value{void(), list(), text("é"), {Kind: api.ValueMap}} {
		for n := range mostDeep {
			l = append(l, nested(v, n), list(void(), nested(v, min(n, mostDeep-2)), void()))
		}
	}
	return append(l,
		list(void()), list(number(api.ValueBool, 1), void()), dict("b.a", void(), number(api.ValueByte, 7)), dict("a.A.á", list(), text(""), octets("")),
		list(list(), api.Value{Kind: api.ValueMap}, list(list())), list(voids(99)[0], list(voids(99)...), list(voids(97)...)),
		nested(list(voids(mostValues-mostDeep+1)...), mostDeep-2), list(nested(void(), mostDeep-2), list(voids(mostValues-mostDeep-1)...)),
		api.Value{Kind: api.ValueList, Keys: []string{}, List: []api.Value{}}, api.Value{Kind: api.ValueMap, Keys: []string{}, List: []api.Value{}},
		api.Value{Kind: api.ValueVoid, Keys: []string{}, List: []api.Value{}}, api.Value{Kind: api.ValueText, S: "a", Keys: []string{}, List: []api.Value{}},
		api.Value{Kind: api.ValueList, Keys: []string{}, List: []api.Value{{Kind: api.ValueNum, Keys: []string{}, List: []api.Value{}}}},
	)
}

// wrongs are values that are neither too deep nor too large, but not valid.
func wrongs() []api.Value {
	var l []api.Value
	for kind := range 256 {
		if k := api.ValueKind(kind); !slices.Contains(kinds, k) {
			l = append(l, api.Value{Kind: k}, number(k, 1), api.Value{Kind: k, S: "a"}, api.Value{Kind: k, List: voids(1)}, api.Value{Kind: k, Keys: []string{"k"}, List: voids(1)})
		}
	}
	for _, n := range []uint64{2, 3, 255, 256, 257, 1 << 32, 1<<32 + 1, 1 << 63, math.MaxUint64} {
		l = append(l, number(api.ValueBool, n))
	}
	for _, n := range []uint64{256, 257, 511, 65535, 65536, 1 << 32, 1 << 63, math.MaxUint64} {
		l = append(l, number(api.ValueByte, n))
	}
	long := strings.Repeat("x", mostBytes+1)
	for _, s := range badTexts() {
		l = append(l, text(s), text(strings.Repeat("a", mostBytes-len(s))+s), text(s+strings.Repeat("é", 1000)))
		l = append(l, api.Value{Kind: api.ValueMap, Keys: []string{s}, List: voids(1)}, api.Value{Kind: api.ValueMap, Keys: []string{"a", s}, List: voids(2)})
	}
	for _, s := range []string{long, long + "x", strings.Repeat("é", mostBytes/2) + "x", strings.Repeat("x", 1<<16), strings.Repeat("x", 1<<16+1), strings.Repeat("\xff", mostBytes+1)} {
		l = append(l, text(s), octets(s))
	}
	for _, keys := range [][]string{
		{""}, {long[:mostKey+1]}, {strings.Repeat("é", mostKey/2+1)}, {long[:512]}, {long}, {"a", ""}, {"", "a"},
		{"k", "k"}, {"k", "a", "k"}, {"a", "k", "k"}, {"k", "k", "k"}, {"\ufffd", "a", "b", "\ufffd"}, {long[:mostKey], long[:mostKey]},
	} {
		l = append(l, api.Value{Kind: api.ValueMap, Keys: keys, List: voids(len(keys))})
	}
	return append(append(l, unused()...), uneven()...)
}

// unused are values with a field that is not zero, but that their Kind does not use.
func unused() []api.Value {
	var l []api.Value
	for _, kind := range kinds {
		usesN := slices.Contains([]api.ValueKind{api.ValueBool, api.ValueByte, api.ValueNum, api.ValueInt}, kind)
		usesS := kind == api.ValueText || kind == api.ValueBytes
		if !usesN {
			l = append(l, number(kind, 1), number(kind, 1<<40), number(kind, math.MaxUint64))
		}
		if !usesS {
			l = append(l, api.Value{Kind: kind, S: "a"}, api.Value{Kind: kind, S: "\x00"}, api.Value{Kind: kind, N: 1, S: "a"})
		}
		if kind != api.ValueMap {
			l = append(l, api.Value{Kind: kind, Keys: []string{"k"}}, api.Value{Kind: kind, Keys: []string{""}}, api.Value{Kind: kind, Keys: []string{"k"}, List: voids(1)})
		}
		if kind != api.ValueMap && kind != api.ValueList {
			l = append(l, api.Value{Kind: kind, List: voids(1)}, api.Value{Kind: kind, List: make([]api.Value, 1)}, api.Value{Kind: kind, List: voids(mostValues - 1)})
		}
	}
	return l
}

// uneven are maps whose Keys and List are of different lengths.
func uneven() []api.Value {
	var l []api.Value
	for _, n := range [][2]int{{0, 1}, {1, 0}, {1, 2}, {2, 1}, {0, mostValues - 1}, {mostValues - 1, 0}, {mostValues, mostValues - 1}, {mostValues - 2, mostValues - 1}, {5000, 2}} {
		l = append(l, api.Value{Kind: api.ValueMap, Keys: numbered(n[0]), List: voids(n[1])})
	}
	return l
}

// inside are values of which v is a part, which are not too deep if v has no parts itself.
func inside(v api.Value) []api.Value {
	return []api.Value{
		list(v), list(void(), v), list(v, void()), list(append(voids(100), v)...), dict("k", v), dict("a.k.b", void(), v, void()),
		list(list(), list(void(), v)), dict("k", list(dict("k", v))), nested(v, mostDeep-2),
	}
}

// around is v in one other value of any Kind, used or not, known or not, whose List has others beside it.
func around(kind uint8, before int, v api.Value, behind int) api.Value {
	l := append(append(voids(before), v), voids(behind)...)
	return api.Value{Kind: api.ValueKind(kind), List: l}
}

// checkErrno asks whether Check and Put answer that error, and Put nothing else.
func checkErrno(t *testing.T, v api.Value, want api.Errno) {
	t.Helper()
	if e := value.Check(v); e != want {
		t.Errorf("Check of %s: %d, not %d", short(v), e, want)
	}
	b, e := value.Put(v)
	if e != want || e != api.OK && len(b) != 0 {
		t.Errorf("Put of %s: %.40x, %d, not %d", short(v), b, e, want)
	}
}

func TestP5_1_CheckValid(t *testing.T) {
	for _, v := range valids() {
		if judged(v) != api.OK {
			t.Fatalf("%s is not valid", short(v))
		}
		checkErrno(t, v, api.OK)
	}
}

func TestP5_1_CheckWrong(t *testing.T) {
	for _, v := range wrongs() {
		if judged(v) != api.ErrValue {
			t.Fatalf("%s is valid", short(v))
		}
		checkErrno(t, v, api.ErrValue)
		for _, outer := range inside(v) {
			checkErrno(t, outer, judged(outer))
		}
	}
	checkErrno(t, api.Value{}, api.ErrValue)
	checkErrno(t, list(api.Value{}), api.ErrValue)
	checkErrno(t, list(nested(api.Value{}, mostDeep-2)), api.ErrValue)
}

// All bytes, all pairs of them, and those that matter three and four at a time, as a text, as a key, and as bytes.
func TestP5_1_CheckUtf8(t *testing.T) {
	check := func(s string) {
		t.Helper()
		want := api.ErrValue
		if utf8.ValidString(s) {
			want = api.OK
		}
		if e := value.Check(text(s)); e != want {
			t.Errorf("Check of the text %q: %d", s, e)
		}
		if e := value.Check(dict(strings.ReplaceAll(s, ".", ":"), void())); e != want {
			t.Errorf("Check of the key %q: %d", s, e)
		}
		if e := value.Check(octets(s)); e != api.OK {
			t.Errorf("Check of the bytes %q: %d", s, e)
		}
	}
	for a := range 256 {
		check(string([]byte{byte(a)}))
		for b := range 256 {
			check(string([]byte{byte(a), byte(b)}))
		}
	}
	matter := []byte("a\x00\x7f\x80\x8f\x90\x9f\xa0\xbd\xbf\xc0\xc2\xdf\xe0\xed\xee\xef\xf0\xf4\xf5\xff")
	for _, a := range matter {
		for _, b := range matter {
			for _, c := range matter {
				check(string([]byte{a, b, c}))
				for _, d := range matter {
					check(string([]byte{a, b, c, d}))
				}
			}
		}
	}
}

// All runes, and what would be the encodings of surrogates.
func TestP5_1_CheckRunes(t *testing.T) {
	for r := rune(0); r <= utf8.MaxRune; r += 1 + r/4096 {
		if s := string([]rune{r, 'a', r}); value.Check(text(s)) != api.OK {
			t.Fatalf("Check of the text %q is not OK", s)
		}
	}
	for r := 0xd800; r < 0xe000; r++ {
		b := []byte{0xe0 | byte(r>>12), 0x80 | byte(r>>6&63), 0x80 | byte(r&63)}
		if e := value.Check(text(string(b))); e != api.ErrValue {
			t.Fatalf("Check of the text %q: %d", b, e)
		}
	}
}

func TestP5_1_Sizes(t *testing.T) {
	for size := range mostBytes + 300 {
		want := api.OK
		if size > mostBytes {
			want = api.ErrValue
		}
		s := strings.Repeat("a", size)
		if value.Check(text(s)) != want || value.Check(octets(s)) != want {
			t.Fatalf("Check of %d bytes: not %d", size, want)
		}
		want = api.OK
		if size < 1 || size > mostKey {
			want = api.ErrValue
		}
		if e := value.Check(dict("b."+s, void(), void())); e != want {
			t.Fatalf("Check of a key of %d bytes: %d", size, e)
		}
	}
}

// A value is too deep whatever the Kinds around it are, its own, and its place.
func TestP5_1_Deep(t *testing.T) {
	for kind := range 256 {
		v := api.Value{Kind: api.ValueKind(kind)}
		for outer := range 256 {
			deep := v
			for i := range mostDeep - 1 {
				deep = around(uint8(outer), i%3, deep, i%2)
			}
			if e := value.Check(deep); e != judged(deep) || e == api.ErrDeep {
				t.Fatalf("Check of %s: %d", short(deep), e)
			}
			if e := value.Check(list(deep)); e != api.ErrDeep {
				t.Fatalf("Check of %s: %d", short(list(deep)), e)
			}
		}
	}
	for n := range 3 * mostDeep {
		for _, v := range []api.Value{void(), list(), {Kind: api.ValueMap}, {}, list(void()), list(void(), list(), text("a"))} {
			checkErrno(t, nested(v, n), judged(nested(v, n)))
			mixed := list(void(), list(list()), nested(v, n), dict("k", void()))
			checkErrno(t, mixed, judged(mixed))
		}
	}
	checkErrno(t, nested(void(), mostDeep-1), api.OK)
	checkErrno(t, nested(void(), mostDeep), api.ErrDeep)
	checkErrno(t, nested(void(), 100000), api.ErrDeep)
}

func TestP5_1_Large(t *testing.T) {
	for kind := range 256 {
		for n := mostValues - 3; n < mostValues+3; n++ {
			for _, v := range []api.Value{
				around(uint8(kind), n, void(), 0),
				{Kind: api.ValueKind(kind), List: make([]api.Value, n)},
				list(around(uint8(kind), n, void(), 0)),
				list(around(uint8(kind), n/2, void(), 0), list(), around(uint8(kind), 0, void(), n/2)),
				around(uint8(kind), 1, nested(list(voids(n)...), 2), 1),
			} {
				checkErrno(t, v, judged(v))
			}
		}
	}
	checkErrno(t, list(voids(mostValues-1)...), api.OK)
	checkErrno(t, list(voids(mostValues)...), api.ErrLong)
	checkErrno(t, api.Value{Kind: api.ValueMap, Keys: numbered(mostValues - 1), List: voids(mostValues - 1)}, api.OK)
	checkErrno(t, api.Value{Kind: api.ValueMap, Keys: numbered(mostValues), List: voids(mostValues)}, api.ErrLong)
	checkErrno(t, list(voids(1000000)...), api.ErrLong)
	thousands := list(voids(100)...)
	for range mostDeep - 4 {
		thousands = list(slices.Repeat([]api.Value{thousands}, 100)...)
	}
	checkErrno(t, thousands, api.ErrLong)
}

// Too deep comes before too large, and both before what is not valid.
func TestP5_1_Order(t *testing.T) {
	wrong := text("\xff")
	deep, large := nested(void(), mostDeep), list(voids(mostValues)...)
	for _, c := range []struct {
		v    api.Value
		want api.Errno
	}{
		{list(deep, large, wrong), api.ErrDeep},
		{list(large, wrong, deep), api.ErrDeep},
		{list(wrong, large, deep), api.ErrDeep},
		{list(append(voids(5000), deep)...), api.ErrDeep},
		{list(large, nested(list(), mostDeep-1)), api.ErrDeep},
		{nested(large, mostDeep-1), api.ErrDeep},
		{nested(wrong, mostDeep), api.ErrDeep},
		{list(wrong, deep), api.ErrDeep},
		{dict("k.k", wrong, deep), api.ErrDeep},
		{api.Value{N: 1, S: "a", Keys: []string{""}, List: []api.Value{large, deep}}, api.ErrDeep},
		{number(api.ValueBool, 2), api.ErrValue},
		{api.Value{Kind: api.ValueBool, N: 2, List: []api.Value{deep}}, api.ErrDeep},
		{api.Value{Kind: api.ValueBool, N: 2, List: voids(mostValues)}, api.ErrLong},
		{api.Value{Kind: api.ValueMap, Keys: []string{"k"}, List: voids(mostValues)}, api.ErrLong},
		{list(wrong, large), api.ErrLong},
		{list(large, wrong), api.ErrLong},
		{nested(large, mostDeep-2), api.ErrLong},
		{list(append(voids(mostValues-1), wrong)...), api.ErrLong},
		{list(append(voids(mostValues-2), wrong)...), api.ErrValue},
		{api.Value{List: voids(mostValues)}, api.ErrLong},
		{nested(wrong, mostDeep-1), api.ErrValue},
	} {
		if judged(c.v) != c.want {
			t.Fatalf("%s is to be %d", short(c.v), judged(c.v))
		}
		checkErrno(t, c.v, c.want)
	}
}

func TestP5_1_Put(t *testing.T) {
	for _, c := range []struct {
		v    api.Value
		want string
	}{
		{void(), "\xf0"},
		{number(api.ValueBool, 0), "\x08\x00"},
		{number(api.ValueBool, 1), "\x08\x01"},
		{number(api.ValueByte, 255), "\x02\xff"},
		{number(api.ValueNum, 0x0102030405060708), "\x32\x01\x02\x03\x04\x05\x06\x07\x08"},
		{number(api.ValueInt, math.MaxUint64), "\x31\xff\xff\xff\xff\xff\xff\xff\xff"},
		{text(""), "\x95\x00\x00"},
		{text("é"), "\x95\x00\x02\xc3\xa9"},
		{octets(""), "\xa0\x00\x00\x00\x00"},
		{octets("\xff\x00"), "\xa0\x00\x00\x00\x02\xff\x00"},
		{list(), "\xa9\x00\x00\x00\x04\x00\x00\x00\x00"},
		{api.Value{Kind: api.ValueMap}, "\xa8\x00\x00\x00\x04\x00\x00\x00\x00"},
		{list(number(api.ValueBool, 1), void()), "\xa9\x00\x00\x00\x07\x00\x00\x00\x02\x08\x01\xf0"},
		{dict("k", text("é")), "\xa8\x00\x00\x00\x0b\x00\x00\x00\x01\x01k\x95\x00\x02\xc3\xa9"},
		{dict("bc.a", void(), list()), "\xa8\x00\x00\x00\x13\x00\x00\x00\x02\x02bc\xf0\x01a\xa9\x00\x00\x00\x04\x00\x00\x00\x00"},
		{list(list(void())), "\xa9\x00\x00\x00\x0e\x00\x00\x00\x01\xa9\x00\x00\x00\x05\x00\x00\x00\x01\xf0"},
		{list(dict("a", void()), void()), "\xa9\x00\x00\x00\x11\x00\x00\x00\x02\xa8\x00\x00\x00\x07\x00\x00\x00\x01\x01a\xf0\xf0"},
	} {
		if b, e := value.Put(c.v); string(b) != c.want || e != api.OK {
			t.Errorf("Put of %s: %x, %d", short(c.v), b, e)
		}
	}
	for _, v := range valids() {
		if b, e := value.Put(v); !bytes.Equal(b, encoded(v)) || e != api.OK {
			t.Errorf("Put of %s: %.80x, %d", short(v), b, e)
		}
	}
}

// largest is a value with the longest encoding.
func largest() api.Value {
	v := api.Value{Kind: api.ValueMap}
	for i := range mostValues - 1 {
		v.Keys = append(v.Keys, fmt.Sprintf("%0255d", i))
		v.List = append(v.List, octets(strings.Repeat(string([]byte{byte(i)}), mostBytes)))
	}
	return v
}

// checkGot asks whether Get answers that value for b, and that it takes so many bytes.
func checkGot(t *testing.T, b []byte, want api.Value, size int) {
	t.Helper()
	if v, n, e := value.Get(b); show(v) != show(want) || n != size || e != api.OK {
		t.Fatalf("Get of %d bytes, %.40x: %s, %d, %d, not %s, %d", len(b), b, short(v), n, e, short(want), size)
	}
}

// checkRefused asks whether Get answers ErrForm for b, and nothing else.
func checkRefused(t *testing.T, b []byte) {
	t.Helper()
	v, n, e := value.Get(b)
	zero := v.Kind == 0 && v.N == 0 && v.S == "" && len(v.Keys) == 0 && len(v.List) == 0
	if !zero || n != 0 || e != api.ErrForm {
		t.Fatalf("Get of %d bytes, %.40x: %s, %d, %d", len(b), b, short(v), n, e)
	}
}

// checkAsWorded asks whether Get answers for b what the chapter says of it, and returns whether a value is encoded there.
func checkAsWorded(t *testing.T, b []byte) bool {
	t.Helper()
	v, rest, is := decoded(b)
	is = is && judged(v) == api.OK
	if is {
		checkGot(t, b, v, len(b)-len(rest))
	} else {
		checkRefused(t, b)
	}
	return is
}

func TestP5_2_Get(t *testing.T) {
	behind := []string{"", "\x00", "\xf0", "\xff", "\xa9\x00\x00\x00\x04\x00\x00\x00\x00", strings.Repeat("\x08", 2000)}
	for _, v := range valids() {
		b := encoded(v)
		for _, s := range behind {
			checkGot(t, append(bytes.Clone(b), s...), v, len(b))
		}
	}
	b := encoded(largest())
	for _, more := range []int{0, 1, 5000, 2000000} {
		checkGot(t, append(bytes.Clone(b), make([]byte, more)...), largest(), len(b))
	}
	deepest := nested(dict(strings.Repeat("k", mostKey), largest().List[7]), mostDeep-2)
	checkGot(t, append(encoded(deepest), 0xf0), deepest, len(encoded(deepest)))
}

func TestP5_2_GetBeginnings(t *testing.T) {
	checkRefused(t, nil)
	checkRefused(t, []byte{})
	for _, v := range valids() {
		b := encoded(v)
		step := 1 + len(b)/200
		for end := 0; end < len(b); end += step {
			checkRefused(t, b[:end])
			checkRefused(t, slices.Clip(b[:end]))
		}
		checkRefused(t, b[:len(b)-1])
	}
	b := encoded(largest())
	checkRefused(t, b[:len(b)-1])
	checkRefused(t, b[:len(b)/2])
}

func TestP5_2_GetKinds(t *testing.T) {
	for kind := range 256 {
		if slices.Contains(kinds, api.ValueKind(kind)) {
			continue
		}
		for more := range 20 {
			b := append([]byte{byte(kind)}, make([]byte, more)...)
			checkRefused(t, b)
			checkRefused(t, append([]byte{0xa9, 0, 0, 0, byte(4 + len(b)), 0, 0, 0, 1}, b...))
		}
	}
}

// Encodings of values that are not valid, not in their fields or not as a whole.
func TestP5_2_GetWrong(t *testing.T) {
	for i, v := range wrongs() {
		outers := inside(v)
		for _, outer := range []api.Value{v, outers[i%len(outers)]} {
			b := encoded(outerKeys(outer))
			checkAsWorded(t, b)
			checkAsWorded(t, append(b, 0xf0, 0, 0))
		}
	}
	for n := range 256 {
		checkAsWorded(t, []byte{0x08, byte(n)})
		checkAsWorded(t, []byte{0x02, byte(n)})
	}
	refused := []api.Value{
		number(api.ValueBool, 2), text("\xff"), text(strings.Repeat("a", mostBytes+1)), octets(strings.Repeat("a", mostBytes+1)), text(strings.Repeat("a", 65535)),
		dict("k.k", void(), void()), dict("k.a.k", void(), void(), void()), api.Value{Kind: api.ValueMap, Keys: []string{""}, List: voids(1)},
		dict("\xff", void()), dict("a.\xc3", void(), void()), api.Value{}, nested(void(), mostDeep), nested(list(), mostDeep),
		list(voids(mostValues)...), api.Value{Kind: api.ValueMap, Keys: numbered(mostValues), List: voids(mostValues)}, list(voids(5000)...),
		list(list(voids(100)...), list(voids(98)...)), nested(list(voids(mostValues-mostDeep+1)...), mostDeep-1),
	}
	for _, v := range refused {
		if judged(v) == api.OK {
			t.Fatalf("%s is valid", short(v))
		}
		for _, outer := range append(inside(v), v) {
			checkRefused(t, encoded(outer))
			checkRefused(t, append(encoded(outer), encoded(void())...))
		}
	}
}

// outerKeys is v with as many keys as it has values, so that it can be encoded at all.
func outerKeys(v api.Value) api.Value {
	v.List = slices.Clone(v.List)
	for i := range v.List {
		v.List[i] = outerKeys(v.List[i])
	}
	if more := len(v.List) - len(v.Keys); v.Kind == api.ValueMap && more > 0 {
		v.Keys = append(slices.Clone(v.Keys), numbered(more)...)
	}
	for i, key := range v.Keys {
		v.Keys = slices.Clone(v.Keys)
		v.Keys[i] = key[:min(len(key), mostKey)]
	}
	return v
}

// Bytes that pretend to be very deep, or very many, are refused at no great expense.
func TestP5_2_GetPretences(t *testing.T) {
	var deep []byte
	for range 300000 {
		deep = append(deep, 0xa9, 0xff, 0xff, 0xff, 0xff, 0, 0, 0, 1)
	}
	checkRefused(t, deep)
	for _, b := range [][]byte{encoded(nested(void(), 3000)), encoded(list(voids(1000000)...)), bytes.Repeat([]byte{0xa9}, 1000000), make([]byte, 1000000)} {
		checkRefused(t, b)
	}
	many := append([]byte{0xa9, 0xff, 0xff, 0xff, 0xff, 0xff, 0xff, 0xff, 0xff}, bytes.Repeat([]byte{0xf0}, 3000000)...)
	checkRefused(t, many)
	binary.BigEndian.PutUint32(many[1:], uint32(len(many)-5))
	checkRefused(t, many)
	binary.BigEndian.PutUint32(many[5:], uint32(len(many)-9))
	checkRefused(t, many)
}

// setNumber is b with a number of four bytes in its midst.
func setNumber(b []byte, at int, n uint32) []byte {
	b = bytes.Clone(b)
	binary.BigEndian.PutUint32(b[at:], n)
	return b
}

// Numbers of bytes and of values that do not agree with what follows, too low and too high.
func TestP5_2_GetNumbers(t *testing.T) {
	far := []uint32{1 << 8, 1 << 16, 1 << 24, 1<<31 - 1, 1 << 31, 1<<31 + 1, 1<<32 - 2, 1<<32 - 1}
	for _, v := range []api.Value{
		list(), {Kind: api.ValueMap}, list(void()), list(void(), void(), void()), dict("k", void()), dict("a.b", list(), list()),
		list(number(api.ValueBool, 1), text("ab"), octets("ab")), list(octets("\xf0\xf0\xf0\xf0")), dict("a", octets("\x01b\xf0\x01c\xf0")),
		list(number(api.ValueNum, 0xf0f0f0f0f0f0f0f0)), list(list()), list(list(void(), void()), void()), list(dict("k", void()), void()), octets("abc"),
	} {
		good := encoded(v)
		for _, behind := range []string{"", "\xf0", "\xf0\xf0\xf0\xf0\xf0\xf0\xf0", "\x01x\xf0\x01y\xf0\x01z\xf0", "\x00\x00\x00\x00\x00\x00\x00\x00\x00\x00"} {
			b := append(bytes.Clone(good), behind...)
			for at := 1; at+4 <= len(b); at++ {
				was := binary.BigEndian.Uint32(b[at:])
				for off := range uint32(25) {
					checkAsWorded(t, setNumber(b, at, was+off-12))
				}
				for _, n := range far {
					checkAsWorded(t, setNumber(b, at, n))
					checkAsWorded(t, setNumber(b, at, was+n))
				}
			}
			for size := range uint32(20) {
				for n := range uint32(8) {
					if v.Kind != api.ValueBytes {
						checkAsWorded(t, setNumber(setNumber(b, 1, size), 5, n))
					}
				}
			}
		}
	}
}

func TestP5_2_GetNumbersApart(t *testing.T) {
	for _, s := range []string{
		"\xa9\x00\x00\x00\x04\x00\x00\x00\x01", "\xa9\x00\x00\x00\x04\x00\x00\x00\x01\xf0", "\xa9\x00\x00\x00\x05\x00\x00\x00\x00", "\xa9\x00\x00\x00\x05\x00\x00\x00\x00\xf0",
		"\xa9\x00\x00\x00\x06\x00\x00\x00\x01\xf0\xf0", "\xa9\x00\x00\x00\x05\x00\x00\x00\x02\xf0\xf0", "\xa9\x00\x00\x00\x06\x00\x00\x00\x02\xf0", "\xa9\x00\x00\x00\x06\x00\x00\x00\x01\xf0",
		"\xa9\x00\x00\x00\x00\x00\x00\x00\x00", "\xa9\x00\x00\x00\x03\x00\x00\x00\x00", "\xa9\x00\x00\x00\x00", "\xa9\x00\x00\x00\x00\x00", "\xa9\x00\x00\x00\x02\x00\x00",
		"\xa9\x00\x00\x00\x01\x00\x00\x00\x01\xf0", "\xa9\x01\x00\x00\x05\x00\x00\x00\x01\xf0", "\xa9\x80\x00\x00\x05\x00\x00\x00\x01\xf0",
		"\xa8\x00\x00\x00\x04\x00\x00\x00\x01", "\xa8\x00\x00\x00\x06\x00\x00\x00\x01\x01k", "\xa8\x00\x00\x00\x06\x00\x00\x00\x01\x01k\xf0", "\xa8\x00\x00\x00\x05\x00\x00\x00\x01\xf0",
		"\xa8\x00\x00\x00\x07\x00\x00\x00\x01\x02k\xf0", "\xa8\x00\x00\x00\x08\x00\x00\x00\x01\x01k\xf0\xf0", "\xa8\x00\x00\x00\x07\x00\x00\x00\x00\x01k\xf0",
		"\x95\x00\x02a", "\x95\x00", "\x95\x10\x01" + strings.Repeat("a", 4097), "\xa0\x00\x00\x00\x02a", "\xa0\x00\x00\x10\x01" + strings.Repeat("a", 4097),
		"\xa0\xff\xff\xff\xff", "\xa0\x00\x02ab", "\x32\x00\x00\x00\x00\x00\x00\x00", "\x31", "\x08", "\x08\x02", "\x02",
		// The outer list ends within the inner one, and behind it.
		"\xa9\x00\x00\x00\x0d\x00\x00\x00\x01\xa9\x00\x00\x00\x05\x00\x00\x00\x01\xf0", "\xa9\x00\x00\x00\x0e\x00\x00\x00\x01\xa9\x00\x00\x00\x06\x00\x00\x00\x02\xf0\xf0",
		"\xa9\x00\x00\x00\x0f\x00\x00\x00\x01\xa9\x00\x00\x00\x05\x00\x00\x00\x01\xf0\xf0", "\xa9\x00\x00\x00\x0f\x00\x00\x00\x02\xa9\x00\x00\x00\x06\x00\x00\x00\x01\xf0\xf0",
	} {
		checkRefused(t, []byte(s))
	}
}

// A panic that is not the package's own goes on: here that of memory that can't be read.
func TestP5_2_OtherPanicsGoOn(t *testing.T) {
	page, err := syscall.Mmap(-1, 0, os.Getpagesize(), syscall.PROT_NONE, syscall.MAP_ANON|syscall.MAP_PRIVATE)
	if err != nil {
		t.Fatal(err)
	}
	defer syscall.Munmap(page)
	defer debug.SetPanicOnFault(debug.SetPanicOnFault(true))
	defer func() {
		thrown := recover()
		if _, is := thrown.(runtime.Error); !is {
			t.Errorf("thrown: %v", thrown)
		}
	}()
	v, n, e := value.Get(page)
	t.Errorf("Get of memory that can't be read: %s, %d, %d", short(v), n, e)
}

// changed are values that differ from v in one field of it, or of one of its parts.
func changed(v api.Value) []api.Value {
	var l []api.Value
	with := func(change func(v *api.Value)) {
		other := clone(v)
		change(&other)
		l = append(l, other)
	}
	with(func(v *api.Value) { v.Kind ^= 1 })
	with(func(v *api.Value) { v.Kind ^= 0x80 })
	with(func(v *api.Value) { v.N ^= 1 })
	with(func(v *api.Value) { v.N ^= 1 << 63 })
	with(func(v *api.Value) { v.S += "\x00" })
	with(func(v *api.Value) { v.S = "é" + v.S })
	with(func(v *api.Value) { v.Keys = append(v.Keys, "") })
	with(func(v *api.Value) { v.Keys = append([]string{"a"}, v.Keys...) })
	with(func(v *api.Value) { v.List = append(v.List, api.Value{}) })
	with(func(v *api.Value) { v.List = append([]api.Value{{Kind: 1}}, v.List...) })
	for i := range v.Keys {
		with(func(v *api.Value) { v.Keys[i] += "a" })
		with(func(v *api.Value) { v.Keys = slices.Delete(v.Keys, i, i+1) })
	}
	for i := range v.List {
		with(func(v *api.Value) { v.List = slices.Delete(v.List, i, i+1) })
		for _, other := range changed(v.List[i]) {
			with(func(v *api.Value) { v.List[i] = other })
		}
	}
	return l
}

// clone is v in memory of its own.
func clone(v api.Value) api.Value {
	v.Keys = slices.Clone(v.Keys)
	v.List = slices.Clone(v.List)
	for i := range v.List {
		v.List[i] = clone(v.List[i])
	}
	return v
}

// emptied is v with empty lists where it has none, and none where it has empty ones.
func emptied(v api.Value) api.Value {
	v = clone(v)
	if len(v.Keys) == 0 {
		v.Keys = map[bool][]string{true: {}, false: nil}[v.Keys == nil]
	}
	if len(v.List) == 0 {
		v.List = map[bool][]api.Value{true: {}, false: nil}[v.List == nil]
	}
	for i := range v.List {
		v.List[i] = emptied(v.List[i])
	}
	return v
}

// some are values, valid and not, that are not too many to be held against each other.
func some() []api.Value {
	return []api.Value{
		{}, void(), number(api.ValueBool, 0), number(api.ValueBool, 1), number(api.ValueBool, 2), number(api.ValueByte, 1), number(api.ValueNum, 1), number(api.ValueInt, 1),
		number(api.ValueNum, math.MaxUint64), number(api.ValueInt, math.MaxUint64), text(""), text("a"), text("ab"), text("\xff"), text("\xfe"), octets(""), octets("a"), octets("\xff"),
		list(), {Kind: api.ValueMap}, list(void()), list(void(), void()), list(list()), list(list(), list()), list(list(list())), list(list(void()), void()), list(void(), list(void())),
		dict("k", void()), dict("a", void()), dict("", void()), dict("a.b", void(), list()), dict("b.a", list(), void()), dict("a.b", list(), void()), dict("a.a", void(), void()), dict("a.b", void()),
		dict("a.b.c", list(void(), text("x")), dict("y.z", number(api.ValueByte, 3), octets("z")), list(list(list(void())))),
		{Kind: api.ValueVoid, N: 1, S: "a", Keys: []string{"k"}, List: voids(1)}, {Kind: 7, Keys: []string{"", "\xff"}}, {Kind: 7, List: make([]api.Value, 3)},
		nested(void(), mostDeep), nested(void(), mostDeep+1), nested(number(api.ValueBool, 9), 50), list(voids(mostValues)...), list(voids(mostValues + 1)...), list(voids(50)...),
	}
}

func TestP5_3_Same(t *testing.T) {
	for i, a := range some() {
		for j, b := range some() {
			if got := value.Same(a, b); got != (i == j) {
				t.Errorf("Same of %s and %s: %v", short(a), short(b), got)
			}
		}
		if !value.Same(a, emptied(a)) || !value.Same(emptied(a), a) || !value.Same(emptied(a), emptied(emptied(a))) {
			t.Errorf("Same of %s without lists: false", short(a))
		}
	}
	for _, v := range valids() {
		if !value.Same(v, v) || !value.Same(v, clone(v)) {
			t.Errorf("Same of %s and itself: false", short(v))
		}
	}
}

func TestP5_3_SameOfChanged(t *testing.T) {
	for _, v := range some() {
		if count(v) > 60 {
			continue
		}
		for _, other := range changed(v) {
			if value.Same(v, other) || value.Same(other, v) {
				t.Errorf("Same of %s and %s: true", short(v), short(other))
			}
			if !value.Same(other, clone(other)) {
				t.Errorf("Same of %s and itself: false", short(other))
			}
		}
	}
}

// Values that are not valid may be of any depth.
func TestP5_3_SameOfDeepOnes(t *testing.T) {
	const lists = 200000
	a, b, c := nested(void(), lists), nested(void(), lists), nested(text(""), lists)
	if !value.Same(a, b) || value.Same(a, c) || value.Same(a, list(b)) {
		t.Error("Same of deep values is wrong")
	}
	checkErrno(t, a, api.ErrDeep)
	if _, is := value.Find(api.Value{Kind: api.ValueMap, Keys: []string{"k"}, List: []api.Value{a}}, "k"); is {
		t.Error("Find in a deep map: true")
	}
}

// checkNotFound asks whether Find answers that there is nothing, and nothing else.
func checkNotFound(t *testing.T, v api.Value, key string) {
	t.Helper()
	if got, is := value.Find(v, key); is || show(got) != show(api.Value{}) {
		t.Errorf("Find of %.40q in %s: %s, %v", key, short(v), short(got), is)
	}
}

func TestP5_3_Find(t *testing.T) {
	long := strings.Repeat("k", mostKey)
	v := dict("a.b.A.aa.\x00.é.\ufffd."+long+"."+long[1:],
		void(), text("b"), list(void(), dict("a", void())), number(api.ValueByte, 3), octets("\xff"), list(), dict("b.a", text("c"), void()), number(api.ValueInt, 1), text("last"))
	for i, key := range v.Keys {
		if got, is := value.Find(v, key); !is || show(got) != show(v.List[i]) {
			t.Errorf("Find of %.40q: %s, %v", key, short(got), is)
		}
	}
	for _, key := range []string{"", "c", "B", "aaa", "e\u0301", "\xff", "\x00\x00", "\xc3", long + "k", long[2:]} {
		checkNotFound(t, v, key)
	}
	most := largest()
	for i, key := range most.Keys {
		if got, is := value.Find(most, key); !is || show(got) != show(most.List[i]) {
			t.Errorf("Find of %.40q: %s, %v", key, short(got), is)
		}
	}
	checkNotFound(t, api.Value{Kind: api.ValueMap}, "")
	checkNotFound(t, api.Value{Kind: api.ValueMap}, "k")
}

// There is nothing to be found in what is no map, or no valid one, even where the key is there.
func TestP5_3_FindInOthers(t *testing.T) {
	wrong := text("\xff")
	for _, v := range []api.Value{
		{}, void(), list(), list(void()), list(dict("k", void())), text("k"), octets("k"), number(api.ValueByte, 1),
		{Kind: api.ValueList, Keys: []string{"k"}, List: voids(1)}, {Kind: api.ValueVoid, Keys: []string{"k"}, List: voids(1)}, {Keys: []string{"k"}, List: voids(1)},
		dict("k.k", void(), void()), dict("k.a.a", void(), void(), void()), dict("k.", void(), void()), dict("k.\xff", void(), void()), dict("k."+strings.Repeat("a", mostKey+1), void(), void()),
		dict("k", wrong), dict("k.a", void(), wrong), dict("k.a", void(), list(wrong)), dict("k", void(), void()), dict("k.a", void()), dict("a.k", void()), dict("k", api.Value{}),
		dict("k", nested(void(), mostDeep-1)), dict("k.a", void(), nested(void(), mostDeep-1)), dict("k.a", void(), list(voids(mostValues-2)...)),
		{Kind: api.ValueMap, Keys: append([]string{"k"}, numbered(mostValues)...), List: voids(mostValues + 1)},
		{Kind: api.ValueMap, N: 1, Keys: []string{"k"}, List: voids(1)}, {Kind: api.ValueMap, S: "a", Keys: []string{"k"}, List: voids(1)},
	} {
		checkNotFound(t, v, "k")
		checkNotFound(t, v, "")
		checkNotFound(t, v, "\xff")
	}
	within := dict("a", dict("k", void()))
	checkNotFound(t, within, "k")
	if got, is := value.Find(dict("k.a", void(), list(voids(mostValues-3)...)), "k"); !is || show(got) != show(void()) {
		t.Errorf("Find in a map that is just not too large: %s, %v", short(got), is)
	}
	if got, is := value.Find(dict("k.a", void(), nested(void(), mostDeep-2)), "k"); !is || show(got) != show(void()) {
		t.Errorf("Find in a map that is just not too deep: %s, %v", short(got), is)
	}
}

// mixer yields the same numbers in each run.
type mixer uint64

func (m *mixer) next() uint64 {
	*m += 0x9e3779b97f4a7c15
	x := uint64(*m)
	x = (x ^ x>>30) * 0xbf58476d1ce4e5b9
	x = (x ^ x>>27) * 0x94d049bb133111eb
	return x ^ x>>31
}

// below is a number from 0 to n - 1.
func (m *mixer) below(n int) int { return int(m.next() % uint64(n)) }

// number is a number, often a small one.
func (m *mixer) number() uint64 { return m.next() >> m.below(64) >> m.below(2) }

// text is a valid text.
func (m *mixer) text() string {
	all := []string{"", "a", "b", "\x00", "é", "\ufffd", "\U0010ffff", "kk", "語"}
	s := ""
	for range m.below(4) {
		s += all[m.below(len(all))]
	}
	return s
}

// value is a valid value, up to that deep.
func (m *mixer) value(deep int) api.Value {
	v := api.Value{Kind: kinds[m.below(len(kinds))]}
	switch v.Kind {
	case api.ValueBool:
		v.N = m.number() % 2
	case api.ValueByte:
		v.N = m.number() % 256
	case api.ValueNum, api.ValueInt:
		v.N = m.number()
	case api.ValueText, api.ValueBytes:
		v.S = m.text()
		if v.Kind == api.ValueBytes && m.below(2) == 0 {
			v.S += string([]byte{byte(m.next()), byte(m.next())})
		}
	case api.ValueList, api.ValueMap:
		if deep == 0 {
			return v
		}
		for i := range m.below(4) {
			v.List = append(v.List, m.value(deep-1))
			if v.Kind == api.ValueMap {
				v.Keys = append(v.Keys, strconv.Itoa(i)+m.text())
			}
		}
	}
	return v
}

// values are valid values, most of them small.
func (m *mixer) values(n int) []api.Value {
	var l []api.Value
	for len(l) < n {
		if v := m.value(m.below(mostDeep)); judged(v) == api.OK {
			l = append(l, v)
		}
	}
	return l
}

// spoil changes something in v, most often so that it is not valid any more.
func (m *mixer) spoil(v api.Value) api.Value {
	v = clone(v)
	if len(v.List) > 0 && m.below(3) > 0 {
		i := m.below(len(v.List))
		v.List[i] = m.spoil(v.List[i])
		return v
	}
	switch m.below(7) {
	case 0:
		v.Kind = kinds[m.below(len(kinds))]
	case 1:
		v.Kind = api.ValueKind(m.next())
	case 2:
		v.N = m.number()
	case 3:
		v.S += m.text() + string([]byte{byte(m.next())})
	case 4:
		v.Keys = append(v.Keys, m.text())
	case 5:
		v.List = append(v.List, m.value(2))
	case 6:
		v.List = append(v.List, nested(list(voids(m.below(mostValues))...), m.below(mostDeep)))
	}
	return v
}

// What Check answers is what the chapter's words say of the value.
func TestP5_1_CheckAsWorded(t *testing.T) {
	m := mixer(1)
	told := map[api.Errno]int{}
	for _, v := range m.values(4000) {
		checkErrno(t, v, api.OK)
		for range 5 {
			v = m.spoil(v)
			want := judged(v)
			checkErrno(t, v, want)
			told[want]++
		}
	}
	for _, e := range []api.Errno{api.OK, api.ErrDeep, api.ErrLong, api.ErrValue} {
		if told[e] < 100 {
			t.Errorf("%d was to be told %d times", e, told[e])
		}
	}
}

// What Get answers is what the chapter's words say of the bytes: encodings in which bytes were changed, added and left out.
func TestP5_2_GetAsWorded(t *testing.T) {
	m := mixer(2)
	good, bad := 0, 0
	count := func(is bool) {
		if is {
			good++
		} else {
			bad++
		}
	}
	for _, v := range append(m.values(400), some()...) {
		b := encoded(outerKeys(v))
		count(checkAsWorded(t, b))
		if len(b) > 300 {
			continue
		}
		for i := range b {
			for _, c := range []byte{0, 1, 2, 3, 4, 5, 8, 0x31, 0x32, 0x95, 0xa0, 0xa8, 0xa9, 0xf0, 0xff, b[i] + 1, b[i] - 1, b[i] ^ 0x80, byte(m.next())} {
				other := bytes.Clone(b)
				other[i] = c
				count(checkAsWorded(t, other))
				count(checkAsWorded(t, append(other[:i:i], b[i+1:]...)))
				count(checkAsWorded(t, append(append(other[:i:i], c), b[i:]...)))
			}
		}
	}
	if good < 1000 || bad < 1000 {
		t.Errorf("%d good ones, %d bad ones", good, bad)
	}
}

// What was put is got, whatever bytes follow.
func TestP5_4_GetOfPut(t *testing.T) {
	m := mixer(3)
	for _, v := range append(m.values(3000), append(valids(), largest())...) {
		b, e := value.Put(v)
		if e != api.OK {
			t.Fatalf("Put of %s: %d", short(v), e)
		}
		for range 3 {
			whole := bytes.Clone(b)
			for range m.below(30) {
				whole = append(whole, byte(m.next()))
			}
			checkGot(t, whole, v, len(b))
			if got, _, _ := value.Get(whole); !value.Same(got, v) {
				t.Fatalf("Same of %s and what was got: false", short(v))
			}
		}
	}
}

// What was got is put as the bytes that were decoded.
func TestP5_4_PutOfGot(t *testing.T) {
	m := mixer(4)
	good, bad := 0, 0
	few := []byte{0, 0, 0, 0, 0, 1, 2, 4, 5, 8, 0x95, 0xa8, 0xa9, 0xf0}
	for _, v := range m.values(20000) {
		b := encoded(v)
		for range m.below(4) {
			b[m.below(len(b))] = few[m.below(len(few))]
		}
		b = append(b, few[m.below(len(few))])
		got, n, e := value.Get(b)
		if e != api.OK {
			checkRefused(t, b)
			bad++
			continue
		}
		good++
		if back, e := value.Put(got); !bytes.Equal(back, b[:n]) || e != api.OK {
			t.Fatalf("Put of what Get returned of %x, %d: %x, %d", b, n, back, e)
		}
	}
	if good < 1000 || bad < 1000 {
		t.Errorf("%d good ones, %d bad ones", good, bad)
	}
}

// Different values have different encodings, and equal ones the same.
func TestP5_4_OneEncoding(t *testing.T) {
	m := mixer(5)
	byBytes := map[string]api.Value{}
	for _, v := range append(m.values(5000), valids()...) {
		b, _ := value.Put(v)
		again, _ := value.Put(emptied(v))
		if !bytes.Equal(b, again) {
			t.Fatalf("%s is put in two ways: %.80x, %.80x", short(v), b, again)
		}
		if other, is := byBytes[string(b)]; is && (show(other) != show(v) || !value.Same(other, v)) {
			t.Fatalf("%s and %s are both %.80x", short(v), short(other), b)
		}
		byBytes[string(b)] = v
	}
	told := map[string]bool{}
	for _, v := range byBytes {
		if told[show(v)] {
			t.Fatalf("%s is put in two ways", short(v))
		}
		told[show(v)] = true
	}
}

// roomy is v with more room behind each of its lists, with something in it.
func roomy(v api.Value) api.Value {
	keys := append(slices.Clone(v.Keys), "room", "room")
	l := append(slices.Clone(v.List), text("room"), text("room"))
	for i, element := range v.List {
		l[i] = roomy(element)
	}
	v.Keys, v.List = keys[:len(v.Keys)], l[:len(v.List)]
	return v
}

// full is v with all that stands in the room behind its lists.
func full(v api.Value) api.Value {
	v.Keys = slices.Clone(v.Keys[:cap(v.Keys)])
	v.List = slices.Clone(v.List[:cap(v.List)])
	for i := range v.List {
		v.List[i] = full(v.List[i])
	}
	return v
}

// overwrite changes all that v's lists hold, the room behind them included.
func overwrite(v api.Value) {
	for i := range v.List {
		overwrite(v.List[i])
	}
	for i := range v.Keys[:cap(v.Keys)] {
		v.Keys[:cap(v.Keys)][i] = "overwritten"
	}
	for i := range v.List[:cap(v.List)] {
		v.List[:cap(v.List)][i] = text("overwritten")
	}
}

// Arguments and the memory after them stay as they are, whatever is done to the results.
func TestP5_1_NewMemory(t *testing.T) {
	for _, v := range append(some(), valids()[:40]...) {
		room := roomy(v)
		before := show(full(room))
		value.Check(room)
		value.Same(room, room)
		b, _ := value.Put(room)
		want := string(b)
		other, _ := value.Put(room)
		for i := range other[:cap(other)] {
			other[:cap(other)][i] ^= 0x55
		}
		if show(full(room)) != before {
			t.Fatalf("argument changed: %s", short(room))
		}
		overwrite(room)
		if string(b) != want {
			t.Fatalf("the encoding of %s follows others", short(v))
		}
	}
}

func TestP5_2_NewMemory(t *testing.T) {
	for _, v := range valids() {
		size := len(encoded(v))
		b := append(encoded(v), bytes.Repeat([]byte{0xee}, 64)...)
		front := b[:size]
		first, _, _ := value.Get(front)
		second, _, _ := value.Get(front)
		overwrite(second)
		if !bytes.Equal(b[:size], encoded(v)) || !bytes.Equal(b[size:], bytes.Repeat([]byte{0xee}, 64)) {
			t.Fatalf("argument changed: %.80x", b)
		}
		for i := range b {
			b[i] = 0x5a
		}
		if show(first) != show(v) {
			t.Fatalf("what was got follows others: %s", short(first))
		}
		checkApart(t, first)
	}
}

// checkApart asks whether no two lists of one value share memory: each is changed with its room, and the others stay.
func checkApart(t *testing.T, v api.Value) {
	t.Helper()
	if len(v.List) > 20 {
		return
	}
	for i := range v.List {
		others := append(slices.Clone(v.List[:i]), v.List[i+1:]...)
		before, keys := show(list(others...)), slices.Clone(v.Keys)
		overwrite(v.List[i])
		if show(list(others...)) != before || !slices.Equal(v.Keys, keys) {
			t.Fatalf("two lists share memory: %s", short(v))
		}
	}
}

func TestP5_3_NewMemory(t *testing.T) {
	for _, inner := range append(some(), valids()[:40]...) {
		v := roomy(dict("a.k", list(void()), inner))
		if judged(v) != api.OK {
			continue
		}
		before := show(full(v))
		first, _ := value.Find(v, "k")
		second, is := value.Find(v, "k")
		overwrite(second)
		if show(full(v)) != before || !is {
			t.Fatalf("Find shares memory with its argument: %s", short(v))
		}
		overwrite(v)
		if show(first) != show(inner) {
			t.Fatalf("what was found follows others: %s, not %s", short(first), short(inner))
		}
		checkApart(t, first)
	}
}
