package method_test

import (
	"bytes"
	"encoding/binary"
	"fmt"
	"math"
	"reflect"
	"slices"
	"strconv"
	"strings"
	"testing"

	"posthouse/api"
	"posthouse/method"
	"posthouse/spans"
	"posthouse/value"
	"posthouse/xid"
)

// chapter is the chapter's table.
const chapter = `
1 connection: 1 start t; 2 start-ok t; 5 tune w w; 6 tune-ok w w; 7 open s; 8 open-ok; 11 close w s; 12 close-ok
2 session: 1 attach t b; 2 attached t; 3 detach t; 4 detached t n; 7 point d; 10 completed r; 11 known r; 12 flush
3 execution: 1 sync; 2 result d v; 3 exception w d t
4 message: 1 transfer s n; 2 accept r; 3 reject r w s; 4 release r b; 7 subscribe s s; 8 cancel s; 10 flow s d; 12 stop s
5 tx: 1 select; 2 commit; 3 rollback
6 dtx: 1 select; 2 start x b b; 3 end x b b; 4 commit x b; 5 forget x; 6 get-timeout x; 7 prepare x; 8 recover; 9 rollback x; 10 set-timeout x d
8 queue: 1 declare s b d; 2 delete s b; 3 purge s; 4 query s
`

// row is a method of the table.
type row struct {
	class, code uint8
	name, kinds string
}

// small is a number of the table.
func small(s string) uint8 {
	n, err := strconv.ParseUint(s, 10, 8)
	if err != nil {
		panic(err)
	}
	return uint8(n)
}

// rows are all methods of the table.
func rows() []row {
	var l []row
	for line := range strings.SplitSeq(strings.TrimSpace(chapter), "\n") {
		head, rest, _ := strings.Cut(line, ": ")
		class, word, _ := strings.Cut(head, " ")
		for one := range strings.SplitSeq(rest, "; ") {
			f := strings.Fields(one)
			l = append(l, row{small(class), small(f[0]), word + "." + f[1], strings.Join(f[2:], "")})
		}
	}
	return l
}

// rowOf is the row of a class and a code.
func rowOf(class, code uint8) (row, bool) {
	for _, r := range table {
		if r.class == class && r.code == code {
			return r, true
		}
	}
	return row{}, false
}

// table is kept, as it is asked so often.
var table = rows()

// num, text and the others are arguments that are present; bit is one that is not always.
func num(n uint64) api.Arg { return api.Arg{Is: true, N: n} }

func text(s string) api.Arg { return api.Arg{Is: true, S: s} }

func named(x api.Xid) api.Arg { return api.Arg{Is: true, X: x} }

func set(l ...api.Span) api.Arg { return api.Arg{Is: true, Q: l} }

func typed(v api.Value) api.Arg { return api.Arg{Is: true, V: v} }

func bit(is bool) api.Arg { return api.Arg{Is: is} }

// made is a method.
func made(class, code uint8, sync bool, l ...api.Arg) api.Method {
	return api.Method{Class: class, Code: code, Sync: sync, Args: l}
}

// show tells whatever it is in a line that is not too long.
func show(x any) string {
	s := fmt.Sprintf("%+q", fmt.Sprintf("%+v", x))
	return s[:min(len(s), 400)]
}

// many is so many spans, as far apart as they must be.
func many(n int) []api.Span {
	var l []api.Span
	for i := range n {
		l = append(l, api.Span{From: uint32(2 * i), To: uint32(2 * i)})
	}
	return l
}

// voids is so many voids.
func voids(n int) []api.Value {
	return slices.Repeat([]api.Value{{Kind: api.ValueVoid}}, n)
}

// nested is v in so many lists, each in the next one.
func nested(v api.Value, lists int) api.Value {
	for range lists {
		v = api.Value{Kind: api.ValueList, List: []api.Value{v}}
	}
	return v
}

// goodValues are valid values of each kind, and the deepest and largest ones.
func goodValues() []api.Value {
	return []api.Value{
		{Kind: api.ValueVoid},
		{Kind: api.ValueBool}, {Kind: api.ValueBool, N: 1},
		{Kind: api.ValueByte}, {Kind: api.ValueByte, N: 255},
		{Kind: api.ValueNum}, {Kind: api.ValueNum, N: math.MaxUint64},
		{Kind: api.ValueInt, N: math.MaxUint64}, {Kind: api.ValueInt, N: 1 << 63},
		{Kind: api.ValueText}, {Kind: api.ValueText, S: "é\x00"}, {Kind: api.ValueText, S: strings.Repeat("x", 4096)},
		{Kind: api.ValueBytes}, {Kind: api.ValueBytes, S: "\xff"}, {Kind: api.ValueBytes, S: strings.Repeat("\x80", 4096)},
		{Kind: api.ValueList}, {Kind: api.ValueMap},
		{Kind: api.ValueList, List: []api.Value{{Kind: api.ValueBool, N: 1}, {Kind: api.ValueVoid}}},
		{Kind: api.ValueMap, Keys: []string{"k", "a"}, List: []api.Value{{Kind: api.ValueText, S: "é"}, {Kind: api.ValueList}}},
		nested(api.Value{Kind: api.ValueVoid}, 5),
		{Kind: api.ValueList, List: voids(199)},
	}
}

// badValues are values that Check refuses, by each of its errors.
func badValues() []api.Value {
	return []api.Value{
		{}, {Kind: 1}, {Kind: 255}, {N: 1}, {S: "a"},
		{Kind: api.ValueVoid, N: 1}, {Kind: api.ValueBool, N: 2}, {Kind: api.ValueByte, N: 256},
		{Kind: api.ValueText, S: "\xff"}, {Kind: api.ValueText, S: strings.Repeat("x", 4097)}, {Kind: api.ValueBytes, S: strings.Repeat("x", 4097)},
		{Kind: api.ValueNum, S: "a"}, {Kind: api.ValueList, Keys: []string{"k"}, List: voids(1)},
		{Kind: api.ValueMap, List: voids(1)}, {Kind: api.ValueMap, Keys: []string{"k"}}, {Kind: api.ValueMap, Keys: []string{"k", "k"}, List: voids(2)},
		{Kind: api.ValueMap, Keys: []string{""}, List: voids(1)}, {Kind: api.ValueList, List: []api.Value{{}}},
		nested(api.Value{Kind: api.ValueVoid}, 6), nested(api.Value{Kind: api.ValueVoid}, 100),
		{Kind: api.ValueList, List: voids(200)},
	}
}

// good are arguments of a kind that are as it says, its edges among them.
func good(kind byte) []api.Arg {
	var l []api.Arg
	switch kind {
	case 'b':
		return []api.Arg{bit(false), bit(true)}
	case 'n':
		return []api.Arg{num(7), num(0), num(1), num(127), num(128), num(254), num(255)}
	case 'w':
		return []api.Arg{num(7), num(0), num(255), num(256), num(0x0102), num(65534), num(65535)}
	case 'd':
		return []api.Arg{num(7), num(0), num(255), num(65535), num(65536), num(0x01020304), num(1 << 31), num(math.MaxUint32 - 1), num(math.MaxUint32)}
	case 's', 't':
		for _, n := range []int{0, 1, 2, 127, 128, 254, 255} {
			l = append(l, text(strings.Repeat("x", n)))
		}
		l = append(l, text("q"), text("\x00"), text("\xff\xfe"), text("é"), text("\x00\x01\x00"))
		if kind == 't' {
			for _, n := range []int{256, 257, 65534, 65535} {
				l = append(l, text(strings.Repeat("y", n)))
			}
		}
	case 'x':
		long := strings.Repeat("\xff", 64)
		for _, x := range []api.Xid{
			{Format: 7, Global: "a"}, {Global: "a"}, {Global: "\x00", Branch: "\x00"}, {Format: 7, Global: "ab", Branch: "c"},
			{Format: api.Owned, Global: "a"}, {Format: math.MaxUint32, Global: long, Branch: long}, {Format: 1, Global: long}, {Format: 1, Global: "1", Branch: long},
		} {
			l = append(l, named(x))
		}
	case 'r':
		full := []api.Span{{From: 0, To: math.MaxUint32}}
		edges := []api.Span{{From: 0, To: 0}, {From: 2, To: 2}, {From: 5, To: 9}, {From: math.MaxUint32, To: math.MaxUint32}}
		l = append(l, set(api.Span{From: 1, To: 2}), set(), set(full...), set(edges...), set(many(999)...), set(many(1000)...))
		l = append(l, api.Arg{Is: true, Q: []api.Span{}})
	case 'v':
		for _, v := range goodValues() {
			l = append(l, typed(v))
		}
		l = append(l, typed(api.Value{Kind: api.ValueVoid, Keys: []string{}, List: []api.Value{}}))
	}
	return l
}

// tooMuch are arguments of a kind that are present, whose own field is not as the kind says, and the others are zero.
func tooMuch(kind byte) []api.Arg {
	var l []api.Arg
	switch kind {
	case 'n':
		return []api.Arg{num(256), num(257), num(511), num(65536), num(1 << 32), num(math.MaxUint64)}
	case 'w':
		return []api.Arg{num(65536), num(65537), num(1 << 24), num(1 << 32), num(math.MaxUint64)}
	case 'd':
		return []api.Arg{num(1 << 32), num(1<<32 + 1), num(1 << 40), num(1 << 63), num(math.MaxUint64)}
	case 's':
		return []api.Arg{text(strings.Repeat("x", 256)), text(strings.Repeat("x", 257)), text(strings.Repeat("x", 65536)), text(strings.Repeat("x", 65792))}
	case 't':
		return []api.Arg{text(strings.Repeat("x", 65536)), text(strings.Repeat("x", 65537)), text(strings.Repeat("x", 1<<17))}
	case 'x':
		long := strings.Repeat("a", 65)
		for _, x := range []api.Xid{{}, {Format: 7}, {Branch: "b"}, {Format: 7, Branch: "b"}, {Global: long}, {Global: "a", Branch: long}, {Global: long[1:], Branch: strings.Repeat("b", 256)}} {
			l = append(l, named(x))
		}
	case 'r':
		span := func(from, to uint32) api.Span { return api.Span{From: from, To: to} }
		l = append(l, set(span(2, 1)), set(span(1, 2), span(3, 4)), set(span(1, 2), span(2, 3)), set(span(5, 6), span(1, 2)), set(span(1, 1), span(1, 1)))
		l = append(l, set(span(0, math.MaxUint32), span(0, 0)), set(many(1001)...), set(many(3000)...), set(append(many(1000), span(1, 1))...))
	case 'v':
		for _, v := range badValues() {
			l = append(l, typed(v))
		}
	}
	return l
}

// own is the letter of the field that a kind uses beside Is; there is none of a bit.
func own(kind byte) byte {
	return map[byte]byte{'n': 'N', 'w': 'N', 'd': 'N', 's': 'S', 't': 'S', 'x': 'X', 'r': 'Q', 'v': 'V'}[kind]
}

// strange are arguments as a, with one field more that is not zero, of those that the kind does not use.
func strange(kind byte, a api.Arg) []api.Arg {
	var l []api.Arg
	add := func(field byte, change func(*api.Arg)) {
		if own(kind) != field {
			other := a
			change(&other)
			l = append(l, other)
		}
	}
	add('N', func(a *api.Arg) { a.N = 1 })
	add('N', func(a *api.Arg) { a.N = 1 << 63 })
	add('S', func(a *api.Arg) { a.S = "\x00" })
	add('X', func(a *api.Arg) { a.X.Format = 1 })
	add('X', func(a *api.Arg) { a.X.Global = "a" })
	add('X', func(a *api.Arg) { a.X.Branch = "a" })
	add('Q', func(a *api.Arg) { a.Q = make([]api.Span, 1) })
	add('Q', func(a *api.Arg) { a.Q = []api.Span{{From: 1, To: 2}} })
	add('Q', func(a *api.Arg) { a.Q = []api.Span{{From: 2, To: 1}} })
	for _, v := range []api.Value{{Kind: api.ValueVoid}, {Kind: 1}, {N: 1}, {S: "a"}, {Keys: []string{""}}, {List: make([]api.Value, 1)}, nested(api.Value{}, 20)} {
		add('V', func(a *api.Arg) { a.V = v })
	}
	return l
}

// plain is the arguments of a row, each with a value that is not its zero, but for the bits.
func plain(r row) []api.Arg {
	var l []api.Arg
	for i := range len(r.kinds) {
		l = append(l, good(r.kinds[i])[0])
	}
	return l
}

// isControl tells whether the methods of a class are controls.
func isControl(class uint8) bool { return class == 1 || class == 2 }

// syncs are what Sync may be in a class's methods.
func syncs(class uint8) []bool {
	if isControl(class) {
		return []bool{false}
	}
	return []bool{false, true}
}

// with is the arguments with a in the place of one of them.
func with(l []api.Arg, i int, a api.Arg) []api.Arg {
	l = slices.Clone(l)
	l[i] = a
	return l
}

// bitways are the arguments with each way of setting the bits among them.
func bitways(r row, l []api.Arg) [][]api.Arg {
	all := [][]api.Arg{l}
	for i := range len(r.kinds) {
		if r.kinds[i] != 'b' {
			continue
		}
		for _, one := range all {
			all = append(all, with(one, i, bit(!one[i].Is)))
		}
	}
	return all
}

// valid are valid methods: each of the table with each edge of each of its arguments, each way of setting its bits, and each Sync.
func valid() []api.Method {
	var l []api.Method
	for _, r := range table {
		for _, sync := range syncs(r.class) {
			for _, args := range bitways(r, plain(r)) {
				l = append(l, made(r.class, r.code, sync, args...))
			}
			for i := range len(r.kinds) {
				for _, a := range good(r.kinds[i]) {
					l = append(l, made(r.class, r.code, sync, with(plain(r), i, a)...))
				}
			}
		}
		l = append(l, api.Method{Class: r.class, Code: r.code, Args: append([]api.Arg{}, plain(r)...)})
	}
	return l
}

// brief are the valid methods whose encodings are short.
func brief() []api.Method {
	return slices.DeleteFunc(valid(), func(m api.Method) bool { return len(encoded(m)) > 60 })
}

// wrong are methods that are not valid, each in one thing.
func wrong() []api.Method {
	var l []api.Method
	for _, r := range table {
		args := plain(r)
		for _, more := range []api.Arg{{}, {Is: true}, num(1), text("a"), set(), typed(api.Value{Kind: api.ValueVoid})} {
			l = append(l, made(r.class, r.code, false, append(slices.Clone(args), more)...), made(r.class, r.code, false, append([]api.Arg{more}, args...)...))
		}
		l = append(l, made(r.class, r.code, false, slices.Repeat([]api.Arg{{Is: true}}, 70)...))
		if isControl(r.class) {
			l = append(l, made(r.class, r.code, true, args...))
		}
		for i := range args {
			l = append(l, wrongArg(r, i)...)
		}
		if len(args) > 0 {
			l = append(l, made(r.class, r.code, false), made(r.class, r.code, false, args[1:]...), made(r.class, r.code, false, args[:len(args)-1]...))
		}
	}
	return l
}

// wrongArg are methods in which one of the arguments is wrong.
func wrongArg(r row, i int) []api.Method {
	kind := r.kinds[i]
	args := tooMuch(kind)
	for _, a := range good(kind)[:2] {
		args = append(args, strange(kind, a)...)
		if kind != 'b' {
			a.Is = false
			args = append(args, a, api.Arg{})
		}
	}
	var l []api.Method
	for _, a := range args {
		for _, sync := range syncs(r.class) {
			l = append(l, made(r.class, r.code, sync, with(plain(r), i, a)...))
		}
	}
	return l
}

// encoded is the encoding of a valid method, made by the lower layers and the chapter's words alone.
func encoded(m api.Method) []byte {
	b := []byte{m.Class, m.Code}
	if !isControl(m.Class) {
		b = append(b, 1, 0)
		if m.Sync {
			b[3] = 1
		}
	}
	flags := 0
	for i, a := range m.Args {
		if a.Is {
			flags += []int{1, 2, 4, 8}[i]
		}
	}
	b = binary.BigEndian.AppendUint16(b, uint16(flags))
	r, _ := rowOf(m.Class, m.Code)
	for i, a := range m.Args {
		b = append(b, encodedArg(r.kinds[i], a)...)
	}
	return b
}

// encodedArg is the encoding of an argument.
func encodedArg(kind byte, a api.Arg) []byte {
	var b []byte
	switch kind {
	case 'n':
		b = []byte{byte(a.N)}
	case 'w':
		b = binary.BigEndian.AppendUint16(nil, uint16(a.N))
	case 'd':
		b = binary.BigEndian.AppendUint32(nil, uint32(a.N))
	case 's':
		b = append([]byte{byte(len(a.S))}, a.S...)
	case 't':
		b = append(binary.BigEndian.AppendUint16(nil, uint16(len(a.S))), a.S...)
	case 'x':
		b, _ = xid.Put(a.X)
	case 'r':
		b, _ = spans.Put(a.Q)
	case 'v':
		b, _ = value.Put(a.V)
	}
	return b
}

// decoded is the method of which b, which holds a class and a code of the table, is the encoding, found without the package.
func decoded(b []byte) (api.Method, bool) {
	m := api.Method{Class: b[0], Code: b[1]}
	r, _ := rowOf(m.Class, m.Code)
	rest := b[2:]
	if !isControl(m.Class) {
		if len(rest) < 2 || rest[0] != 1 || rest[1] > 1 {
			return m, false
		}
		m.Sync, rest = rest[1] == 1, rest[2:]
	}
	if len(rest) < 2 {
		return m, false
	}
	flags := int(rest[0])*256 + int(rest[1])
	rest = rest[2:]
	for i := range len(r.kinds) {
		a, size := decodedArg(r.kinds[i], rest)
		if size < 0 {
			return m, false
		}
		a.Is = slices.Contains([][]int{{1, 3, 5, 7}, {2, 3, 6, 7}, {4, 5, 6, 7}}[i], flags)
		if r.kinds[i] != 'b' && !a.Is {
			return m, false
		}
		m.Args, rest = append(m.Args, a), rest[size:]
	}
	return m, len(rest) == 0 && flags < []int{1, 2, 4, 8}[len(r.kinds)]
}

// decodedArg is the argument that is encoded at the start of b, and how many bytes it has there, or -1.
func decodedArg(kind byte, b []byte) (api.Arg, int) {
	width := map[byte]int{'n': 1, 'w': 2, 'd': 4, 's': 1, 't': 2}[kind]
	if len(b) < width {
		return api.Arg{}, -1
	}
	n := 0
	for _, c := range b[:width] {
		n = n*256 + int(c)
	}
	var a api.Arg
	var e api.Errno
	size := width
	switch kind {
	case 'n', 'w', 'd':
		a.N = uint64(n)
	case 's', 't':
		if size += n; size > len(b) {
			return a, -1
		}
		a.S = string(b[width:size])
	case 'x':
		a.X, size, e = xid.Get(b)
	case 'r':
		a.Q, size, e = spans.Get(b)
	case 'v':
		a.V, size, e = value.Get(b)
	}
	if e != api.OK {
		return a, -1
	}
	return a, size
}

// same tells whether two methods are equal, where lists of nothing are as good as nil.
func same(a, b api.Method) bool { return told(a) == told(b) }

// told tells a method so that two of them are told alike if and only if they are equal.
func told(m api.Method) string {
	var b strings.Builder
	fmt.Fprintf(&b, "%d %d %v", m.Class, m.Code, m.Sync)
	for _, a := range m.Args {
		fmt.Fprintf(&b, "\n%v %d %q %d %q %q %v ", a.Is, a.N, a.S, a.X.Format, a.X.Global, a.X.Branch, a.Q)
		tell(&b, a.V)
	}
	return b.String()
}

func tell(b *strings.Builder, v api.Value) {
	fmt.Fprintf(b, "{%d %d %q %q", v.Kind, v.N, v.S, v.Keys)
	for _, element := range v.List {
		tell(b, element)
	}
	b.WriteString("}")
}

// checkPut asks whether Check has nothing against m, and Put answers b.
func checkPut(t *testing.T, m api.Method, b []byte) {
	t.Helper()
	if e := method.Check(m); e != api.OK {
		t.Errorf("Check of %s: %d", show(m), e)
	}
	if got, e := method.Put(m); e != api.OK || !bytes.Equal(got, b) {
		t.Errorf("Put of %s: %.80x, %d, not %.80x", show(m), got, e, b)
	}
}

// checkWrong asks whether Check and Put refuse m.
func checkWrong(t *testing.T, m api.Method) {
	t.Helper()
	if e := method.Check(m); e != api.ErrMethod {
		t.Errorf("Check of %s: %d", show(m), e)
	}
	if b, e := method.Put(m); e != api.ErrMethod || len(b) != 0 {
		t.Errorf("Put of %s: %.80x, %d", show(m), b, e)
	}
}

// checkGot asks whether Get of b answers m.
func checkGot(t *testing.T, b []byte, m api.Method) {
	t.Helper()
	if got, e := method.Get(b); e != api.OK || !same(got, m) {
		t.Errorf("Get of %.80x: %s, %d, not %s", b, show(got), e, show(m))
	}
}

// checkRefused asks whether Get of b answers that error, and nothing else.
func checkRefused(t *testing.T, b []byte, want api.Errno) {
	t.Helper()
	if m, e := method.Get(b); e != want || !reflect.DeepEqual(m, api.Method{}) {
		t.Errorf("Get of %.80x: %s, %d, not %d", b, show(m), e, want)
	}
}

// checkAsWorded asks whether Get of b answers as the chapter words it, and tells whether b is an encoding.
func checkAsWorded(t *testing.T, b []byte) bool {
	t.Helper()
	if len(b) < 2 {
		checkRefused(t, b, api.ErrShort)
		return false
	}
	if _, is := rowOf(b[0], b[1]); !is {
		checkRefused(t, b, api.ErrMethod)
		return false
	}
	m, is := decoded(b)
	if !is {
		checkRefused(t, b, api.ErrForm)
		return false
	}
	checkGot(t, b, m)
	return true
}

func TestP8_1_KnownMethods(t *testing.T) {
	for _, r := range []row{
		{6, 2, "dtx.start", "xbb"}, {6, 6, "dtx.get-timeout", "x"}, {8, 4, "queue.query", "s"}, {1, 1, "connection.start", "t"}, {2, 4, "session.detached", "tn"},
		{3, 2, "execution.result", "dv"}, {4, 12, "message.stop", "s"}, {5, 3, "tx.rollback", ""}, {4, 3, "message.reject", "rws"}, {1, 12, "connection.close-ok", ""},
	} {
		checkRow(t, r)
	}
}

// checkRow asks Kinds, Name and Named about a method.
func checkRow(t *testing.T, r row) {
	t.Helper()
	if kinds, is := method.Kinds(r.class, r.code); kinds != r.kinds || !is {
		t.Errorf("Kinds(%d, %d): %q, %v", r.class, r.code, kinds, is)
	}
	if name, is := method.Name(r.class, r.code); name != r.name || !is {
		t.Errorf("Name(%d, %d): %q, %v", r.class, r.code, name, is)
	}
	if class, code, is := method.Named(r.name); class != r.class || code != r.code || !is {
		t.Errorf("Named(%q): %d, %d, %v", r.name, class, code, is)
	}
}

// Each class and code: those of the table, and all others, which are no methods.
func TestP8_1_EachClassAndCode(t *testing.T) {
	methods := 0
	for class := range 256 {
		for code := range 256 {
			r, is := rowOf(uint8(class), uint8(code))
			if is {
				checkRow(t, r)
				methods++
				continue
			}
			if kinds, is := method.Kinds(uint8(class), uint8(code)); kinds != "" || is {
				t.Errorf("Kinds(%d, %d): %q, %v", class, code, kinds, is)
			}
			if name, is := method.Name(uint8(class), uint8(code)); name != "" || is {
				t.Errorf("Name(%d, %d): %q, %v", class, code, name, is)
			}
		}
	}
	if methods != 44 {
		t.Errorf("there are %d methods", methods)
	}
}

// checkNamed asks whether Named knows just the names of the table.
func checkNamed(t *testing.T, name string) {
	t.Helper()
	for _, r := range table {
		if r.name == name {
			checkRow(t, r)
			return
		}
	}
	if class, code, is := method.Named(name); class != 0 || code != 0 || is {
		t.Errorf("Named(%q): %d, %d, %v", name, class, code, is)
	}
}

func TestP8_1_NamesThatThereAreNot(t *testing.T) {
	for _, name := range []string{
		"", ".", "..", "...", " ", "\x00", "queue", "query", "queue.", ".query", ".select", ".start", "queue.query.", ".queue.query", "queue..query", "queue.query.query",
		"Queue.query", "QUEUE.QUERY", "queue.Query", " queue.query", "queue.query ", "queue. query", "queue query", "queue-query", "queue/query", "queue.query\x00", "queue.query\n",
		"dtx.gettimeout", "dtx.get.timeout", "dtx.get_timeout", "dtx.get", "dtx.get-", "8.4", "queue.4", "8.query", "tx.forget", "tx.sync", "execution.start", "connection.select",
		"s\u00e9ssion.attach", "\xff.\xff", "6 6", "xbb", "t",
		strings.Repeat("queue.query", 1000), strings.Repeat(".", 1<<16), strings.Repeat("q", 1<<20),
	} {
		checkNamed(t, name)
	}
}

// Each word of a class with each word of a method, the empty ones among them; each name with a byte less, more, or another one.
func TestP8_1_NamesNearby(t *testing.T) {
	classes, words := []string{""}, []string{""}
	for _, r := range table {
		class, word, _ := strings.Cut(r.name, ".")
		classes, words = append(classes, class), append(words, word)
	}
	for _, class := range classes {
		for _, word := range words {
			checkNamed(t, class+"."+word)
			checkNamed(t, word+"."+class)
			checkNamed(t, class+word)
		}
	}
	for _, r := range table {
		for i := range len(r.name) + 1 {
			for _, c := range []string{"", ".", "-", "o", "\x00", "\xff", "é"} {
				checkNamed(t, r.name[:i]+c+r.name[i:])
				checkNamed(t, r.name[:i]+c+r.name[min(i+1, len(r.name)):])
			}
			checkNamed(t, r.name[:i])
			checkNamed(t, r.name[i:])
		}
	}
}

// known are methods and their encodings, byte by byte.
func known() map[string]api.Method {
	x := api.Xid{Format: 7, Global: "a"}
	return map[string]api.Method{
		"05 01 01 01 00 00":                                  made(5, 1, true),
		"05 01 01 00 00 00":                                  made(5, 1, false),
		"01 08 00 00":                                        made(1, 8, false),
		"02 0c 00 00":                                        made(2, 12, false),
		"06 08 01 01 00 00":                                  made(6, 8, true),
		"06 05 01 00 00 01 00 00 00 07 01 61 00":             made(6, 5, false, named(x)),
		"06 02 01 00 00 01 00 00 00 07 01 61 00":             made(6, 2, false, named(x), bit(false), bit(false)),
		"06 02 01 00 00 03 00 00 00 07 01 61 00":             made(6, 2, false, named(x), bit(true), bit(false)),
		"06 02 01 00 00 05 00 00 00 07 01 61 00":             made(6, 2, false, named(x), bit(false), bit(true)),
		"06 02 01 01 00 07 00 00 00 07 01 61 00":             made(6, 2, true, named(x), bit(true), bit(true)),
		"06 0a 01 00 00 03 00 00 00 07 01 61 00 00 00 00 09": made(6, 10, false, named(x), num(9)),
		"08 01 01 00 00 07 01 71 00 00 00 09":                made(8, 1, false, text("q"), bit(true), num(9)),
		"08 01 01 01 00 05 01 71 ff ff ff ff":                made(8, 1, true, text("q"), bit(false), num(math.MaxUint32)),
		"08 04 01 00 00 01 00":                               made(8, 4, false, text("")),
		"01 01 00 01 00 02 61 62":                            made(1, 1, false, text("ab")),
		"01 01 00 01 00 00":                                  made(1, 1, false, text("")),
		"01 05 00 03 01 02 ff ff":                            made(1, 5, false, num(0x0102), num(65535)),
		"01 07 00 01 01 2f":                                  made(1, 7, false, text("/")),
		"01 0b 00 03 01 f5 05 66 72 61 6d 65":                made(1, 11, false, num(501), text("frame")),
		"02 01 00 01 00 01 73":                               made(2, 1, false, text("s"), bit(false)),
		"02 01 00 03 00 01 73":                               made(2, 1, false, text("s"), bit(true)),
		"02 04 00 03 00 01 73 ff":                            made(2, 4, false, text("s"), num(255)),
		"02 07 00 01 00 00 00 00":                            made(2, 7, false, num(0)),
		"02 0a 00 01 00 08 00 00 00 01 00 00 00 02":          made(2, 10, false, set(api.Span{From: 1, To: 2})),
		"02 0b 00 01 00 00":                                  made(2, 11, false, set()),
		"03 02 01 00 00 03 00 00 00 05 f0":                   made(3, 2, false, num(5), typed(api.Value{Kind: api.ValueVoid})),
		"03 02 01 00 00 03 00 00 00 05 a9 00 00 00 07 00 00 00 02 08 01 f0":                   made(3, 2, false, num(5), typed(api.Value{Kind: api.ValueList, List: []api.Value{{Kind: api.ValueBool, N: 1}, {Kind: api.ValueVoid}}})),
		"03 03 01 00 00 07 01 94 00 00 00 01 00 02 6e 6f":                                     made(3, 3, false, num(404), num(1), text("no")),
		"04 01 01 01 00 03 01 71 01":                                                          made(4, 1, true, text("q"), num(1)),
		"04 03 01 00 00 07 00 10 00 00 00 01 00 00 00 01 00 00 00 03 00 00 00 04 00 07 01 62": made(4, 3, false, set(api.Span{From: 1, To: 1}, api.Span{From: 3, To: 4}), num(7), text("b")),
		"04 04 01 00 00 03 00 00":                                                             made(4, 4, false, set(), bit(true)),
		"04 04 01 00 00 01 00 00":                                                             made(4, 4, false, set(), bit(false)),
		"04 07 01 00 00 03 01 71 02 74 61":                                                    made(4, 7, false, text("q"), text("ta")),
		"04 0a 01 00 00 03 01 74 00 01 00 00":                                                 made(4, 10, false, text("t"), num(65536)),
	}
}

// hexed is the bytes that a text shows.
func hexed(s string) []byte {
	var b []byte
	for f := range strings.FieldsSeq(s) {
		n, err := strconv.ParseUint(f, 16, 8)
		if err != nil {
			panic(err)
		}
		b = append(b, byte(n))
	}
	return b
}

func TestP8_2_KnownBytes(t *testing.T) {
	for s, m := range known() {
		checkPut(t, m, hexed(s))
	}
}

func TestP8_2_Edges(t *testing.T) {
	for _, m := range valid() {
		checkPut(t, m, encoded(m))
	}
}

// All arguments at their edges at once.
func TestP8_2_EdgesTogether(t *testing.T) {
	for _, r := range table {
		lists := [][]api.Arg{nil}
		for i := range len(r.kinds) {
			var longer [][]api.Arg
			for _, l := range lists {
				for _, a := range good(r.kinds[i]) {
					longer = append(longer, append(slices.Clip(l), a))
				}
			}
			lists = longer
		}
		for _, l := range lists {
			m := made(r.class, r.code, !isControl(r.class), l...)
			checkPut(t, m, encoded(m))
		}
	}
}

func TestP8_2_Wrong(t *testing.T) {
	l := wrong()
	if len(l) < 2000 {
		t.Errorf("there are %d wrong ones", len(l))
	}
	for _, m := range l {
		checkWrong(t, m)
	}
}

func TestP8_2_WrongMethods(t *testing.T) {
	checkWrong(t, api.Method{})
	for class := range 256 {
		for code := range 256 {
			if _, is := rowOf(uint8(class), uint8(code)); is {
				continue
			}
			for _, sync := range []bool{false, true} {
				checkWrong(t, made(uint8(class), uint8(code), sync))
				checkWrong(t, made(uint8(class), uint8(code), sync, text("q")))
			}
		}
	}
}

// An argument of one kind in the place of one of another kind.
func TestP8_2_OtherKinds(t *testing.T) {
	kinds := "bnwdstxrv"
	for _, r := range table {
		for i := range len(r.kinds) {
			for j := range len(kinds) {
				for _, a := range good(kinds[j]) {
					m := made(r.class, r.code, false, with(plain(r), i, a)...)
					if fits(r.kinds[i], a) {
						checkPut(t, m, encoded(m))
					} else {
						checkWrong(t, m)
					}
				}
			}
		}
	}
}

// fits tells whether an argument, whose fields are all zero but for one at most, is as a kind says.
func fits(kind byte, a api.Arg) bool {
	used := ""
	for field, is := range map[string]bool{"N": a.N != 0, "S": a.S != "", "X": a.X != api.Xid{}, "Q": len(a.Q) > 0, "V": a.V.Kind != 0} {
		if is {
			used = field
		}
	}
	switch kind {
	case 'b':
		return used == ""
	case 'n', 'w', 'd':
		most := map[byte]uint64{'n': 255, 'w': 65535, 'd': math.MaxUint32}[kind]
		return a.Is && (used == "" || used == "N") && a.N <= most
	case 's', 't':
		most := map[byte]int{'s': 255, 't': 65535}[kind]
		return a.Is && (used == "" || used == "S") && len(a.S) <= most
	case 'r':
		return a.Is && (used == "" || used == "Q")
	}
	return a.Is && used == string(own(kind))
}

func TestP8_3_KnownBytes(t *testing.T) {
	for s, m := range known() {
		checkGot(t, hexed(s), m)
	}
	for s, e := range map[string]api.Errno{
		"05": api.ErrShort, "07 01": api.ErrMethod, "05 01 01 02 00 00": api.ErrForm, "05 01 01 00 00 01": api.ErrForm, "01 08 00 00 00": api.ErrForm,
		"": api.ErrShort, "01": api.ErrShort, "07": api.ErrShort, "07 01 01 00 00 00": api.ErrMethod, "05 04 01 00 00 00": api.ErrMethod, "00 00": api.ErrMethod, "01 08": api.ErrForm,
		"05 01 00 00 00 00": api.ErrForm, "01 08 01 00 00 00": api.ErrForm, "08 04 01 00 00 00 01 71": api.ErrForm, "08 04 01 00 00 03 01 71": api.ErrForm,
		"08 04 01 00 80 01 01 71": api.ErrForm, "08 01 01 00 00 03 01 71 00 00 00 09": api.ErrForm, "08 04 01 00 00 01 02 71": api.ErrForm,
		"06 05 01 00 00 01 00 00 00 07 00 00": api.ErrForm, "02 0a 00 01 00 08 00 00 00 02 00 00 00 01": api.ErrForm, "02 0a 00 01 00 04 00 00 00 02": api.ErrForm,
		"03 02 01 00 00 03 00 00 00 05 08 02": api.ErrForm, "03 02 01 00 00 03 00 00 00 05": api.ErrForm,
	} {
		checkRefused(t, hexed(s), e)
	}
}

func TestP8_3_Edges(t *testing.T) {
	for _, m := range valid() {
		checkGot(t, encoded(m), m)
	}
}

func TestP8_3_Short(t *testing.T) {
	checkRefused(t, nil, api.ErrShort)
	checkRefused(t, []byte{}, api.ErrShort)
	for c := range 256 {
		checkRefused(t, []byte{byte(c)}, api.ErrShort)
	}
}

// Each class and code, alone and with something behind it.
func TestP8_3_EachClassAndCode(t *testing.T) {
	for class := range 256 {
		for code := range 256 {
			for _, rest := range []string{"", "\x00", "\x00\x00", "\x01\x00\x00\x00", "\x01\x01\x00\x00", "\x01\x00\x00\x01\x01q", "\x00\x01\x00\x01a", "\x01\x00\x00\x00\x00"} {
				checkAsWorded(t, append([]byte{byte(class), byte(code)}, rest...))
			}
		}
	}
}

// Bytes that are cut off anywhere; and one byte too many.
func TestP8_3_CutOffAndTooMany(t *testing.T) {
	for _, m := range valid() {
		b := encoded(m)
		for n := 0; n < len(b); n += 1 + n*n/4000 {
			want := api.ErrForm
			if n < 2 {
				want = api.ErrShort
			}
			checkRefused(t, b[:n:n], want)
			// What lies behind is not to be read.
			checkRefused(t, b[:n], want)
		}
		checkRefused(t, b[:len(b)-1], api.ErrForm)
		for _, c := range []byte{0, 1, 'a', 0xf0, 0xff} {
			checkRefused(t, append(b[:len(b):len(b)], c), api.ErrForm)
		}
		checkRefused(t, append(b[:len(b):len(b)], b...), api.ErrForm)
	}
}

// The bytes ahead of a command's flags, with each value.
func TestP8_3_SyncBytes(t *testing.T) {
	for _, r := range table {
		if isControl(r.class) {
			continue
		}
		b := encoded(made(r.class, r.code, false, plain(r)...))
		for c := range 256 {
			for _, other := range [][2]byte{{byte(c), 0}, {byte(c), 1}, {1, byte(c)}, {byte(c), byte(c)}} {
				changed := append([]byte{r.class, r.code, other[0], other[1]}, b[4:]...)
				if other[0] == 1 && other[1] <= 1 {
					checkGot(t, changed, made(r.class, r.code, other[1] == 1, plain(r)...))
				} else {
					checkRefused(t, changed, api.ErrForm)
				}
			}
		}
		// A control has none of them, a command both.
		checkRefused(t, append([]byte{r.class, r.code}, b[4:]...), api.ErrForm)
		checkRefused(t, append([]byte{r.class, r.code, 1}, b[4:]...), api.ErrForm)
	}
	for _, r := range table {
		if isControl(r.class) {
			b := encoded(made(r.class, r.code, false, plain(r)...))
			checkRefused(t, append([]byte{r.class, r.code, 1, 0}, b[2:]...), api.ErrForm)
			checkRefused(t, append([]byte{r.class, r.code, 1, 1}, b[2:]...), api.ErrForm)
		}
	}
}

// Flags of arguments that there are not, and not of those that must be there: all integers for each list of kinds.
func TestP8_3_Flags(t *testing.T) {
	seen := map[string]bool{}
	for _, r := range table {
		b := encoded(made(r.class, r.code, false, plain(r)...))
		at := 2
		if !isControl(r.class) {
			at = 4
		}
		right := map[int]bool{}
		for _, l := range bitways(r, plain(r)) {
			flags := 0
			for i, a := range l {
				if a.Is {
					flags += 1 << i
				}
			}
			right[flags] = true
		}
		most := 1 << 16
		if seen[r.kinds] {
			most = 1 << 9
		}
		seen[r.kinds] = true
		for flags := range most {
			binary.BigEndian.PutUint16(b[at:], uint16(flags))
			if !right[flags] {
				checkRefused(t, b, api.ErrForm)
			} else if !checkAsWorded(t, b) {
				t.Errorf("%d are the right flags of %s", flags, r.name)
			}
		}
	}
}

// ended are bytes that end ahead of the end of an argument of that kind.
func ended(kind byte) []string {
	return map[byte][]string{
		'n': {""},
		'w': {"", "\x00"},
		'd': {"", "\x00\x00\x00"},
		's': {"", "\x01", "\x02a", "\xff" + strings.Repeat("a", 254)},
		't': {"", "\x00", "\x00\x01", "\x01\x00" + strings.Repeat("a", 255), "\xff\xff" + strings.Repeat("a", 65534)},
		'x': {"", "\x00\x00\x00\x07", "\x00\x00\x00\x07\x01", "\x00\x00\x00\x07\x01a", "\x00\x00\x00\x07\x01a\x01"},
		'r': {"", "\x00", "\x00\x08", "\x00\x08\x00\x00\x00\x01\x00\x00\x00"},
		'v': {"", "\x08", "\x32\x00", "\x95\x00\x01", "\xa9\x00\x00\x00\x05\x00\x00\x00\x01", "\xa9\xff\xff\xff\xff\xff\xff\xff\xff"},
	}[kind]
}

// broken are bytes that no argument of that kind starts with.
func broken(kind byte) []string {
	number := func(l ...uint32) string {
		var b []byte
		for _, n := range l {
			b = binary.BigEndian.AppendUint32(b, n)
		}
		return string(b)
	}
	long := "\x1f\x48"
	for i := range uint32(1001) {
		long += number(2*i, 2*i)
	}
	deep, _ := value.Put(nested(api.Value{Kind: api.ValueVoid}, 5))
	deep = append(append([]byte{0xa9}, number(uint32(4+len(deep)), 1)...), deep...)
	return map[byte][]string{
		'x': {"\x00\x00\x00\x07\x00\x00", "\x00\x00\x00\x07\x00\x01a", "\x00\x00\x00\x07\x41" + strings.Repeat("a", 65) + "\x00", "\x00\x00\x00\x07\x01a\x41" + strings.Repeat("a", 65)},
		'r': {"\x00\x08" + number(2, 1), "\x00\x10" + number(1, 2, 3, 4), "\x00\x10" + number(1, 2, 2, 4), "\x00\x10" + number(5, 6, 1, 2), "\x00\x04" + number(1), "\x00\x09" + number(1, 2) + "\x00", "\x00\x01\x00", long},
		'v': {"\x00", "\x08\x02", "\x95\x00\x01\xff", "\xa9\x00\x00\x00\x05\x00\x00\x00\x00\xf0", "\xa8\x00\x00\x00\x0a\x00\x00\x00\x02\x01k\xf0\x01k\xf0", "\xa9\x00\x00\x00\xcc\x00\x00\x00\xc8" + strings.Repeat("\xf0", 200), string(deep)},
	}[kind]
}

// ahead is the encoding of m up to one of its arguments.
func ahead(m api.Method, i int) []byte {
	b := encoded(m)
	r, _ := rowOf(m.Class, m.Code)
	for j := i; j < len(m.Args); j++ {
		b = b[:len(b)-len(encodedArg(r.kinds[j], m.Args[j]))]
	}
	return b
}

// A set that is not canonical, or too long, a value or a name that is not valid, and what ends early, as they stand among other arguments.
func TestP8_3_WrongArguments(t *testing.T) {
	for _, r := range table {
		m := made(r.class, r.code, false, plain(r)...)
		for i := range len(r.kinds) {
			front := ahead(m, i)
			behind := encoded(m)[len(ahead(m, i+1)):]
			for _, s := range ended(r.kinds[i]) {
				b := append(bytes.Clone(front), s...)
				checkRefused(t, b, api.ErrForm)
				checkAsWorded(t, append(b, behind...))
			}
			for _, s := range broken(r.kinds[i]) {
				b := append(bytes.Clone(front), s...)
				checkRefused(t, b, api.ErrForm)
				checkRefused(t, append(b, behind...), api.ErrForm)
			}
		}
	}
}

// mixer yields the same numbers in each run.
type mixer uint64

func (m *mixer) next() uint64 {
	*m += 0x9e3779b97f4a7c15
	x := uint64(*m)
	x = (x ^ x>>30) * 0xbf58476d1ce4e5b9
	x = (x ^ x>>27) * 0x94d049bb133111eb
	return x ^ x>>31
}

// below is a number from 0 to n - 1.
func (m *mixer) below(n int) int { return int(m.next() % uint64(n)) }

// method is a valid method.
func (m *mixer) method() api.Method {
	r := table[m.below(len(table))]
	out := api.Method{Class: r.class, Code: r.code, Sync: !isControl(r.class) && m.below(2) == 0}
	for i := range len(r.kinds) {
		l := good(r.kinds[i])
		a := l[m.below(len(l))]
		if strings.IndexByte("nwd", r.kinds[i]) >= 0 && m.below(2) == 0 {
			a.N = m.next() >> map[byte]int{'n': 56, 'w': 48, 'd': 32}[r.kinds[i]]
		}
		out.Args = append(out.Args, a)
	}
	return out
}

// What Get answers is what the chapter's words say of the bytes: encodings in which bytes were changed, added and left out.
func TestP8_3_AsWorded(t *testing.T) {
	mix := mixer(1)
	right, other := 0, 0
	count := func(is bool) {
		if is {
			right++
		} else {
			other++
		}
	}
	for _, m := range brief() {
		b := encoded(m)
		count(checkAsWorded(t, b))
		for i := range b {
			for _, c := range []byte{0, 1, 2, 3, 4, 5, 7, 8, 0x7f, 0x80, 0xff, b[i] + 1, b[i] - 1, byte(mix.next())} {
				changed := bytes.Clone(b)
				changed[i] = c
				count(checkAsWorded(t, changed))
				count(checkAsWorded(t, append(append(changed[:i:i], c), b[i:]...)))
			}
			count(checkAsWorded(t, append(b[:i:i], b[i+1:]...)))
		}
	}
	if right < 1000 || other < 1000 {
		t.Errorf("%d right ones, %d others", right, other)
	}
}

// Bytes of any kind behind a class and a code, most of them no encoding.
func TestP8_3_AnyBytes(t *testing.T) {
	mix := mixer(2)
	few := []byte{0, 0, 0, 0, 1, 1, 1, 2, 3, 4, 7, 8, 'a', 0xa8, 0xa9, 0xf0, 0xff}
	right := 0
	for range 100000 {
		r := table[mix.below(len(table))]
		b := []byte{r.class, r.code}
		if !isControl(r.class) && mix.below(9) > 0 {
			b = append(b, 1, byte(mix.below(2)))
		}
		if mix.below(9) > 0 {
			b = append(b, 0, byte(1<<len(r.kinds)-1))
		}
		for range mix.below(14) {
			b = append(b, few[mix.below(len(few))])
		}
		if checkAsWorded(t, b) {
			right++
		}
	}
	if right < 1000 {
		t.Errorf("%d are encodings", right)
	}
}

// kin are methods, valid and not, no two of which are equal.
func kin() []api.Method {
	void := api.Value{Kind: api.ValueVoid}
	args := []api.Arg{
		{}, {Is: true}, {N: 1}, {N: 2}, {N: 1 << 40}, {N: 1<<40 + 1}, {S: "a"}, {S: "b"}, {S: "ab"}, {S: "\x00"},
		{X: api.Xid{Format: 1}}, {X: api.Xid{Format: 2}}, {X: api.Xid{Global: "a"}}, {X: api.Xid{Global: "b"}}, {X: api.Xid{Branch: "a"}}, {X: api.Xid{Global: "a", Branch: "a"}}, {X: api.Xid{Global: "aa"}},
		{Q: []api.Span{{}}}, {Q: []api.Span{{From: 1}}}, {Q: []api.Span{{To: 1}}}, {Q: []api.Span{{From: 1}, {From: 1}}}, {Q: []api.Span{{To: 1}, {From: 1}}}, {Q: many(1000)}, {Q: many(1001)}, {Q: many(1002)},
		{V: api.Value{N: 1}}, {V: void}, {V: api.Value{S: "a"}}, {V: api.Value{Keys: []string{""}}}, {V: api.Value{Keys: []string{"a"}}}, {V: api.Value{List: make([]api.Value, 1)}}, {V: api.Value{List: []api.Value{void}}},
		{V: nested(void, 1)}, {V: nested(void, 2)}, {V: nested(void, 40)}, {V: nested(void, 41)}, {V: api.Value{Kind: api.ValueList, List: voids(200)}}, {V: api.Value{Kind: api.ValueList, List: voids(201)}},
		{Is: true, N: 1}, {Is: true, S: "a"}, {Is: true, N: 1, S: "a", X: api.Xid{Format: 1}, Q: []api.Span{{}}, V: void},
	}
	var l []api.Method
	for _, class := range []uint8{0, 1, 4, 255} {
		for _, code := range []uint8{0, 1, 4, 255} {
			l = append(l, made(class, code, false), made(class, code, true), made(class, code, false, text("q"), num(1)))
		}
	}
	for i, a := range args {
		l = append(l, made(8, 1, false, a), made(8, 1, true, a))
		if i > 0 {
			l = append(l, made(8, 1, false, a, args[0]), made(8, 1, false, args[0], a), made(8, 1, false, args[0], args[0], args[0], args[0], a))
		}
	}
	return append(l, made(8, 1, false, args[0], args[0]), made(8, 1, false, make([]api.Arg, 3)...), made(8, 1, false, make([]api.Arg, 100)...))
}

// copied is a method as m, in new memory; with lists of nothing where m has none, and the other way round.
func copied(m api.Method) api.Method {
	l := make([]api.Arg, len(m.Args))
	for i, a := range m.Args {
		a.S, a.X.Global, a.X.Branch = strings.Clone(a.S), strings.Clone(a.X.Global), strings.Clone(a.X.Branch)
		a.Q = append(make([]api.Span, 0, 2*len(a.Q)), a.Q...)
		a.V = copiedValue(a.V)
		l[i] = a
	}
	m.Args = l
	return m
}

func copiedValue(v api.Value) api.Value {
	keys, l := append([]string{}, v.Keys...), make([]api.Value, len(v.List))
	for i, element := range v.List {
		l[i] = copiedValue(element)
	}
	v.Keys, v.List = keys, l
	return v
}

func TestP8_4_Same(t *testing.T) {
	l := kin()
	for i, a := range l {
		for j, b := range l {
			if is := method.Same(a, copied(b)); is != (i == j) {
				t.Errorf("Same of %s and %s: %v", show(a), show(b), is)
			}
		}
		if !method.Same(a, a) || !method.Same(copied(a), a) {
			t.Errorf("Same of %s and itself: false", show(a))
		}
	}
}

func TestP8_4_SameOfValid(t *testing.T) {
	l := append(valid(), wrong()...)
	asTold := make([]string, len(l))
	for i, m := range l {
		asTold[i] = told(m)
	}
	for i, a := range l {
		for j := max(0, i-12); j < min(len(l), i+13); j++ {
			if is := method.Same(a, l[j]); is != (asTold[i] == asTold[j]) {
				t.Errorf("Same of %s and %s: %v", show(a), show(l[j]), is)
			}
		}
		if !method.Same(a, copied(a)) {
			t.Errorf("Same of %s and its like: false", show(a))
		}
	}
}

func TestP8_4_NilAndEmpty(t *testing.T) {
	if !method.Same(api.Method{}, api.Method{Args: []api.Arg{}}) || !method.Same(api.Method{Args: []api.Arg{}}, api.Method{}) {
		t.Error("no arguments: not the same")
	}
	empty := api.Arg{Q: []api.Span{}, V: api.Value{Keys: []string{}, List: []api.Value{}}}
	if !method.Same(made(1, 1, false, empty), made(1, 1, false, api.Arg{})) || !method.Same(made(1, 1, false, api.Arg{}), made(1, 1, false, empty)) {
		t.Error("lists of nothing: not the same")
	}
	// In fields that a kind does not use, too.
	empty.Is, empty.S = true, "q"
	checkPut(t, made(8, 4, false, empty), hexed("08 04 01 00 00 01 01 71"))
}

func TestP8_5_GetOfPut(t *testing.T) {
	mix := mixer(3)
	l := valid()
	for range 3000 {
		l = append(l, mix.method())
	}
	for _, m := range l {
		b, e := method.Put(m)
		if e != api.OK {
			t.Fatalf("Put of %s: %d", show(m), e)
		}
		got, e := method.Get(b)
		if e != api.OK || !method.Same(got, m) || !same(got, m) {
			t.Errorf("Get of Put of %s: %s, %d", show(m), show(got), e)
		}
		if e := method.Check(got); e != api.OK {
			t.Errorf("Check of Get of Put of %s: %d", show(m), e)
		}
	}
}

func TestP8_5_PutOfGot(t *testing.T) {
	mix := mixer(4)
	right, other := 0, 0
	for _, m := range brief() {
		for range 20 {
			b := encoded(m)
			for range mix.below(3) {
				b[mix.below(len(b))] = byte(mix.below(256) >> mix.below(8))
			}
			got, e := method.Get(b)
			if e != api.OK {
				other++
				continue
			}
			right++
			if back, e := method.Put(got); e != api.OK || !bytes.Equal(back, b) {
				t.Errorf("Put of Get of %x: %x, %d", b, back, e)
			}
		}
	}
	if right < 1000 || other < 1000 {
		t.Errorf("%d right ones, %d others", right, other)
	}
}

// Different methods have different encodings, and equal ones the same.
func TestP8_5_OneEncoding(t *testing.T) {
	mix := mixer(5)
	byBytes := map[string]api.Method{}
	byTold := map[string]string{}
	l := valid()
	for range 5000 {
		l = append(l, mix.method())
	}
	for _, m := range l {
		b, _ := method.Put(m)
		again, _ := method.Put(copied(m))
		if !bytes.Equal(b, again) {
			t.Errorf("%s is put in two ways: %.80x, %.80x", show(m), b, again)
		}
		if other, is := byBytes[string(b)]; is && !method.Same(other, m) {
			t.Errorf("%s and %s are both %.80x", show(m), show(other), b)
		}
		if other, is := byTold[told(m)]; is && other != string(b) {
			t.Errorf("%s is put in two ways: %.80x, %.80x", show(m), b, other)
		}
		byBytes[string(b)], byTold[told(m)] = m, string(b)
	}
	if len(byBytes) != len(byTold) || len(byBytes) < 1000 {
		t.Errorf("%d encodings of %d methods", len(byBytes), len(byTold))
	}
}

func TestP8_5_NamedOfName(t *testing.T) {
	names := map[string]bool{}
	for class := range 256 {
		for code := range 256 {
			name, is := method.Name(uint8(class), uint8(code))
			if !is {
				continue
			}
			names[name] = true
			if gotClass, gotCode, is := method.Named(name); int(gotClass) != class || int(gotCode) != code || !is {
				t.Errorf("Named of Name(%d, %d): %d, %d, %v", class, code, gotClass, gotCode, is)
			}
		}
	}
	if len(names) != 44 {
		t.Errorf("%d names", len(names))
	}
}

// roomy is a method as m, whose lists have more room behind them, with something in it.
func roomy(m api.Method) api.Method {
	m = copied(m)
	for i := range m.Args {
		a := &m.Args[i]
		a.Q = append(a.Q, api.Span{From: 77, To: 78})[:len(a.Q)]
		a.V.Keys = append(a.V.Keys, "room")[:len(a.V.Keys)]
		a.V.List = append(a.V.List, api.Value{Kind: api.ValueText, S: "room"})[:len(a.V.List)]
	}
	m.Args = append(m.Args, text("room"), set(many(3)...))[:len(m.Args)]
	return m
}

// full is a method as m with all that stands in the room behind its lists.
func full(m api.Method) api.Method {
	m.Args = slices.Clone(m.Args[:cap(m.Args)])
	for i := range m.Args {
		a := &m.Args[i]
		a.Q, a.V.Keys, a.V.List = a.Q[:cap(a.Q)], a.V.Keys[:cap(a.V.Keys)], a.V.List[:cap(a.V.List)]
	}
	return copied(m)
}

// overwrite changes all that m's lists hold, the room behind them included.
func overwrite(m api.Method) {
	l := m.Args[:cap(m.Args)]
	for i := range l {
		q, keys, values := l[i].Q[:cap(l[i].Q)], l[i].V.Keys[:cap(l[i].V.Keys)], l[i].V.List[:cap(l[i].V.List)]
		for i := range q {
			q[i] = api.Span{From: 99, To: 9}
		}
		for i := range keys {
			keys[i] = "overwritten"
		}
		for i := range values {
			values[i] = api.Value{N: 99}
		}
		l[i] = api.Arg{N: 99}
	}
}

func TestP8_2_ArgumentsStay(t *testing.T) {
	for _, m := range append(valid(), wrong()...) {
		m = roomy(m)
		was := told(full(m))
		method.Check(m)
		method.Same(m, m)
		b, _ := method.Put(m)
		if told(full(m)) != was {
			t.Fatalf("an argument changed: %s", show(m))
		}
		again, e := method.Put(m)
		want := string(b)
		clear(again[:cap(again)])
		overwrite(m)
		if string(b) != want {
			t.Fatalf("Put of %s follows others: %d", show(m), e)
		}
	}
}

func TestP8_3_NewMemory(t *testing.T) {
	for _, m := range valid() {
		b := encoded(m)
		room := append(bytes.Clone(b), bytes.Repeat([]byte{0xee}, 64)...)
		front := room[:len(b)]
		first, _ := method.Get(front)
		second, _ := method.Get(front)
		overwrite(second)
		if !bytes.Equal(front, b) || !bytes.Equal(room[len(b):], bytes.Repeat([]byte{0xee}, 64)) {
			t.Fatalf("an argument changed: %.80x", room)
		}
		for i := range room {
			room[i] = 0x5a
		}
		if !same(first, m) {
			t.Fatalf("what was got follows others: %s, not %s", show(first), show(m))
		}
	}
}

// Each list of an answer has memory of its own.
func TestP8_3_ListsApart(t *testing.T) {
	m := made(3, 2, false, num(5), typed(api.Value{Kind: api.ValueMap, Keys: []string{"k", "a"}, List: []api.Value{nested(api.Value{Kind: api.ValueVoid}, 2), nested(api.Value{Kind: api.ValueVoid}, 1)}}))
	got, _ := method.Get(encoded(m))
	v := got.Args[1].V
	overwriteValue := func(v api.Value) {
		for i := range v.List[:cap(v.List)] {
			v.List[:cap(v.List)][i] = api.Value{N: 99}
		}
	}
	overwriteValue(v.List[0])
	if !value.Same(v.List[1], m.Args[1].V.List[1]) || v.Keys[0] != "k" || v.Keys[1] != "a" {
		t.Errorf("lists of one answer share memory: %s", show(got))
	}
}

// The same is answered whatever was asked before.
func TestP8_3_NothingIsKept(t *testing.T) {
	mix := mixer(6)
	l := brief()
	for range 3000 {
		m := l[mix.below(len(l))]
		b := encoded(m)
		checkRefused(t, b[:mix.below(2)], api.ErrShort)
		checkRefused(t, b[:len(b)-1], api.ErrForm)
		checkGot(t, b, m)
		checkPut(t, m, b)
	}
}
