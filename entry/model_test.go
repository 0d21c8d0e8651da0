package entry_test

import (
	"encoding/binary"
	"encoding/hex"
	"fmt"
	"math"
	"reflect"
	"regexp"
	"slices"
	"strings"
	"testing"

	"posthouse/api"
	"posthouse/entry"
	"posthouse/props"
	"posthouse/xid"
)

// The limits as the chapters tell them.
const (
	mostName  = 40
	mostId    = 1 << 40
	mostBody  = 4096
	mostProps = 8192
	mostWork  = 100
	mostPart  = 64
)

// row tells which fields a Kind uses.
type row struct{ name, n, x, work bool }

// rows are those of the chapter's table.
func rows() map[uint8]row {
	return map[uint8]row{
		1: {name: true, n: true},
		2: {name: true},
		3: {work: true},
		4: {x: true, work: true},
		5: {n: true, x: true},
		6: {x: true},
		7: {n: true, x: true},
		8: {x: true},
		9: {x: true},
	}
}

var queueName = regexp.MustCompile(`^[\x21-\x7e]{1,40}$`)

func isId(n uint64) bool { return 1 <= n && n <= mostId }

// judged tells whether e is valid, by the chapter's words and the layers below.
func judged(e api.Entry) bool {
	r, is := rows()[e.Kind]
	if !is || r.name != (e.Name != "") || r.n != (e.N != 0) || r.x != (e.X != api.Xid{}) || !r.work && (len(e.Puts) > 0 || len(e.Takes) > 0) {
		return false
	}
	if r.name && !queueName.MatchString(e.Name) || r.n && !isId(e.N) || r.x && xid.Check(e.X) != api.OK || len(e.Puts) > mostWork || len(e.Takes) > mostWork {
		return false
	}
	for _, p := range e.Puts {
		s, no := props.Put(p.Props)
		if !queueName.MatchString(p.Queue) || p.Id > mostId || (e.Kind == 3) != (p.Id > 0) || no != api.OK || len(s) > mostProps || len(p.Body) > mostBody {
			return false
		}
	}
	for _, r := range e.Takes {
		if !queueName.MatchString(r.Queue) || !isId(r.Id) {
			return false
		}
	}
	return true
}

// integer is n as that many bytes.
func integer(n uint64, width int) string {
	return string(binary.BigEndian.AppendUint64(nil, n)[8-width:])
}

// number is the integer whose bytes these are.
func number(s string) uint64 {
	wide := make([]byte, 8)
	copy(wide[8-len(s):], s)
	return binary.BigEndian.Uint64(wide)
}

// sized is a string behind its length.
func sized(s string, width int) string { return integer(uint64(len(s)), width) + s }

// xidBytes is what is encoded of a name, valid or not.
func xidBytes(x api.Xid) string {
	return integer(uint64(x.Format), 4) + sized(x.Global, 1) + sized(x.Branch, 1)
}

// refBytes is what is encoded of a take, valid or not, and of a put ahead of its Props.
func refBytes(queue string, id uint64) string { return sized(queue, 1) + integer(id, 8) }

// head is the encoding of properties that layer 9 takes, whatever their size.
func head(p api.Props) string {
	s, e := props.Put(p)
	if e != api.OK {
		panic(e)
	}
	return s
}

// putBytes is what is encoded of a put, valid or not, whose Props are encoded so.
func putBytes(p api.Put, head string) string {
	return refBytes(p.Queue, p.Id) + sized(head, 4) + sized(p.Body, 2)
}

// workBytes is what is encoded of puts and takes.
func workBytes(puts []api.Put, takes []api.Ref) string {
	var b strings.Builder
	b.WriteString(integer(uint64(len(puts)), 1))
	for _, p := range puts {
		b.WriteString(putBytes(p, head(p.Props)))
	}
	b.WriteString(integer(uint64(len(takes)), 1))
	for _, r := range takes {
		b.WriteString(refBytes(r.Queue, r.Id))
	}
	return b.String()
}

// written is that Kind's byte, and the fields that a row names, as they would be encoded, valid or not.
func written(kind uint8, r row, e api.Entry) string {
	s := integer(uint64(kind), 1)
	if r.name {
		s += sized(e.Name, 1)
	}
	if r.n {
		s += integer(e.N, 8)
	}
	if r.x {
		s += xidBytes(e.X)
	}
	if r.work {
		s += workBytes(e.Puts, e.Takes)
	}
	return s
}

// encoded is the encoding of a valid entry, made by the chapter's words.
func encoded(e api.Entry) string { return written(e.Kind, rows()[e.Kind], e) }

// cutter cuts a string from its start on; once something is not there it is over.
type cutter struct {
	left string
	over bool
}

func (c *cutter) bytes(n uint64) string {
	if c.over || uint64(len(c.left)) < n {
		c.over = true
		return ""
	}
	s := c.left[:n]
	c.left = c.left[n:]
	return s
}

func (c *cutter) integer(width int) uint64 { return number(c.bytes(uint64(width))) }
func (c *cutter) sized(width int) string   { return c.bytes(c.integer(width)) }

func (c *cutter) xid() api.Xid {
	return api.Xid{Format: uint32(c.integer(4)), Global: c.sized(1), Branch: c.sized(1)}
}

func (c *cutter) props() api.Props {
	p, e := props.Get(c.sized(4))
	c.over = c.over || e != api.OK
	return p
}

func (c *cutter) puts() []api.Put {
	var l []api.Put
	for n := c.integer(1); n > 0 && !c.over; n-- {
		var p api.Put
		p.Queue = c.sized(1)
		p.Id = c.integer(8)
		p.Props = c.props()
		p.Body = c.sized(2)
		l = append(l, p)
	}
	return l
}

func (c *cutter) takes() []api.Ref {
	var l []api.Ref
	for n := c.integer(1); n > 0 && !c.over; n-- {
		var r api.Ref
		r.Queue = c.sized(1)
		r.Id = c.integer(8)
		l = append(l, r)
	}
	return l
}

// decoded is the entry of which s is the encoding, found field by field without the package.
func decoded(s string) (api.Entry, bool) {
	c := &cutter{left: s}
	e := api.Entry{Kind: uint8(c.integer(1))}
	r := rows()[e.Kind]
	if r.name {
		e.Name = c.sized(1)
	}
	if r.n {
		e.N = c.integer(8)
	}
	if r.x {
		e.X = c.xid()
	}
	if r.work {
		e.Puts = c.puts()
		e.Takes = c.takes()
	}
	return e, !c.over && c.left == "" && judged(e)
}

// told tells entries so that two of them are told alike if and only if they are equal.
func told(e api.Entry) string {
	var b strings.Builder
	fmt.Fprintf(&b, "%d %+q %d %s", e.Kind, e.Name, e.N, toldXid(e.X))
	for _, p := range e.Puts {
		fmt.Fprintf(&b, " put %+q %d %+q %v %v %+q ", p.Queue, p.Id, p.Props.Key, p.Props.Durable, p.Props.Redelivered, p.Props.Id)
		tell(&b, p.Props.App)
		fmt.Fprintf(&b, " %+q", p.Body)
	}
	for _, r := range e.Takes {
		fmt.Fprintf(&b, " take %+q %d", r.Queue, r.Id)
	}
	return b.String()
}

func toldXid(x api.Xid) string { return fmt.Sprintf("%d.%x.%x", x.Format, x.Global, x.Branch) }

func tell(b *strings.Builder, v api.Value) {
	fmt.Fprintf(b, "{%d %d %+q %+q", v.Kind, v.N, v.S, v.Keys)
	for _, element := range v.List {
		tell(b, element)
	}
	b.WriteString("}")
}

// show tells an entry, valid or not, in a line that is not too long, without going into any App.
func show(e api.Entry) string {
	s := fmt.Sprintf("%d %+.50q %d %.90s, %d puts, %d takes:", e.Kind, e.Name, e.N, toldXid(e.X), len(e.Puts), len(e.Takes))
	for _, p := range e.Puts[:min(len(e.Puts), 3)] {
		s += fmt.Sprintf(" put %+.50q %d %+.20q %v %v %+.20q App %d %d, %d bytes", p.Queue, p.Id, p.Props.Key, p.Props.Durable, p.Props.Redelivered, p.Props.Id, p.Props.App.Kind, len(p.Props.App.List), len(p.Body))
	}
	for _, r := range e.Takes[:min(len(e.Takes), 3)] {
		s += fmt.Sprintf(" take %+.50q %d", r.Queue, r.Id)
	}
	return s
}

// checkPut asks whether Check has nothing against e, and Put answers s.
func checkPut(t *testing.T, e api.Entry, s string) {
	t.Helper()
	if no := entry.Check(e); no != api.OK {
		t.Errorf("Check of %s: %d", show(e), no)
	}
	if got, no := entry.Put(e); no != api.OK || got != s {
		t.Errorf("Put of %s: %.80x, %d, not %.80x", show(e), got, no, s)
	}
}

// checkWrong asks whether Check and Put refuse e.
func checkWrong(t *testing.T, e api.Entry) {
	t.Helper()
	if no := entry.Check(e); no != api.ErrEntry {
		t.Errorf("Check of %s: %d", show(e), no)
	}
	if s, no := entry.Put(e); no != api.ErrEntry || s != "" {
		t.Errorf("Put of %s: %.80x, %d", show(e), s, no)
	}
}

// checkJudged asks whether e is taken or refused as the chapter words it, and tells which.
func checkJudged(t *testing.T, e api.Entry) bool {
	t.Helper()
	is := judged(e)
	if is {
		checkPut(t, e, encoded(e))
	} else {
		checkWrong(t, e)
	}
	return is
}

// checkGot asks whether Get of s answers e.
func checkGot(t *testing.T, s string, e api.Entry) {
	t.Helper()
	if got, no := entry.Get(s); no != api.OK || told(got) != told(e) {
		t.Errorf("Get of %.80x: %s, %d, not %s", s, show(got), no, show(e))
	}
}

// checkRefused asks whether Get of s answers the error, and nothing else.
func checkRefused(t *testing.T, s string) {
	t.Helper()
	if e, no := entry.Get(s); no != api.ErrEntry || !reflect.DeepEqual(e, api.Entry{}) {
		t.Errorf("Get of %.80x: %s, %d", s, show(e), no)
	}
}

// checkAsWorded asks whether Get of s answers as the chapter words it, and tells whether s is an encoding.
func checkAsWorded(t *testing.T, s string) bool {
	t.Helper()
	e, is := decoded(s)
	if is {
		checkGot(t, s, e)
	} else {
		checkRefused(t, s)
	}
	return is
}

// hexed is the string that a text shows.
func hexed(s string) string {
	b, e := hex.DecodeString(strings.ReplaceAll(s, " ", ""))
	if e != nil {
		panic(e)
	}
	return string(b)
}

// long is a string of so many bytes.
func long(n int) string { return strings.Repeat("x", n) }

// named is a branch's name.
func named(format uint32, global, branch string) api.Xid {
	return api.Xid{Format: format, Global: global, Branch: branch}
}

func ref(queue string, id uint64) api.Ref { return api.Ref{Queue: queue, Id: id} }

// goodNames are queue names.
func goodNames() []string {
	return []string{"q", "!", "~", "a.b", "!~", "0", "\x22'\\", long(mostName - 1), long(mostName), strings.Repeat("~", mostName)}
}

// badNames are none.
func badNames() []string {
	return []string{
		"", " ", "\x7f", "\x00", "\xff", "\n", "é", "a b", "q\n", "\nq", "q\x00", " q", "q ", "q\x7f", "\x80",
		long(mostName + 1), long(mostName+1) + " ", long(mostName-1) + " ", long(255), long(256), long(257), long(256 + mostName), long(1 << 16),
	}
}

// goodIds are message numbers, badIds none.
func goodIds() []uint64 { return []uint64{1, 2, 255, 256, 1<<32 - 1, 1 << 32, mostId - 1, mostId} }
func badIds() []uint64 {
	return []uint64{0, mostId + 1, mostId + 2, 1<<40 + 1<<8, 1 << 41, 1<<48 + 1, 1 << 56, 1 << 63, math.MaxUint64 - mostId, math.MaxUint64}
}

// goodXids are valid names, badXids others than the zero one.
func goodXids() []api.Xid {
	return []api.Xid{
		named(0, "a", ""), named(7, "a", "b"), named(7, "\x00\xff", "\x80"), named(1<<31, "a", long(mostPart)), named(math.MaxUint32, long(mostPart), ""), named(1, long(mostPart), strings.Repeat("\xff", mostPart)),
	}
}

func badXids() []api.Xid {
	return []api.Xid{
		named(7, "", ""), named(0, "", "b"), named(7, "", "b"), named(0, long(mostPart+1), ""), named(0, "a", long(mostPart+1)), named(7, long(255), "b"), named(7, "a", long(255)),
		named(7, long(256), "b"), named(7, "a", long(256)), named(7, long(257), ""), named(math.MaxUint32, long(1000), long(1000)),
	}
}

func dict(keys string, l ...api.Value) api.Value {
	return api.Value{Kind: api.ValueMap, Keys: strings.Split(keys, "."), List: l}
}

func void() api.Value { return api.Value{Kind: api.ValueVoid} }

func ofBytes(n int) api.Value { return api.Value{Kind: api.ValueBytes, S: long(n)} }

// heavy are properties whose encoding has just so many bytes, from 4200 to 8230.
func heavy(size int) api.Props {
	p := api.Props{App: dict("a.b", ofBytes(4096), ofBytes(0))}
	p.App.List[1] = ofBytes(size - len(head(p)))
	if len(head(p)) != size {
		panic(size)
	}
	return p
}

// keyed are such properties with a Key and an Id, too.
func keyed(size int) api.Props {
	p := heavy(size - 255 - 1 - 255 - 1)
	p.Key, p.Id = long(255), long(255)
	if len(head(p)) != size {
		panic(size)
	}
	return p
}

// goodProps are properties of a valid put.
func goodProps() []api.Props {
	return []api.Props{
		{}, {Key: "q"}, {Key: "q", Durable: true}, {Redelivered: true}, {Id: "a"}, {Key: "\x00", Durable: true, Redelivered: true, Id: "\xff", App: dict("k", void())},
		{App: api.Value{Kind: api.ValueMap}}, {App: dict("k.l", dict("m", void()), api.Value{Kind: api.ValueList, List: []api.Value{void(), {Kind: api.ValueNum, N: 9}}})},
		{App: api.Value{Keys: []string{}, List: []api.Value{}}}, {Key: long(255), Id: long(255)}, heavy(mostProps - 1), heavy(mostProps), keyed(mostProps),
	}
}

// greatProps are valid properties whose encoding is too long for a put.
func greatProps() []api.Props {
	l := []api.Props{heavy(mostProps + 1), heavy(mostProps + 2), keyed(mostProps + 1)}
	for _, n := range []int{3, 16, 17, 150} {
		p := api.Props{Key: "q", App: api.Value{Kind: api.ValueMap}}
		for i := range n {
			p.App.Keys = append(p.App.Keys, fmt.Sprint(i))
			p.App.List = append(p.App.List, ofBytes(4096))
		}
		l = append(l, p)
	}
	return l
}

// wrongProps are properties that are not valid.
func wrongProps() []api.Props {
	return []api.Props{
		{Key: long(256)}, {Id: long(256)}, {App: void()}, {App: api.Value{N: 1}}, {App: api.Value{S: "a"}}, {App: api.Value{Keys: []string{""}}}, {App: api.Value{List: []api.Value{void()}}},
		{App: dict("k")}, {App: dict("k.k", void(), void())}, {App: dict("", void())}, {App: dict("k", api.Value{})}, {App: dict("k", api.Value{Kind: api.ValueBool, N: 2})}, {App: dict("k", ofBytes(4097))},
		{App: endless()}, {App: dict("k", dict("k", dict("k", dict("k", dict("k", dict("k", void()))))))},
	}
}

// endless is a map that contains itself.
func endless() api.Value {
	v := dict("k", void())
	v.List[0] = v
	return v
}

// goodBodies are bodies of a valid put, badBodies of none.
func goodBodies() []string {
	return []string{"", "b", "\x00", "\xff\x00", long(255), long(256), long(mostBody - 1), long(mostBody), strings.Repeat("\xff", mostBody)}
}

func badBodies() []string {
	return []string{long(mostBody + 1), long(mostBody + 2), long(8192), long(65535), long(65536), long(65537), long(65536 + mostBody), long(1 << 20)}
}

// put is a short put.
func put(queue string, id uint64) api.Put {
	return api.Put{Queue: queue, Id: id, Props: api.Props{Key: "q", Durable: true}, Body: "b"}
}

// puts are so many, with numbers from one on if they are to have some.
func puts(n int, numbered bool) []api.Put {
	var l []api.Put
	for i := range n {
		p := put("q", 0)
		if numbered {
			p.Id = uint64(i) + 1
		}
		l = append(l, p)
	}
	return l
}

// takes are so many.
func takes(n int) []api.Ref {
	var l []api.Ref
	for i := range n {
		l = append(l, ref("q", uint64(i)+1))
	}
	return l
}

// plain is a valid entry of that Kind, with one put and one take if it uses them.
func plain(kind uint8) api.Entry {
	e := api.Entry{Kind: kind}
	r := rows()[kind]
	if r.name {
		e.Name = "q"
	}
	if r.n {
		e.N = 9
	}
	if r.x {
		e.X = named(7, "a", "b")
	}
	if r.work {
		e.Puts, e.Takes = puts(1, kind == api.EnDo), takes(1)
	}
	return e
}

// kinds are all that there are.
func kinds() []uint8 { return []uint8{1, 2, 3, 4, 5, 6, 7, 8, 9} }

// workers are those that have puts and takes.
func workers() []uint8 { return []uint8{api.EnDo, api.EnPrep} }

// withPut is a valid entry of a Kind with puts, in which that one, numbered as the Kind asks, is the one put.
func withPut(kind uint8, p api.Put) api.Entry {
	e := plain(kind)
	if kind == api.EnPrep {
		p.Id = 0
	}
	e.Puts = []api.Put{p}
	return e
}

// brief are valid entries whose encodings are short, with no two of them equal.
func brief() []api.Entry {
	names := []string{"q", "!", "ab"}
	numbers := []uint64{1, 9, mostId}
	xids := []api.Xid{named(7, "a", ""), named(7, "a", "b"), named(math.MaxUint32, "\x00\xff", "q"), named(0, "ab", "")}
	var l []api.Entry
	for _, name := range names {
		l = append(l, api.Entry{Kind: 2, Name: name})
		for _, n := range numbers {
			l = append(l, api.Entry{Kind: 1, Name: name, N: n})
		}
	}
	for _, x := range xids {
		l = append(l, api.Entry{Kind: 6, X: x}, api.Entry{Kind: 8, X: x}, api.Entry{Kind: 9, X: x})
		for _, n := range numbers {
			l = append(l, api.Entry{Kind: 5, X: x, N: n}, api.Entry{Kind: 7, X: x, N: n})
		}
	}
	for _, takes := range briefTakes() {
		for _, puts := range briefPuts() {
			l = append(l, api.Entry{Kind: 3, Puts: puts, Takes: takes})
			for _, x := range xids[:2] {
				l = append(l, api.Entry{Kind: 4, X: x, Puts: numberless(puts), Takes: takes})
			}
		}
	}
	return l
}

func briefTakes() [][]api.Ref {
	a, b := ref("q", 5), ref("ab", mostId)
	return [][]api.Ref{nil, {a}, {b}, {a, b}, {b, a}, {a, a}}
}

func briefPuts() [][]api.Put {
	a := put("q", 1)
	b := api.Put{Queue: "ab", Id: mostId, Props: api.Props{Id: "i", App: dict("k", void())}}
	return [][]api.Put{nil, {a}, {b}, {a, b}, {b, a}, {a, a}}
}

// numberless are the same puts with the Id 0.
func numberless(l []api.Put) []api.Put {
	l = slices.Clone(l)
	for i := range l {
		l[i].Id = 0
	}
	return l
}

// valid are valid entries: the brief ones, and those that have each field at its edges.
func valid() []api.Entry {
	l := brief()
	for _, kind := range kinds() {
		e, r := plain(kind), rows()[kind]
		if r.name {
			for _, e.Name = range goodNames() {
				l = append(l, e)
			}
		}
		e = plain(kind)
		if r.n {
			for _, e.N = range goodIds() {
				l = append(l, e)
			}
		}
		e = plain(kind)
		if r.x {
			for _, e.X = range goodXids() {
				l = append(l, e)
			}
		}
	}
	for _, kind := range workers() {
		l = append(l, validWork(kind)...)
	}
	return l
}

// validWork are valid entries of a Kind with puts and takes, each of them at its edges.
func validWork(kind uint8) []api.Entry {
	var l []api.Entry
	for _, p := range goodPuts() {
		l = append(l, withPut(kind, p))
	}
	e := plain(kind)
	for _, name := range goodNames() {
		e.Takes = []api.Ref{ref(name, 3)}
		l = append(l, e)
	}
	for _, id := range goodIds() {
		e.Takes = []api.Ref{ref("q", id)}
		l = append(l, e)
	}
	for _, n := range []int{0, 1, 2, mostWork - 1, mostWork} {
		e.Puts, e.Takes = puts(n, kind == api.EnDo), takes(mostWork-n)
		l = append(l, e)
		e.Takes = takes(n)
		l = append(l, e)
	}
	return l
}

// goodPuts are valid puts with a number, each of them with one field at an edge.
func goodPuts() []api.Put {
	var l []api.Put
	for _, name := range goodNames() {
		l = append(l, put(name, 1))
	}
	for _, id := range goodIds() {
		l = append(l, put("q", id))
	}
	p := put("q", 1)
	for _, p.Props = range goodProps() {
		l = append(l, p)
	}
	p = put("q", 1)
	for _, p.Body = range goodBodies() {
		l = append(l, p)
	}
	return l
}

// badPuts are puts that are not valid, or not as the Kind asks, each in one thing.
func badPuts(kind uint8) []api.Put {
	good, ids := put("q", 1), badIds()
	if kind == api.EnPrep {
		good, ids = put("q", 0), append(badIds()[1:], goodIds()...)
	}
	var l []api.Put
	p := good
	for _, p.Queue = range badNames() {
		l = append(l, p)
	}
	p = good
	for _, p.Id = range ids {
		l = append(l, p)
	}
	p = good
	for _, p.Props = range slices.Concat(wrongProps(), greatProps()) {
		l = append(l, p)
	}
	p = good
	for _, p.Body = range badBodies() {
		l = append(l, p)
	}
	return l
}

// badTakes are takes that are not valid, each in one thing.
func badTakes() []api.Ref {
	l := []api.Ref{{}, {Id: mostId + 1}}
	for _, name := range badNames() {
		l = append(l, ref(name, 3))
	}
	for _, id := range badIds() {
		l = append(l, ref("q", id))
	}
	return l
}

// largest is the entry with the longest encoding.
func largest() api.Entry {
	p := api.Put{Queue: long(mostName), Props: keyed(mostProps), Body: long(mostBody)}
	return api.Entry{Kind: api.EnPrep, X: named(math.MaxUint32, long(mostPart), long(mostPart)), Puts: slices.Repeat([]api.Put{p}, mostWork), Takes: slices.Repeat([]api.Ref{ref(long(mostName), mostId)}, mostWork)}
}
