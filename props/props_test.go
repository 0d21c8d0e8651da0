package props_test

import (
	"encoding/binary"
	"fmt"
	"maps"
	"math"
	"math/rand"
	"reflect"
	"slices"
	"strconv"
	"strings"
	"testing"

	"posthouse/api"
	"posthouse/props"
	"posthouse/value"
)

// The limits as the chapters tell them.
const (
	mostText   = 255
	mostDeep   = 6
	mostValues = 200
	mostBytes  = 4096
)

func void() api.Value { return api.Value{Kind: api.ValueVoid} }

// voids is so many voids.
func voids(n int) []api.Value { return slices.Repeat([]api.Value{void()}, n) }

func list(l ...api.Value) api.Value { return api.Value{Kind: api.ValueList, List: l} }

// dict is a map with those keys, in a line with stops between them.
func dict(keys string, l ...api.Value) api.Value {
	return api.Value{Kind: api.ValueMap, Keys: strings.Split(keys, "."), List: l}
}

// empty is the map with no key.
func empty() api.Value { return api.Value{Kind: api.ValueMap} }

// numbered is a map with so many keys.
func numbered(n int) api.Value {
	v := api.Value{Kind: api.ValueMap, List: voids(n)}
	for i := range n {
		v.Keys = append(v.Keys, strconv.Itoa(i))
	}
	return v
}

// nested is v in so many maps, each in the next one.
func nested(v api.Value, maps int) api.Value {
	for range maps {
		v = dict("k", v)
	}
	return v
}

// scalars are valid values that hold no others.
func scalars() []api.Value {
	return []api.Value{
		void(),
		{Kind: api.ValueBool}, {Kind: api.ValueBool, N: 1},
		{Kind: api.ValueByte}, {Kind: api.ValueByte, N: 255},
		{Kind: api.ValueNum}, {Kind: api.ValueNum, N: math.MaxUint64},
		{Kind: api.ValueInt}, {Kind: api.ValueInt, N: 1 << 63},
		{Kind: api.ValueText}, {Kind: api.ValueText, S: "é\x00"}, {Kind: api.ValueText, S: strings.Repeat("x", mostBytes)},
		{Kind: api.ValueBytes}, {Kind: api.ValueBytes, S: "\xff"}, {Kind: api.ValueBytes, S: strings.Repeat("\x80", mostBytes)},
	}
}

// goodApps are what App may be: nothing, and maps, those at the limits among them.
func goodApps() []api.Value {
	l := []api.Value{
		{}, {Keys: []string{}, List: []api.Value{}},
		empty(), {Kind: api.ValueMap, Keys: []string{}, List: []api.Value{}},
		dict("k", void()), dict("a.b.c", void(), api.Value{Kind: api.ValueNum, N: 7}, api.Value{Kind: api.ValueText, S: "é"}), dict("c.b.a", void(), void(), void()),
		dict("l.m", list(void(), list(), empty()), dict("k", list(void()))),
		numbered(mostValues - 1), dict("l", list(voids(mostValues-2)...)),
		nested(void(), mostDeep-1), nested(empty(), mostDeep-1), nested(list(void()), mostDeep-2),
		dict(strings.Repeat("k", mostText), void()), dict(strings.Repeat("é", mostText/2), void()), dict("\x00", void()),
	}
	for _, v := range scalars() {
		l = append(l, dict("k", v))
	}
	return l
}

// noMaps are values of each kind that is no map, valid ones, and of kinds that there are not.
func noMaps() []api.Value {
	l := append(scalars(), list(), list(void()), list(empty()), list(voids(mostValues-1)...))
	for kind := range 256 {
		k := api.ValueKind(kind)
		if k != 0 && k != api.ValueMap {
			l = append(l, api.Value{Kind: k}, api.Value{Kind: k, Keys: []string{"k"}, List: voids(1)})
		}
	}
	return l
}

// strange are values of no kind in which another field is set.
func strange() []api.Value {
	return []api.Value{
		{N: 1}, {N: 1 << 63}, {S: "a"}, {S: "\x00"}, {Keys: []string{""}}, {Keys: []string{"k"}}, {List: make([]api.Value, 1)}, {List: voids(1)},
		{Keys: []string{"k"}, List: voids(1)}, {List: voids(1000)}, {List: []api.Value{nested(void(), 20)}},
	}
}

// badMaps are maps that are not valid, by each of chapter 5's errors.
func badMaps() []api.Value {
	bad := func(keys []string, l ...api.Value) api.Value {
		return api.Value{Kind: api.ValueMap, Keys: keys, List: l}
	}
	inside := []api.Value{
		{}, {Kind: 1}, {Kind: 255}, {Kind: api.ValueVoid, N: 1}, {Kind: api.ValueVoid, S: "a"}, {Kind: api.ValueBool, N: 2}, {Kind: api.ValueByte, N: 256},
		{Kind: api.ValueText, S: "\xff"}, {Kind: api.ValueText, S: strings.Repeat("x", mostBytes+1)}, {Kind: api.ValueBytes, S: strings.Repeat("x", mostBytes+1)},
		{Kind: api.ValueNum, List: voids(1)}, {Kind: api.ValueList, Keys: []string{"k"}, List: voids(1)}, {Kind: api.ValueMap, Keys: []string{"k"}},
	}
	l := []api.Value{
		{Kind: api.ValueMap, N: 1}, {Kind: api.ValueMap, S: "a"}, bad(nil, void()), bad([]string{"k"}), bad([]string{"a", "b"}, void()), bad([]string{"a"}, voids(2)...),
		dict("k.k", voids(2)...), dict("a.b.a", voids(3)...), dict("", void()), dict("\xff", void()), dict(strings.Repeat("k", mostText+1), void()),
		numbered(mostValues), numbered(10 * mostValues), dict("l", list(voids(mostValues-1)...)),
		nested(void(), mostDeep), nested(empty(), mostDeep), nested(void(), 10000), dict("k", api.Value{List: []api.Value{nested(void(), mostDeep)}}),
	}
	for _, v := range inside {
		l = append(l, dict("k", v), dict("a.b.c", void(), v, void()), dict("l", list(void(), v)))
	}
	return append(l, endless())
}

// endless is a map that contains itself.
func endless() api.Value {
	v := dict("k", void())
	v.List[0] = v
	return v
}

// goodTexts are what Key and Id may be.
func goodTexts() []string {
	long := strings.Repeat("x", mostText)
	return []string{"", "a", "\x00", "q\xff", "\xff", "é", "\xc3", "\x00\x01", "\x04\x01\x00\x00", "\x00\x00\x00\x04\x04\x03", strings.Repeat("y", 127), strings.Repeat("y", 128), long[1:], long, strings.Repeat("\xfe", mostText)}
}

// badTexts are what they may not be.
func badTexts() []string {
	return []string{strings.Repeat("x", mostText+1), strings.Repeat("\x00", mostText+1), strings.Repeat("x", 257), strings.Repeat("x", 511), strings.Repeat("x", 512), strings.Repeat("x", 65536), strings.Repeat("x", 65537), strings.Repeat("é", 128)}
}

// bools are both.
func bools() []bool { return []bool{false, true} }

// valid are valid properties: each Key with each Id, each App with some of them, in each way together with Durable and Redelivered.
func valid() []api.Props {
	var l []api.Props
	for _, durable := range bools() {
		for _, redelivered := range bools() {
			p := api.Props{Durable: durable, Redelivered: redelivered}
			for _, p.Key = range goodTexts() {
				for _, p.Id = range goodTexts() {
					l = append(l, p)
				}
			}
			for _, p.App = range goodApps() {
				for _, p.Key = range []string{"", "q", strings.Repeat("k", mostText)} {
					for _, p.Id = range []string{"", "a", strings.Repeat("i", mostText)} {
						l = append(l, p)
					}
				}
			}
		}
	}
	return l
}

// brief are valid properties whose encodings are short, with no two of them equal: each field alone, and all ways in which they stand together.
func brief() []api.Props {
	var l []api.Props
	for _, durable := range bools() {
		for _, redelivered := range bools() {
			for _, key := range []string{"", "q", "\x00", "ab"} {
				for _, id := range []string{"", "a", "\xff\x00"} {
					for _, app := range []api.Value{{}, empty(), dict("k", void()), dict("a.b", list(), api.Value{Kind: api.ValueBool, N: 1})} {
						l = append(l, api.Props{Key: key, Durable: durable, Redelivered: redelivered, Id: id, App: app})
					}
				}
			}
		}
	}
	return l
}

// wrong are properties that are not valid, each in one thing, whatever the others are.
func wrong() []api.Props {
	var l []api.Props
	for _, p := range brief() {
		for _, s := range badTexts() {
			one, other := p, p
			one.Key, other.Id = s, s
			l = append(l, one, other)
		}
		for _, v := range slices.Concat(strange(), badMaps(), scalars(), []api.Value{list(), list(empty())}) {
			p.App = v
			l = append(l, p)
		}
	}
	for _, v := range noMaps() {
		l = append(l, api.Props{App: v}, api.Props{Key: "q", Durable: true, Redelivered: true, Id: "a", App: v})
	}
	return l
}

// sized is a string behind its length, an integer of that many bytes.
func sized(s string, width int) string {
	wide := binary.BigEndian.AppendUint64(nil, uint64(len(s)))
	return string(wide[8-width:]) + s
}

// made is a part with that code and those flags, with its right length.
func made(code, flags int, fields string) string {
	b := binary.BigEndian.AppendUint16(nil, uint16(code))
	b = binary.BigEndian.AppendUint16(b, uint16(flags))
	return sized(string(b)+fields, 4)
}

// encoded is the encoding of valid properties, made by the chapter's words and layer 5 alone.
func encoded(p api.Props) string {
	sum, fields := 0, ""
	if p.Durable {
		sum += 1
	}
	if p.Redelivered {
		sum += 2
	}
	if p.Key != "" {
		sum += 4
		fields = sized(p.Key, 1)
	}
	s := made(0x0401, sum, fields)
	if p.Id == "" && p.App.Kind != 0xa8 {
		return s
	}
	sum, fields = 0, ""
	if p.Id != "" {
		sum += 1
		fields = sized(p.Id, 1)
	}
	if p.App.Kind == 0xa8 {
		sum += 2
		fields += mapped(p.App)
	}
	return s + made(0x0403, sum, fields)
}

// mapped is the encoding of a value.
func mapped(v api.Value) string {
	b, e := value.Put(v)
	if e != api.OK {
		panic(e)
	}
	return string(b)
}

// decoded is the properties of which s is the encoding, found field by field without the package.
func decoded(s string) (p api.Props, is bool) {
	flags, fields, s, is := split(s, 0x0401)
	if !is || flags > 7 {
		return p, false
	}
	p.Durable, p.Redelivered = flags%2 == 1, flags/2%2 == 1
	if flags >= 4 {
		if p.Key, fields, is = cut(fields, 1); !is || p.Key == "" {
			return p, false
		}
	}
	if fields != "" || s == "" {
		return p, fields == ""
	}
	flags, fields, s, is = split(s, 0x0403)
	if !is || s != "" || flags < 1 || flags > 3 {
		return p, false
	}
	if flags != 2 {
		if p.Id, fields, is = cut(fields, 1); !is || p.Id == "" {
			return p, false
		}
	}
	if flags == 1 {
		return p, fields == ""
	}
	v, size, e := value.Get([]byte(fields))
	p.App = v
	return p, e == api.OK && v.Kind == 0xa8 && size == len(fields)
}

// split is the flags and the fields of the part with that code at the start of s, and what follows it.
func split(s string, code uint64) (flags uint64, fields, rest string, is bool) {
	inner, rest, is := cut(s, 4)
	if !is || len(inner) < 4 || integer(inner[:2]) != code {
		return 0, "", "", false
	}
	return integer(inner[2:4]), inner[4:], rest, true
}

// cut is the string at the start of s whose length is an integer of that many bytes, and what follows it.
func cut(s string, width int) (inner, rest string, is bool) {
	if len(s) < width || uint64(len(s)-width) < integer(s[:width]) {
		return "", "", false
	}
	end := width + int(integer(s[:width]))
	return s[width:end], s[end:], true
}

// integer is the integer whose bytes these are.
func integer(s string) uint64 {
	wide := make([]byte, 8)
	copy(wide[8-len(s):], s)
	return binary.BigEndian.Uint64(wide)
}

// told tells properties so that two of them are told alike if and only if they are equal.
func told(p api.Props) string {
	var b strings.Builder
	fmt.Fprintf(&b, "%+q %v %v %+q ", p.Key, p.Durable, p.Redelivered, p.Id)
	tell(&b, p.App)
	return b.String()
}

func tell(b *strings.Builder, v api.Value) {
	fmt.Fprintf(b, "{%d %d %+q %+q", v.Kind, v.N, v.S, v.Keys)
	for _, element := range v.List {
		tell(b, element)
	}
	b.WriteString("}")
}

// show tells valid properties in a line that is not too long.
func show(p api.Props) string {
	s := told(p)
	return s[:min(len(s), 160)]
}

// hint tells properties, valid or not, without going into their App.
func hint(p api.Props) string {
	return fmt.Sprintf("%+.20q (%d) %v %v %+.20q (%d) %d %d %+.20q %d %d", p.Key, len(p.Key), p.Durable, p.Redelivered, p.Id, len(p.Id), p.App.Kind, p.App.N, p.App.S, len(p.App.Keys), len(p.App.List))
}

// checkPut asks whether Check has nothing against p, and Put answers s.
func checkPut(t *testing.T, p api.Props, s string) {
	t.Helper()
	if e := props.Check(p); e != api.OK {
		t.Errorf("Check of %s: %d", show(p), e)
	}
	if got, e := props.Put(p); e != api.OK || got != s {
		t.Errorf("Put of %s: %.80x, %d, not %.80x", show(p), got, e, s)
	}
}

// checkWrong asks whether Check and Put refuse p.
func checkWrong(t *testing.T, p api.Props) {
	t.Helper()
	if e := props.Check(p); e != api.ErrProps {
		t.Errorf("Check of %s: %d", hint(p), e)
	}
	if s, e := props.Put(p); e != api.ErrProps || s != "" {
		t.Errorf("Put of %s: %.80x, %d", hint(p), s, e)
	}
}

// checkGot asks whether Get of s answers p.
func checkGot(t *testing.T, s string, p api.Props) {
	t.Helper()
	if got, e := props.Get(s); e != api.OK || told(got) != told(p) {
		t.Errorf("Get of %.80x: %s, %d, not %s", s, show(got), e, show(p))
	}
}

// checkRefused asks whether Get of s answers the error, and nothing else.
func checkRefused(t *testing.T, s string) {
	t.Helper()
	if p, e := props.Get(s); e != api.ErrProps || !reflect.DeepEqual(p, api.Props{}) {
		t.Errorf("Get of %.80x: %s, %d", s, show(p), e)
	}
}

// checkAsWorded asks whether Get of s answers as the chapter words it, and tells whether s is an encoding.
func checkAsWorded(t *testing.T, s string) bool {
	t.Helper()
	p, is := decoded(s)
	if is {
		checkGot(t, s, p)
	} else {
		checkRefused(t, s)
	}
	return is
}

// known are properties and their encodings, byte by byte.
func known() map[string]api.Props {
	return map[string]api.Props{
		"00 00 00 04 04 01 00 00":                                                             {},
		"00 00 00 06 04 01 00 05 01 71":                                                       {Key: "q", Durable: true},
		"00 00 00 04 04 01 00 00 00 00 00 06 04 03 00 01 01 61":                               {Id: "a"},
		"00 00 00 04 04 01 00 01":                                                             {Durable: true},
		"00 00 00 04 04 01 00 02":                                                             {Redelivered: true},
		"00 00 00 04 04 01 00 03":                                                             {Durable: true, Redelivered: true},
		"00 00 00 06 04 01 00 04 01 71":                                                       {Key: "q"},
		"00 00 00 07 04 01 00 06 02 71 ff":                                                    {Key: "q\xff", Redelivered: true},
		"00 00 00 08 04 01 00 07 03 00 01 02":                                                 {Key: "\x00\x01\x02", Durable: true, Redelivered: true},
		"00 00 00 06 04 01 00 05 01 71 00 00 00 07 04 03 00 01 02 80 00":                      {Key: "q", Durable: true, Id: "\x80\x00"},
		"00 00 00 04 04 01 00 00 00 00 00 0d 04 03 00 02 a8 00 00 00 04 00 00 00 00":          {App: empty()},
		"00 00 00 04 04 01 00 02 00 00 00 10 04 03 00 02 a8 00 00 00 07 00 00 00 01 01 6b f0": {Redelivered: true, App: dict("k", void())},
		"00 00 00 04 04 01 00 01 00 00 00 0f 04 03 00 03 01 61 a8 00 00 00 04 00 00 00 00":    {Durable: true, Id: "a", App: empty()},
		"00 00 00 06 04 01 00 07 01 71 00 00 00 17 04 03 00 03 01 61 a8 00 00 00 0c 00 00 00 02 01 62 08 01 01 61 02 ff":       {Key: "q", Durable: true, Redelivered: true, Id: "a", App: dict("b.a", api.Value{Kind: api.ValueBool, N: 1}, api.Value{Kind: api.ValueByte, N: 255})},
		"00 00 00 04 04 01 00 00 00 00 00 1b 04 03 00 02 a8 00 00 00 12 00 00 00 01 01 6c a9 00 00 00 07 00 00 00 02 08 01 f0": {App: dict("l", list(api.Value{Kind: api.ValueBool, N: 1}, void()))},
	}
}

// hexed is the string that a text shows.
func hexed(s string) string {
	var b []byte
	for f := range strings.FieldsSeq(s) {
		n, err := strconv.ParseUint(f, 16, 8)
		if err != nil {
			panic(err)
		}
		b = append(b, byte(n))
	}
	return string(b)
}

func TestP9_1_KnownBytes(t *testing.T) {
	for s, p := range known() {
		checkPut(t, p, hexed(s))
	}
}

func TestP9_1_Valid(t *testing.T) {
	for _, p := range append(valid(), brief()...) {
		checkPut(t, p, encoded(p))
	}
}

// Texts of each length.
func TestP9_1_Lengths(t *testing.T) {
	for n := range 600 {
		s := strings.Repeat("\xfd", n)
		for _, p := range []api.Props{{Key: s}, {Id: s}, {Key: s, Id: s, App: empty()}, {Durable: true, Key: s, Id: "a"}} {
			if n <= mostText {
				checkPut(t, p, encoded(p))
			} else {
				checkWrong(t, p)
			}
		}
	}
}

func TestP9_1_Wrong(t *testing.T) {
	for _, p := range wrong() {
		checkWrong(t, p)
	}
}

// Whatever chapter 5 says of a value, the properties with it are valid if and only if it says nothing against it, and it is a map.
func TestP9_1_AppAsChapter5(t *testing.T) {
	for _, v := range slices.Concat(goodApps(), badMaps(), noMaps(), strange()) {
		p := api.Props{Key: "q", App: v}
		nothing := v.Kind == 0 && v.N == 0 && v.S == "" && len(v.Keys) == 0 && len(v.List) == 0
		if nothing || v.Kind == 0xa8 && value.Check(v) == api.OK {
			checkPut(t, p, encoded(p))
		} else {
			checkWrong(t, p)
		}
	}
}

func TestP9_1_ArgumentsStay(t *testing.T) {
	room := make([]api.Value, 5)
	keys := []string{"a", "b", "behind"}
	room[0], room[1], room[4] = list(void()), empty(), dict("x", void())
	p := api.Props{Key: "q", Id: "a", App: api.Value{Kind: api.ValueMap, Keys: keys[:2], List: room[:2]}}
	before := told(p)
	checkPut(t, p, encoded(p))
	if told(p) != before || keys[2] != "behind" || !reflect.DeepEqual(room, []api.Value{list(void()), empty(), {}, {}, dict("x", void())}) {
		t.Errorf("changed: %s %q %v", told(p), keys, room)
	}
}

func TestP9_2_KnownBytes(t *testing.T) {
	for s, p := range known() {
		checkGot(t, hexed(s), p)
	}
}

func TestP9_2_Valid(t *testing.T) {
	for _, p := range append(valid(), brief()...) {
		checkGot(t, encoded(p), p)
	}
}

func TestP9_2_KnownWrong(t *testing.T) {
	for _, s := range []string{
		// No byte; not enough of them.
		"", "00", "00 00 00 00", "00 00 00 04", "00 00 00 02 04 01", "00 00 00 03 04 01 00", "00 00 00 04 04 01 00",
		// The flag of a Key, of nothing, of all that there may be.
		"00 00 00 04 04 01 00 04", "00 00 00 04 04 01 00 08", "00 00 00 04 04 01 80 00", "00 00 00 04 04 01 01 00", "00 00 00 06 04 01 ff ff 01 71",
		// A Key without its flag; an empty one with it; a Key that is too short or too long.
		"00 00 00 06 04 01 00 00 01 71", "00 00 00 05 04 01 00 04 00", "00 00 00 05 04 01 00 00 00", "00 00 00 06 04 01 00 04 02 71", "00 00 00 07 04 01 00 04 01 71 72",
		// A length of the part that is one too small or too great.
		"00 00 00 03 04 01 00 00", "00 00 00 05 04 01 00 00", "00 00 00 05 04 01 00 05 01 71", "00 00 00 07 04 01 00 05 01 71", "ff ff ff ff 04 01 00 00",
		// Other codes.
		"00 00 00 04 04 03 00 00", "00 00 00 04 01 04 00 00", "00 00 00 04 04 02 00 00", "00 00 00 04 00 00 00 00",
		// A byte too many.
		"00 00 00 04 04 01 00 00 00", "00 00 00 05 04 01 00 00 00",
		// A second part with no flag, cut off, with other flags, with an empty Id.
		"00 00 00 04 04 01 00 00 00 00 00 04 04 03 00 00", "00 00 00 04 04 01 00 00 00 00 00 05 04 03 00 01 00", "00 00 00 04 04 01 00 00 00 00 00 04 04 03 00 01",
		"00 00 00 04 04 01 00 00 00 00 00 06 04 03 00 05 01 61", "00 00 00 04 04 01 00 00 00 00 00 06 04 03 00 03 01 61", "00 00 00 04 04 01 00 00 00 00 00 06 04 03 00 00 01 61",
		// The second part alone, two first ones, two second ones, the second ahead of the first.
		"00 00 00 06 04 03 00 01 01 61", "00 00 00 04 04 01 00 00 00 00 00 04 04 01 00 00", "00 00 00 06 04 03 00 01 01 61 00 00 00 04 04 01 00 00",
		"00 00 00 04 04 01 00 00 00 00 00 06 04 03 00 01 01 61 00 00 00 06 04 03 00 01 01 61",
		"00 00 00 04 04 01 00 00 00 00 00 06 04 03 00 01 01 61 00 00 00 0d 04 03 00 02 a8 00 00 00 04 00 00 00 00",
		// An App that is no map, or not valid; one ahead of the Id.
		"00 00 00 04 04 01 00 00 00 00 00 05 04 03 00 02 f0", "00 00 00 04 04 01 00 00 00 00 00 04 04 03 00 02", "00 00 00 04 04 01 00 00 00 00 00 05 04 03 00 02 00",
		"00 00 00 04 04 01 00 00 00 00 00 0d 04 03 00 02 a9 00 00 00 04 00 00 00 00", "00 00 00 04 04 01 00 00 00 00 00 11 04 03 00 02 a8 00 00 00 08 00 00 00 01 01 6b 08 02",
		"00 00 00 04 04 01 00 00 00 00 00 0f 04 03 00 03 a8 00 00 00 04 00 00 00 00 01 61",
	} {
		checkRefused(t, hexed(s))
	}
}

// Bytes that are cut off anywhere, and bytes too many.
func TestP9_2_CutOffAndTooMany(t *testing.T) {
	for _, p := range valid() {
		s := encoded(p)
		for n := 0; n < len(s); n += 1 + n*n/4000 {
			// The first part alone is an encoding, too.
			if n == 4+int(integer(s[:4])) {
				checkAsWorded(t, s[:n])
				continue
			}
			checkRefused(t, s[:n])
		}
		checkRefused(t, s[:len(s)-1])
		checkRefused(t, s[1:])
		for _, more := range []string{"\x00", "\x01", "a", "\xf0", "\xff", "\x00\x00\x00\x00", s} {
			checkRefused(t, s+more)
			checkRefused(t, more+s)
		}
	}
}

// The first part alone is what is left where the second is cut off as a whole.
func TestP9_2_FirstPartAlone(t *testing.T) {
	for _, p := range brief() {
		alone := p
		alone.Id, alone.App = "", api.Value{}
		s := encoded(p)
		checkGot(t, s[:4+int(integer(s[:4]))], alone)
	}
}

// lengthened is the part with another length ahead of it.
func lengthened(part string, change int) string {
	b := binary.BigEndian.AppendUint32(nil, uint32(len(part)-4+change))
	return string(b) + part[4:]
}

// parts are both parts of properties with an Id or an App.
func parts(p api.Props) (string, string) {
	s := encoded(p)
	end := 4 + int(integer(s[:4]))
	return s[:end], s[end:]
}

// A length of a part that is too small or too great, whether or not as many bytes more are there.
func TestP9_2_LengthsOfParts(t *testing.T) {
	for _, p := range valid() {
		first, second := parts(p)
		for _, change := range []int{-1, 1, -2, 2, -4, 4, 256, 1 << 16, 1 << 24, 1 << 31, -len(first)} {
			for _, more := range []string{"", "\x00", "\x00\x00", "\x00\x00\x00\x00"} {
				checkRefused(t, lengthened(first, change)+more+second)
				if second != "" {
					checkRefused(t, first+lengthened(second, change)+more)
				}
			}
		}
	}
}

// A part that is said to be as long as all that follows, or as all but the second's last bytes.
func TestP9_2_OnePartOfTwo(t *testing.T) {
	for _, p := range brief() {
		first, second := parts(p)
		for n := range len(second) {
			checkRefused(t, lengthened(first, n+1)+second)
		}
	}
}

// Each code ahead of the flags.
func TestP9_2_Codes(t *testing.T) {
	for _, p := range []api.Props{{}, {Key: "q", Durable: true}, {Id: "a"}, {Key: "q", Id: "a", App: empty()}} {
		first, second := parts(p)
		for code := range 1 << 16 {
			other := string(binary.BigEndian.AppendUint16(nil, uint16(code)))
			if changed := first[:4] + other + first[6:] + second; code == 0x0401 {
				checkGot(t, changed, p)
			} else {
				checkRefused(t, changed)
			}
			if second == "" {
				continue
			}
			if changed := first + second[:4] + other + second[6:]; code == 0x0403 {
				checkGot(t, changed, p)
			} else {
				checkRefused(t, changed)
			}
		}
	}
}

// All flags ahead of each list of fields, in each part.
func TestP9_2_Flags(t *testing.T) {
	none, id, app := made(0x0401, 0, ""), sized("a", 1), mapped(dict("k", void()))
	encodings := 0
	for flags := range 1 << 16 {
		for _, fields := range []string{"", "\x00", sized("q", 1), "\x00\x00", sized("q", 1) + "\x00"} {
			if checkAsWorded(t, made(0x0401, flags, fields)) {
				encodings++
			}
		}
		for _, fields := range []string{"", "\x00", id, app, id + app, app + id, "\x00" + app, id + id, app + app} {
			if checkAsWorded(t, none+made(0x0403, flags, fields)) {
				encodings++
			}
		}
	}
	// The first part with no Key and with one, each in four ways; the second with an Id, with an App, with both.
	if encodings != 11 {
		t.Errorf("%d are encodings", encodings)
	}
}

// Lists of parts: each of up to three of them in any order.
func TestP9_2_OrderOfParts(t *testing.T) {
	id, app := sized("a", 1), mapped(empty())
	pieces := []string{
		made(0x0401, 0, ""), made(0x0401, 3, ""), made(0x0401, 4, sized("q", 1)), made(0x0401, 4, "\x00"), made(0x0401, 0, "\x00"), made(0x0401, 8, ""),
		made(0x0403, 0, ""), made(0x0403, 1, id), made(0x0403, 2, app), made(0x0403, 3, id+app), made(0x0403, 3, app+id), made(0x0403, 1, "\x00"), made(0x0403, 2, "\xf0"),
		"", sized("", 4), sized("\x04\x01", 4), sized("\x04\x03", 4), "\x00", "\xff",
	}
	for _, a := range pieces {
		for _, b := range pieces {
			for _, c := range pieces {
				checkAsWorded(t, a+b+c)
			}
		}
	}
}

// crude is the encoding of a value, valid or not, made without any package.
func crude(v api.Value) string {
	s := string([]byte{byte(v.Kind)})
	switch v.Kind {
	case 0x08, 0x02:
		return s + string([]byte{byte(v.N)})
	case 0x32, 0x31:
		return s + string(binary.BigEndian.AppendUint64(nil, v.N))
	case 0x95:
		return s + sized(v.S, 2)
	case 0xa0:
		return s + sized(v.S, 4)
	case 0xa9, 0xa8:
		inner := string(binary.BigEndian.AppendUint32(nil, uint32(len(v.List))))
		for i, element := range v.List {
			if v.Kind == 0xa8 {
				inner += sized(v.Keys[i], 1)
			}
			inner += crude(element)
		}
		return s + sized(inner, 4)
	}
	return s
}

// An App that is no map, one that is not valid, and one that is cut off or too long.
func TestP9_2_WrongApps(t *testing.T) {
	first, id := made(0x0401, 0, ""), sized("a", 1)
	var bad []string
	for _, v := range noMaps() {
		bad = append(bad, crude(v))
	}
	for _, v := range []api.Value{
		dict("k.k", voids(2)...), dict("", void()), dict("\xff", void()), numbered(mostValues), nested(void(), mostDeep), nested(void(), 300),
		dict("k", api.Value{Kind: api.ValueBool, N: 2}), dict("k", api.Value{Kind: 1}), dict("k", api.Value{Kind: api.ValueText, S: "\xff"}),
		dict("k", api.Value{Kind: api.ValueText, S: strings.Repeat("x", mostBytes+1)}), dict("l", list(voids(mostValues-1)...)), dict("k", api.Value{}),
	} {
		bad = append(bad, crude(v))
	}
	for _, v := range goodApps() {
		if v.Kind != api.ValueMap {
			continue
		}
		s := crude(v)
		bad = append(bad, s[:len(s)-1], s+"\x00", s+s, "\x00"+s, s[1:], s+id)
	}
	for _, app := range bad {
		checkRefused(t, first+made(0x0403, 2, app))
		checkRefused(t, first+made(0x0403, 3, id+app))
	}
}

// Each byte of brief encodings, with each value, Redelivered among them.
func TestP9_2_EachByte(t *testing.T) {
	encodings := 0
	for _, p := range brief() {
		if p.Redelivered {
			continue
		}
		b := []byte(encoded(p))
		for i, was := range b {
			for c := range 256 {
				b[i] = byte(c)
				if checkAsWorded(t, string(b)) {
					encodings++
				}
			}
			b[i] = was
		}
	}
	if encodings == 0 {
		t.Error("no bytes were an encoding")
	}
}

// Encodings with bytes taken out, put in and changed.
func TestP9_2_NearEncodings(t *testing.T) {
	r := rand.New(rand.NewSource(9))
	list := brief()
	for range 200000 {
		b := []byte(encoded(list[r.Intn(len(list))]))
		for range 1 + r.Intn(3) {
			at := r.Intn(len(b))
			c := []byte{0, 1, 2, 3, 4, 5, 6, 7, 8, 'a', 0xa8, 0xa9, 0xf0, 0xff}[r.Intn(14)]
			switch r.Intn(3) {
			case 0:
				b[at] = c
			case 1:
				b = slices.Insert(b, at, c)
			case 2:
				b = append(slices.Delete(b, at, at+1), c)
			}
		}
		checkAsWorded(t, string(b))
	}
}

// All short strings of the bytes that matter, ahead of them a part's length or nothing.
func TestP9_2_ShortStrings(t *testing.T) {
	letters := "\x00\x01\x03\x04\x05"
	list := []string{""}
	for range 8 {
		for _, s := range list {
			checkAsWorded(t, s)
			checkAsWorded(t, sized(s, 4))
			checkAsWorded(t, made(0x0401, 0, "")+sized(s, 4))
		}
		var longer []string
		for _, s := range list {
			for i := range len(letters) {
				longer = append(longer, s+letters[i:i+1])
			}
		}
		list = longer
	}
}

// Strings that are much longer than what they begin with.
func TestP9_2_LongStrings(t *testing.T) {
	long := strings.Repeat("\x00", 1<<22)
	for _, s := range []string{
		long, "\x00\x00\x00\x04\x04\x01\x00\x00" + long, sized("\x04\x01\x00\x00"+long, 4), sized("\x04\x01\x00\x04"+long, 4), strings.Repeat("\xff", 1<<22),
		made(0x0401, 0, "") + made(0x0403, 2, mapped(empty())+long), made(0x0401, 0, "") + made(0x0403, 1, "\x01a"+long), strings.Repeat(made(0x0401, 0, ""), 1<<18),
	} {
		checkRefused(t, s)
	}
}

// A list of an answer may be changed, up to its capacity, and nothing else is.
func TestP9_2_NewMemory(t *testing.T) {
	p := api.Props{Key: "q", Id: "a", App: dict("a.b.c", list(void(), void()), dict("x.y", void(), void()), list(void()))}
	s := encoded(p)
	one, _ := props.Get(s)
	other, _ := props.Get(s)
	spoil(one.App)
	if told(other) != told(p) {
		t.Errorf("another answer was changed: %s", show(other))
	}
	checkGot(t, s, p)
	inner, _ := props.Get(s)
	spoil(inner.App.List[0])
	if value.Same(inner.App.List[0], p.App.List[0]) || !value.Same(inner.App.List[1], p.App.List[1]) || !value.Same(inner.App.List[2], p.App.List[2]) {
		t.Errorf("lists of one answer share memory: %s", show(inner))
	}
}

// spoil changes all lists in v, with the room behind them.
func spoil(v api.Value) {
	for _, element := range v.List {
		spoil(element)
	}
	keys, l := v.Keys[:cap(v.Keys)], v.List[:cap(v.List)]
	for i := range keys {
		keys[i] = "spoilt"
	}
	for i := range l {
		l[i] = api.Value{Kind: api.ValueBool, N: 1}
	}
}

// distinct are properties, valid or not, no two of which are equal.
func distinct() []api.Props {
	l := brief()
	for _, v := range []api.Value{
		{N: 1}, {S: "a"}, {Keys: []string{""}}, {Keys: []string{"k"}}, {List: make([]api.Value, 1)}, {List: make([]api.Value, 2)}, {List: voids(1)},
		void(), {Kind: api.ValueVoid, N: 1}, {Kind: api.ValueBool}, {Kind: api.ValueBool, N: 2}, list(), list(void()), {Kind: api.ValueMap, N: 1}, {Kind: api.ValueMap, S: "a"},
		dict("k", api.Value{}), dict("k", list()), dict("k"), dict("", void()), dict("k.k", voids(2)...), dict("a.b", voids(2)...), dict("b.a", voids(2)...),
		dict("a.b", void(), list()), dict("a.b", list(), void()), nested(void(), mostDeep-1), nested(void(), mostDeep), nested(void(), 50), numbered(199), numbered(200),
	} {
		l = append(l, api.Props{App: v}, api.Props{Key: "q", App: v}, api.Props{Id: "q", App: v})
	}
	for _, s := range append(badTexts(), "Q", "q ", "\x00\x00", "\xff", "\xfe", strings.Repeat("x", mostText)) {
		l = append(l, api.Props{Key: s}, api.Props{Id: s}, api.Props{Key: s, Id: s})
	}
	return l
}

func TestP9_3_Same(t *testing.T) {
	l, twins := distinct(), distinct()
	for i, a := range l {
		for j, b := range twins {
			if is := props.Same(a, b); is != (i == j) {
				t.Errorf("Same of %s and %s: %v", hint(a), hint(b), is)
			}
		}
	}
}

// Each field alone makes a difference, whatever the others are.
func TestP9_3_EachField(t *testing.T) {
	for _, p := range append(valid(), distinct()...) {
		for i, change := range []func(*api.Props){
			func(p *api.Props) { p.Key += "x" },
			func(p *api.Props) { p.Durable = !p.Durable },
			func(p *api.Props) { p.Redelivered = !p.Redelivered },
			func(p *api.Props) { p.Id += "x" },
			func(p *api.Props) { p.App.Kind++ },
			func(p *api.Props) { p.App.N++ },
			func(p *api.Props) { p.App.S += "x" },
			func(p *api.Props) { p.App.Keys = append(slices.Clone(p.App.Keys), "x") },
			func(p *api.Props) { p.App.List = append(slices.Clone(p.App.List), void()) },
		} {
			other := p
			change(&other)
			if props.Same(p, other) || props.Same(other, p) || !props.Same(other, other) {
				t.Errorf("Same of %s, with field %d changed", hint(p), i)
			}
		}
		if !props.Same(p, p) {
			t.Errorf("Same of %s and itself", hint(p))
		}
	}
}

// Key and Id are not to be taken for each other, nor Durable and Redelivered.
func TestP9_3_FieldsApart(t *testing.T) {
	for _, pair := range [][2]api.Props{
		{{Key: "a"}, {Id: "a"}}, {{Key: "a", Id: "b"}, {Key: "b", Id: "a"}}, {{Key: "ab"}, {Key: "a", Id: "b"}},
		{{Durable: true}, {Redelivered: true}}, {{}, {App: empty()}}, {{App: api.Value{S: "a"}}, {Key: "a"}},
	} {
		if props.Same(pair[0], pair[1]) || props.Same(pair[1], pair[0]) {
			t.Errorf("Same of %s and %s", show(pair[0]), show(pair[1]))
		}
	}
}

func TestP9_3_NilAndEmpty(t *testing.T) {
	bare, full := api.Value{}, api.Value{Keys: []string{}, List: []api.Value{}}
	for _, kind := range []api.ValueKind{0, api.ValueVoid, api.ValueList, api.ValueMap} {
		bare.Kind, full.Kind = kind, kind
		a, b := api.Props{Key: "q", App: bare}, api.Props{Key: "q", App: full}
		if !props.Same(a, b) || !props.Same(b, a) {
			t.Errorf("Same with App %v and %v", bare, full)
		}
	}
}

// Values that are nested deeply exhaust nothing.
func TestP9_3_Deep(t *testing.T) {
	one, twin, other := nested(void(), 200000), nested(void(), 200000), nested(list(), 200000)
	if !props.Same(api.Props{App: one}, api.Props{App: twin}) || props.Same(api.Props{App: one}, api.Props{App: other}) {
		t.Error("Same of deep ones")
	}
	checkWrong(t, api.Props{App: one})
}

func TestP9_4_GetOfPut(t *testing.T) {
	for _, p := range append(valid(), brief()...) {
		s, e := props.Put(p)
		if e != api.OK {
			t.Errorf("Put of %s: %d", show(p), e)
			continue
		}
		if got, e := props.Get(s); e != api.OK || !props.Same(got, p) || props.Check(got) != api.OK {
			t.Errorf("Get of Put of %s: %s, %d", show(p), show(got), e)
		}
	}
}

func TestP9_4_PutOfGot(t *testing.T) {
	r := rand.New(rand.NewSource(4))
	got := map[string]int{}
	for range 300000 {
		s := made(0x0401, r.Intn(9), pick(r, "", "\x00", "\x01q", "\x02ab"))
		if r.Intn(3) > 0 {
			s += made(0x0403, r.Intn(5), pick(r, "", "\x00", "\x01a", "\x02\xff\x00")+pick(r, "", "\xf0", mapped(empty()), mapped(dict("k", list(void())))))
		}
		p, e := props.Get(s)
		if e != api.OK {
			continue
		}
		got[s]++
		if again, e := props.Put(p); e != api.OK || again != s {
			t.Errorf("Put of what Get got from %x: %x, %d", s, again, e)
		}
	}
	// Three Keys and two bits, and three Ids and three Apps.
	if len(got) != 12*9 {
		t.Errorf("%d of the strings are encodings: %x", len(got), slices.Sorted(maps.Keys(got)))
	}
}

// pick is one of those.
func pick(r *rand.Rand, l ...string) string { return l[r.Intn(len(l))] }

func TestP9_4_OneEncoding(t *testing.T) {
	encodings := map[string]api.Props{}
	for _, p := range valid() {
		s, e := props.Put(p)
		if e != api.OK {
			t.Errorf("Put of %s: %d", show(p), e)
		}
		if other, is := encodings[s]; is && !props.Same(p, other) {
			t.Errorf("%s and %s have one encoding", show(p), show(other))
		}
		encodings[s] = p
	}
	equal := map[string]string{}
	for s, p := range encodings {
		if other, is := equal[told(p)]; is {
			t.Errorf("%s has the encodings %.80x and %.80x", show(p), s, other)
		}
		equal[told(p)] = s
	}
	l := brief()
	for i, a := range l {
		for j, b := range l {
			one, _ := props.Put(a)
			other, _ := props.Put(b)
			if (one == other) != (i == j) || (one == other) != props.Same(a, b) {
				t.Errorf("the encodings of %s and %s: %x, %x", show(a), show(b), one, other)
			}
		}
	}
}
