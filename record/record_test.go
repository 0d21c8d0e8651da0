package record_test

import (
	"fmt"
	"hash/crc32"
	"slices"
	"strings"
	"testing"
	"unsafe"

	"posthouse/api"
	"posthouse/record"
)

// The numbers as the chapter tells them.
const (
	most     = 65536
	headSize = 9
	sumSize  = 4
)

// sealed is s, sealed, made without the project's packages.
func sealed(s string) string {
	sum := crc32.Checksum([]byte(s), crc32.MakeTable(crc32.Castagnoli))
	return s + string([]byte{byte(sum), byte(sum >> 8), byte(sum >> 16), byte(sum >> 24)})
}

// headed is a sealed header that states that length, which may be one that no record has.
func headed(kind uint8, length uint32) string {
	return sealed(string([]byte{kind, byte(length >> 24), byte(length >> 16), byte(length >> 8), byte(length)}))
}

// encoded is the encodings of records, one after the other, made without the package.
func encoded(l ...api.Record) string {
	var s strings.Builder
	for _, r := range l {
		s.WriteString(headed(r.Kind, uint32(len(r.Data))) + sealed(r.Data))
	}
	return s.String()
}

// sizeOf is how many bytes the encodings of l have.
func sizeOf(l []api.Record) int {
	n := 0
	for _, r := range l {
		n += headSize + len(r.Data) + sumSize
	}
	return n
}

// stated is the length that the header states with which s starts.
func stated(s string) int64 {
	return int64(s[1])<<24 | int64(s[2])<<16 | int64(s[3])<<8 | int64(s[4])
}

// startOf is the record with whose encoding s starts, if there is one.
func startOf(s string) (api.Record, bool) {
	if len(s) < headSize || stated(s) > most || int64(len(s)) < headSize+stated(s)+sumSize {
		return api.Record{}, false
	}
	r := api.Record{Kind: s[0], Data: s[headSize : headSize+stated(s)]}
	return r, strings.HasPrefix(s, encoded(r))
}

// stateOf is the state of a rest that starts with no record's encoding, as the chapter words it.
func stateOf(s string) api.State {
	if s == "" {
		return api.StateWhole
	}
	if len(s) >= headSize && (s[:headSize] != sealed(s[:headSize-sumSize]) || stated(s) > most || int64(len(s)) >= headSize+stated(s)+sumSize) {
		return api.StateBad
	}
	return api.StateTorn
}

// scanned is what Scan is to answer, found without the package.
func scanned(s string) (l []api.Record, n int, state api.State) {
	for {
		r, is := startOf(s[n:])
		if !is {
			return l, n, stateOf(s[n:])
		}
		l = append(l, r)
		n += len(encoded(r))
	}
}

// brief tells a string in a line that is not too long.
func brief(s string) string {
	return fmt.Sprintf("%d bytes %x", len(s), s[:min(len(s), 60)])
}

// show tells records in a line that is not too long.
func show(l []api.Record) string {
	s := fmt.Sprintf("%d records", len(l))
	for _, r := range l[:min(len(l), 5)] {
		s += fmt.Sprintf(" (%d, %s)", r.Kind, brief(r.Data))
	}
	return s
}

func checkPut(t *testing.T, l []api.Record, want string) {
	t.Helper()
	was := slices.Clone(l)
	if s, e := record.Put(l); s != want || e != api.OK {
		t.Errorf("Put of %s: %s, %d; not %s", show(was), brief(s), e, brief(want))
	}
	if !slices.Equal(l, was) {
		t.Errorf("Put changed %s to %s", show(was), show(l))
	}
}

func checkTooLong(t *testing.T, l []api.Record) {
	t.Helper()
	if s, e := record.Put(l); s != "" || e != api.ErrLong {
		t.Errorf("Put of %s: %s, %d", show(l), brief(s), e)
	}
}

func checkScan(t *testing.T, s string, want []api.Record, size int, state api.State) {
	t.Helper()
	if l, n, w := record.Scan(s); !slices.Equal(l, want) || n != size || w != state {
		t.Errorf("Scan of %s: %s, %d, %d; not %s, %d, %d", brief(s), show(l), n, w, show(want), size, state)
	}
}

// checkAsWorded asks whether Scan answers what the chapter words, and Put gives back what it consumed.
func checkAsWorded(t *testing.T, s string) {
	t.Helper()
	l, n, state := scanned(s)
	checkScan(t, s, l, n, state)
	checkPut(t, l, s[:n])
}

// checkBehind asks whether a rest has that state, alone and behind records, which are returned.
func checkBehind(t *testing.T, rest string, state api.State) {
	t.Helper()
	for _, ahead := range aheads() {
		start := encoded(ahead...)
		checkScan(t, start+rest, ahead, len(start), state)
	}
}

// aheads are lists of records behind which something else may stand.
func aheads() [][]api.Record {
	return [][]api.Record{
		nil,
		{{Kind: 7, Data: "ab"}},
		{{}},
		{{Kind: 255, Data: "\x00"}, {Kind: 7, Data: "ab"}},
		{{}, {Kind: 1, Data: mixed(300)}, {}},
	}
}

// behinds are strings that may stand behind a record: nothing, records, and what is none.
func behinds() []string {
	return []string{
		"",
		encoded(api.Record{}),
		encoded(api.Record{Kind: 7, Data: "ab"}, api.Record{Kind: 7, Data: "ab"}),
		encoded(api.Record{Kind: 9, Data: mixed(100)}),
		"\x00",
		strings.Repeat("\x00", 40),
		strings.Repeat("\xff", 40),
	}
}

// mixer yields the same numbers in each run.
type mixer uint64

func (m *mixer) next() uint64 {
	*m += 0x9e3779b97f4a7c15
	x := uint64(*m)
	x = (x ^ x>>30) * 0xbf58476d1ce4e5b9
	x = (x ^ x>>27) * 0x94d049bb133111eb
	return x ^ x>>31
}

// mixed is so many bytes, all different ones in turn.
func mixed(n int) string {
	b := make([]byte, n)
	for i := range b {
		b[i] = byte(i*7 + i>>8)
	}
	return string(b)
}

// datas are Data of small lengths, of zeros, ones and others, and such in which encodings stand.
func datas() []string {
	l := []string{"ab", "\xff\x00", encoded(api.Record{}), encoded(api.Record{Kind: 7, Data: "ab"}), encoded(api.Record{Kind: 7, Data: "ab"}, api.Record{})[3:], headed(3, 4), headed(3, most+1)}
	for _, n := range []int{0, 1, 2, 3, 4, 5, 8, 9, 10, 13, 31, 32, 33, 254, 255, 256, 257, 1000} {
		l = append(l, strings.Repeat("\x00", n), strings.Repeat("\xff", n), mixed(n))
	}
	return l
}

// lists are lists of records, none, one and several, of brief and long Data.
func lists() [][]api.Record {
	l := [][]api.Record{nil, {}}
	var all []api.Record
	for i, data := range datas() {
		r := api.Record{Kind: uint8(i * 5), Data: data}
		l = append(l, []api.Record{r}, []api.Record{r, r}, []api.Record{{}, r, {Kind: 255}})
		all = append(all, r)
	}
	return append(l, all)
}

// longest are lists with a record of most bytes: alone, the first, the last, between others, and several.
func longest() [][]api.Record {
	a, b := api.Record{Kind: 7, Data: "ab"}, api.Record{}
	var l [][]api.Record
	for _, data := range []string{strings.Repeat("\x00", most), strings.Repeat("\xff", most), mixed(most)} {
		r := api.Record{Kind: uint8(len(l)), Data: data}
		l = append(l, []api.Record{r}, []api.Record{r, a}, []api.Record{a, r}, []api.Record{b, a, r, a, b}, []api.Record{r, r})
	}
	return l
}

func TestP11_1_KnownBytes(t *testing.T) {
	for _, c := range []struct {
		l    []api.Record
		want string
	}{
		{[]api.Record{{Kind: 7, Data: "ab"}}, "\x07\x00\x00\x00\x02\x86\x08\x3f\x0cab\x36\x29\xa2\xe2"},
		{[]api.Record{{}}, "\x00\x00\x00\x00\x00\x35\x76\x72\x45\x00\x00\x00\x00"},
		{[]api.Record{{Kind: 255}}, "\xff\x00\x00\x00\x00\x96\x18\x1a\xe5\x00\x00\x00\x00"},
		{[]api.Record{{Kind: 1, Data: "\x00"}}, "\x01\x00\x00\x00\x01\x9a\x9a\x08\x8f\x00\x51\x53\x7d\x52"},
		{[]api.Record{{Kind: 255, Data: "123456789"}}, "\xff\x00\x00\x00\x09\x5a\xc3\xa8\x9d123456789\x83\x92\x06\xe3"},
		{[]api.Record{{Kind: 128, Data: strings.Repeat("x", 256)}}, "\x80\x00\x00\x01\x00\x1e\x3b\x72\x38" + strings.Repeat("x", 256) + "\x3a\xdf\xc8\x4e"},
		{[]api.Record{{}, {Kind: 7, Data: "ab"}, {}}, "\x00\x00\x00\x00\x00\x35\x76\x72\x45\x00\x00\x00\x00\x07\x00\x00\x00\x02\x86\x08\x3f\x0cab\x36\x29\xa2\xe2\x00\x00\x00\x00\x00\x35\x76\x72\x45\x00\x00\x00\x00"},
	} {
		checkPut(t, c.l, c.want)
		checkScan(t, c.want, c.l, len(c.want), api.StateWhole)
	}
}

func TestP11_1_Examples(t *testing.T) {
	r := api.Record{Kind: 7, Data: "ab"}
	for n, size := range map[int]int{1: 15, 2: 30} {
		if s, e := record.Put(slices.Repeat([]api.Record{r}, n)); len(s) != size || e != api.OK {
			t.Errorf("Put of %d records: %s, %d", n, brief(s), e)
		}
	}
}

func TestP11_1_None(t *testing.T) {
	checkPut(t, nil, "")
	checkPut(t, []api.Record{}, "")
	checkPut(t, make([]api.Record, 0, 3), "")
}

func TestP11_1_EachKind(t *testing.T) {
	var all []api.Record
	for kind := range 256 {
		for _, data := range []string{"", "ab", string([]byte{byte(kind)})} {
			r := api.Record{Kind: uint8(kind), Data: data}
			checkPut(t, []api.Record{r}, encoded(r))
			all = append(all, r)
		}
	}
	checkPut(t, all, encoded(all...))
}

func TestP11_1_EachLength(t *testing.T) {
	for n := range 1100 {
		r := api.Record{Kind: uint8(n), Data: mixed(n)}
		checkPut(t, []api.Record{r}, encoded(r))
	}
	for _, n := range []int{4095, 4096, 4097, 32767, 32768, 65279, 65280, 65281, 65534, 65535, 65536} {
		r := api.Record{Kind: 1, Data: mixed(n)}
		checkPut(t, []api.Record{r}, encoded(r))
	}
}

func TestP11_1_Lists(t *testing.T) {
	for _, l := range append(lists(), longest()...) {
		checkPut(t, l, encoded(l...))
	}
}

func TestP11_1_TooLong(t *testing.T) {
	a, b := api.Record{Kind: 7, Data: "ab"}, api.Record{}
	full := api.Record{Kind: 7, Data: mixed(most)}
	for _, n := range []int{most + 1, most + 2, most + 9, 2 * most, 2*most + 1, 1 << 20, 1 << 24} {
		for _, data := range []string{strings.Repeat("\x00", n), strings.Repeat("ab", n/2+1)[:n]} {
			for _, kind := range []uint8{0, 7, 255} {
				r := api.Record{Kind: kind, Data: data}
				for _, l := range [][]api.Record{{r}, {r, a}, {a, r}, {a, b, r, b, a}, {full, r}, {r, full}, {r, r}, {b, r}} {
					checkTooLong(t, l)
				}
			}
		}
	}
}

func TestP11_1_ArgumentsStay(t *testing.T) {
	long := api.Record{Kind: 9, Data: mixed(most + 1)}
	for _, l := range append(lists(), []api.Record{{Kind: 1, Data: "a"}, long}) {
		whole := append(slices.Clone(l), long, api.Record{Kind: 3, Data: "behind"})
		was := slices.Clone(whole)
		record.Put(whole[:len(l)])
		if !slices.Equal(whole, was) {
			t.Errorf("Put changed %s to %s", show(was), show(whole))
		}
	}
}

func TestP11_1_NewMemory(t *testing.T) {
	memory := []byte("0123456789")
	l := []api.Record{{Kind: 5, Data: unsafe.String(&memory[0], len(memory))}}
	s, _ := record.Put(l)
	clear(memory)
	l[0] = api.Record{}
	if want := encoded(api.Record{Kind: 5, Data: "0123456789"}); s != want {
		t.Errorf("Put kept what it was given: %x", s)
	}
}

func TestP11_2_Examples(t *testing.T) {
	r := api.Record{Kind: 7, Data: "ab"}
	one := encoded(r)
	checkScan(t, one+one[:8], []api.Record{r}, 15, api.StateTorn)
	checkScan(t, one+one[:9], []api.Record{r}, 15, api.StateTorn)
	checkScan(t, strings.Repeat("\x00", 9), nil, 0, api.StateBad)
	checkScan(t, "", nil, 0, api.StateWhole)
}

func TestP11_2_EachKind(t *testing.T) {
	var all []api.Record
	for kind := range 256 {
		for _, data := range []string{"", "ab", string([]byte{byte(kind)})} {
			r := api.Record{Kind: uint8(kind), Data: data}
			checkScan(t, encoded(r), []api.Record{r}, 13+len(data), api.StateWhole)
			all = append(all, r)
		}
	}
	checkScan(t, encoded(all...), all, sizeOf(all), api.StateWhole)
}

func TestP11_2_Lists(t *testing.T) {
	for _, l := range append(lists(), longest()...) {
		checkScan(t, encoded(l...), l, sizeOf(l), api.StateWhole)
	}
}

func TestP11_2_RestOfNoRecord(t *testing.T) {
	for _, s := range []string{strings.Repeat("\x00", 60), strings.Repeat("\xff", 60), strings.Repeat("posthouse ", 6), mixed(60), encoded(api.Record{Kind: 7, Data: mixed(60)})[1:], encoded(api.Record{})[2:] + mixed(60)} {
		for n := range s {
			state := api.StateBad
			if n == 0 {
				state = api.StateWhole
			} else if n < headSize {
				state = api.StateTorn
			}
			checkBehind(t, s[:n], state)
		}
	}
}

func TestP11_2_RestOfARecord(t *testing.T) {
	checkBehind(t, "", api.StateWhole)
	for _, data := range append(datas(), mixed(most-1), mixed(most)) {
		s := encoded(api.Record{Kind: 7, Data: data})
		for _, n := range []int{1, 5, 8, headSize, headSize + 1, headSize + len(data)/2, headSize + len(data), headSize + len(data) + 1, headSize + len(data) + 3} {
			checkBehind(t, s[:n], api.StateTorn)
		}
	}
}

// While a record is not all there, its Data may be anything.
func TestP11_2_TornOfWrongData(t *testing.T) {
	for _, n := range []int{1, 2, 8, 9, 100, most - 1, most} {
		h := headed(7, uint32(n))
		for _, missing := range []int{1, 2, 3, 4, 5, n, n + 3, n + 4} {
			if missing <= n+sumSize {
				checkBehind(t, h+strings.Repeat("\xff", n+sumSize-missing), api.StateTorn)
				checkBehind(t, h+strings.Repeat(encoded(api.Record{}), n)[:n+sumSize-missing], api.StateTorn)
			}
		}
		checkBehind(t, h+strings.Repeat("\x07", n+sumSize), api.StateBad)
		checkBehind(t, h+strings.Repeat("\x07", n+sumSize+1), api.StateBad)
	}
}

func TestP11_2_HeaderNotSealed(t *testing.T) {
	for _, r := range []api.Record{{}, {Kind: 7, Data: "ab"}, {Kind: 255, Data: mixed(300)}} {
		s := encoded(r)
		for i := range headSize {
			for c := range 256 {
				if byte(c) == s[i] {
					continue
				}
				wrong := s[:i] + string([]byte{byte(c)}) + s[i+1:]
				checkBehind(t, wrong[:headSize], api.StateBad)
				checkBehind(t, wrong[:headSize+1], api.StateBad)
				checkBehind(t, wrong, api.StateBad)
				checkBehind(t, wrong+s, api.StateBad)
				checkBehind(t, wrong[:headSize-1], api.StateTorn)
			}
		}
	}
}

func TestP11_2_HeaderSealedOtherwise(t *testing.T) {
	body := sealed("ab")
	h := headed(7, 2)
	for _, wrong := range []string{
		// The checksum in the other order, of the register itself, of fewer bytes, and of none.
		h[:5] + string([]byte{h[8], h[7], h[6], h[5]}),
		h[:5] + string([]byte{^h[5], ^h[6], ^h[7], ^h[8]}),
		h[:5] + sealed(h[1:5])[4:],
		h[:5] + sealed(h[:4])[4:],
		h[:5] + "\x00\x00\x00\x00",
		// The length in the other order.
		sealed("\x07\x02\x00\x00\x00"),
		// The length of another width.
		sealed("\x07\x00\x02"),
		sealed("\x07\x02"),
		sealed("\x07\x00\x00\x00\x00\x00\x00\x00\x02"),
		// Not sealed, or sealed together with the Data.
		h[:5],
	} {
		checkBehind(t, wrong+body, api.StateBad)
		checkAsWorded(t, wrong+body+encoded(api.Record{Kind: 7, Data: "ab"}))
	}
	checkBehind(t, sealed(h[:5]+"ab"), api.StateBad)
	checkBehind(t, sealed(h+"ab")+body, api.StateBad)
	// The length ahead of the Kind: sealed, but of another record.
	checkBehind(t, sealed("\x00\x00\x00\x02\x07")+body, api.StateTorn)
}

// Each byte of a header with each value, sealed anew, ahead of Data of any length.
func TestP11_2_EachSealedHeader(t *testing.T) {
	for i := range headSize - sumSize {
		for c := range 256 {
			b := []byte{7, 0, 0, 0, 2}
			b[i] = byte(c)
			h := sealed(string(b))
			for _, data := range []string{"", "ab", mixed(255)} {
				checkAsWorded(t, h+sealed(data))
				checkAsWorded(t, h+sealed(data)+encoded(api.Record{Kind: 1, Data: "c"}))
			}
		}
	}
}

func TestP11_2_StatedLengths(t *testing.T) {
	over := []uint32{most + 1, most + 2, most + 256, 2 * most, 2*most + 2, 1 << 20, 1<<24 - 1, 1 << 24, 1<<24 + 2, 1 << 30, 1<<31 - 14, 1<<31 - 13, 1<<31 - 1, 1 << 31, 1<<31 + 1, 1<<31 + 2, 1<<31 + most, 1<<32 - 65549}
	for n := range uint32(40) {
		over = append(over, ^n)
	}
	for _, n := range over {
		for _, kind := range []uint8{0, 7, 255} {
			h := headed(kind, n)
			checkBehind(t, h[:8], api.StateTorn)
			for _, more := range []string{"", "\x00", sealed(""), sealed("ab"), h, strings.Repeat("\x00", 100), encoded(api.Record{Kind: 7, Data: "ab"})} {
				checkBehind(t, h+more, api.StateBad)
			}
		}
	}
	for n := range uint32(20) {
		for _, missing := range []int{0, 1, 4, 5, 100} {
			data := sealed(mixed(most - 10 + int(n)))
			checkAsWorded(t, headed(7, most-10+n)+data[:len(data)-missing])
			checkAsWorded(t, headed(7, most-10+n)+data[:len(data)-missing]+encoded(api.Record{}))
		}
	}
}

// What is sealed behind a header that states too much is no record, though it is all there.
func TestP11_2_TooLongIsThere(t *testing.T) {
	for _, n := range []int{most + 1, most + 2, 2 * most, 2*most + 2, 1 << 24, 1<<24 + 2} {
		s := headed(7, uint32(n)) + sealed(strings.Repeat("\x00", n))
		checkBehind(t, s, api.StateBad)
		checkScan(t, s+encoded(api.Record{}), nil, 0, api.StateBad)
		checkBehind(t, s[:len(s)-1], api.StateBad)
	}
}

func TestP11_2_DataNotSealed(t *testing.T) {
	for _, data := range []string{"", "a", "ab", "\x00\x00", mixed(20)} {
		s := encoded(api.Record{Kind: 7, Data: data})
		for i := headSize; i < len(s); i++ {
			for c := range 256 {
				if byte(c) == s[i] {
					continue
				}
				wrong := s[:i] + string([]byte{byte(c)}) + s[i+1:]
				for _, more := range behinds()[:3] {
					checkScan(t, wrong+more, nil, 0, api.StateBad)
					checkScan(t, s+wrong+more, []api.Record{{Kind: 7, Data: data}}, len(s), api.StateBad)
				}
			}
		}
	}
}

func TestP11_2_DataSealedOtherwise(t *testing.T) {
	h, body := headed(7, 2), sealed("ab")
	for _, wrong := range []string{
		"ab" + string([]byte{body[5], body[4], body[3], body[2]}),
		"ab" + string([]byte{^body[2], ^body[3], ^body[4], ^body[5]}),
		"ab" + sealed(h[:5] + "ab")[7:],
		"ab" + sealed(h + "ab")[11:],
		"ab" + sealed("b")[1:],
		"ab" + sealed("")[0:],
		"ba" + body[2:],
		body[4:] + body[:4],
	} {
		for _, more := range behinds() {
			checkBehind(t, h+wrong+more, api.StateBad)
		}
	}
}

// Data that is sealed, but longer or shorter than the header states.
func TestP11_2_DataOfOtherLength(t *testing.T) {
	for n := range 20 {
		for m := range 20 {
			for _, more := range behinds() {
				checkAsWorded(t, headed(7, uint32(n))+sealed(mixed(m))+more)
			}
		}
	}
}

// Behind what is no record, records are not looked for.
func TestP11_2_NothingBehindABadOne(t *testing.T) {
	r := api.Record{Kind: 7, Data: "ab"}
	s := encoded(r)
	for _, wrong := range []string{"\x00", s[1:], s[:14], s[:9], s[:8], strings.Repeat("\x00", 9), headed(7, most+1), headed(1, 0) + "\x00\x00\x00\x01"} {
		checkScan(t, wrong+s+s, nil, 0, api.StateBad)
		checkScan(t, s+s+wrong+s+s, []api.Record{r, r}, 30, api.StateBad)
	}
	checkScan(t, headed(1, 100)+s+s, nil, 0, api.StateTorn)
}

// Every list of up to four pieces, of which some are records and some are not.
func TestP11_2_Pieces(t *testing.T) {
	s := encoded(api.Record{Kind: 7, Data: "ab"})
	pieces := []string{
		s,
		encoded(api.Record{}),
		encoded(api.Record{Kind: 255, Data: s}),
		s[:9],
		s[9:],
		s[:8],
		headed(0, 0),
		headed(9, 13),
		headed(9, 15),
		headed(9, most),
		headed(9, most+1),
		s[:14] + "\x00",
		"\x00" + s[1:],
		"\x00\x00\x00\x00",
		"\xff",
	}
	var all func(ahead string, left int)
	all = func(ahead string, left int) {
		checkAsWorded(t, ahead)
		if left > 0 {
			for _, p := range pieces {
				all(ahead+p, left-1)
			}
		}
	}
	all("", 4)
}

// One byte more, one less, one other, and two that changed places, anywhere.
func TestP11_2_NearEncodings(t *testing.T) {
	r := api.Record{Kind: 7, Data: "ab"}
	for _, l := range [][]api.Record{{r}, {r, r}, {{}, {}, {}}, {{Kind: 255}, {Kind: 1, Data: encoded(r)}, r}} {
		s := encoded(l...)
		for i := range len(s) {
			checkAsWorded(t, s[:i]+s[i+1:])
			checkAsWorded(t, s[i:])
			for c := range 256 {
				checkAsWorded(t, s[:i]+string([]byte{byte(c)})+s[i:])
				checkAsWorded(t, s[:i]+string([]byte{byte(c)})+s[i+1:])
			}
			if i > 0 {
				checkAsWorded(t, s[:i-1]+s[i:i+1]+s[i-1:i]+s[i+1:])
			}
		}
	}
}

func TestP11_2_AnyBytes(t *testing.T) {
	m := mixer(11)
	for range 20000 {
		b := make([]byte, m.next()%60)
		for i := range b {
			b[i] = byte(m.next() & m.next() & m.next())
		}
		checkAsWorded(t, string(b))
		checkAsWorded(t, encoded(api.Record{Kind: byte(m.next()), Data: string(b)})+string(b))
	}
}

// A file as long as a disk takes one, of the least records.
func TestP11_2_ManyRecords(t *testing.T) {
	n := (1 << 20) / 13
	l := slices.Repeat([]api.Record{{}}, n)
	s := strings.Repeat(encoded(api.Record{}), n)
	checkScan(t, s, l, len(s), api.StateWhole)
	checkPut(t, l, s)
	checkScan(t, s+"\x00", l, len(s), api.StateTorn)
	checkScan(t, s+strings.Repeat("\x00", 9), l, len(s), api.StateBad)
}

func TestP11_2_NewMemory(t *testing.T) {
	want := []api.Record{{Kind: 7, Data: "0123456789"}, {Kind: 8, Data: mixed(100)}, {}}
	memory := []byte(encoded(want...) + "rest")
	s := unsafe.String(&memory[0], len(memory))
	l, _, _ := record.Scan(s)
	was := string(memory)
	other, _, _ := record.Scan(s)
	if s != was {
		t.Errorf("Scan changed its argument")
	}
	for i := range other {
		other[i].Kind ^= 1
	}
	clear(memory)
	if !slices.Equal(l, want) {
		t.Errorf("Scan returned memory that is another's: %s", show(l))
	}
}

func TestP11_3_ThereAndBack(t *testing.T) {
	for _, l := range append(lists(), longest()...) {
		s, e := record.Put(l)
		if e != api.OK || len(s) != sizeOf(l) {
			t.Fatalf("Put of %s: %s, %d", show(l), brief(s), e)
		}
		checkScan(t, s, l, len(s), api.StateWhole)
	}
}

// Of two lists, one after the other, all records are there.
func TestP11_3_Joined(t *testing.T) {
	all := lists()
	for i, a := range all {
		b := all[(i*7+3)%len(all)]
		s, _ := record.Put(a)
		more, _ := record.Put(b)
		checkScan(t, s+more, slices.Concat(a, b), len(s)+len(more), api.StateWhole)
		if both, e := record.Put(slices.Concat(a, b)); both != s+more || e != api.OK {
			t.Errorf("Put of %s and %s: %s, %d", show(a), show(b), brief(both), e)
		}
	}
}

// checkPrefixes asks for each prefix of what Put returned whether just the records are scanned that are there completely.
func checkPrefixes(t *testing.T, l []api.Record) {
	t.Helper()
	s, e := record.Put(l)
	if e != api.OK {
		t.Fatalf("Put of %s: %d", show(l), e)
	}
	there, end, next := 0, 0, 0
	if len(l) > 0 {
		next = sizeOf(l[:1])
	}
	for n := range len(s) + 1 {
		state := api.StateTorn
		if n == next {
			there, end = min(there+1, len(l)), n
			next = sizeOf(l[:min(there+1, len(l))])
		}
		if n == end {
			state = api.StateWhole
		}
		got, size, w := record.Scan(s[:n])
		if !slices.Equal(got, l[:there]) || size != end || w != state {
			t.Fatalf("Scan of the first %d bytes of %s: %s, %d, %d; not %d records, %d, %d", n, show(l), show(got), size, w, there, end, state)
		}
	}
	if there != len(l) || end != len(s) {
		t.Errorf("of %s the prefixes end at %d records, %d bytes", show(l), there, end)
	}
}

func TestP11_3_EachPrefix(t *testing.T) {
	a, b := api.Record{Kind: 7, Data: "ab"}, api.Record{}
	for _, l := range append(lists(), []api.Record{a, b, a, b, a}, []api.Record{b, b, b}) {
		if sizeOf(l) < 4000 {
			checkPrefixes(t, l)
		}
	}
	checkPrefixes(t, []api.Record{a, b, {Kind: 9, Data: mixed(most)}, a})
}

func TestP11_3_PutOfScanned(t *testing.T) {
	r := api.Record{Kind: 7, Data: "ab"}
	s := encoded(r, api.Record{}, api.Record{Kind: 255, Data: mixed(30)}, r)
	for n := range len(s) + 1 {
		for _, more := range behinds() {
			l, size, _ := record.Scan(s[:n] + more)
			if back, e := record.Put(l); e != api.OK || back != (s[:n] + more)[:size] {
				t.Errorf("Put of what was scanned of %d bytes and %s: %s, %d; %d were consumed", n, brief(more), brief(back), e, size)
			}
		}
	}
}

// inverted is s with the bits of a pattern inverted, the lowest at that place of the bit order.
func inverted(s string, place int, pattern uint32) string {
	b := []byte(s)
	for i := range 32 {
		if pattern>>i&1 != 0 {
			b[(place+i)/8] ^= 1 << ((place + i) % 8)
		}
	}
	return string(b)
}

// patterns are bits within 32 consecutive ones, the lowest among them: each alone and with each other one, in rows of each length, and mixed.
func patterns(m *mixer) []uint32 {
	l := []uint32{1}
	for i := 1; i < 32; i++ {
		l = append(l, 1|1<<i, 1<<(i+1)-1)
		for j := 1; j < i; j++ {
			l = append(l, 1|1<<i|1<<j)
		}
	}
	for range 60 {
		l = append(l, uint32(m.next())|1, uint32(m.next())|1|1<<31)
	}
	return l
}

// checkCorrupt asks whether bits that are inverted in the encoding of r are detected, with records before it and after it.
func checkCorrupt(t *testing.T, before []api.Record, r api.Record, after string, place int, pattern uint32) {
	t.Helper()
	s := encoded(r)
	if place+32 > len(s)*8 {
		// What would lie behind the record is left out.
		pattern &= 1<<(len(s)*8-place) - 1
	}
	start := encoded(before...)
	got, n, state := record.Scan(start + inverted(s, place, pattern) + after)
	if !slices.Equal(got, before) || n != len(start) || state != api.StateBad {
		t.Fatalf("Scan of %s with %032b inverted from bit %d on, behind %s and ahead of %s: %s, %d, %d", brief(s), pattern, place, show(before), brief(after), show(got), n, state)
	}
}

func TestP11_4_EachPlace(t *testing.T) {
	m := mixer(4)
	l := patterns(&m)
	some := api.Record{Kind: 1, Data: "c"}
	for _, data := range []string{"", "a", "ab", "\x00\x00\x00\x00", mixed(9), encoded(api.Record{Kind: 7, Data: "ab"})} {
		r := api.Record{Kind: 7, Data: data}
		for place := range 8 * sizeOf([]api.Record{r}) {
			for _, pattern := range l {
				checkCorrupt(t, nil, r, "", place, pattern)
				checkCorrupt(t, []api.Record{some, r}, r, encoded(r, some), place, pattern)
			}
		}
	}
}

// All that may be inverted within thirteen bits, at each place.
func TestP11_4_EachPattern(t *testing.T) {
	r := api.Record{Kind: 7, Data: "ab"}
	for place := range 8 * 15 {
		for pattern := uint32(1); pattern < 1<<13; pattern += 2 {
			checkCorrupt(t, nil, r, "", place, pattern)
		}
	}
}

func TestP11_4_Surroundings(t *testing.T) {
	m := mixer(5)
	for _, before := range aheads() {
		for _, after := range behinds() {
			for _, r := range []api.Record{{}, {Kind: 255}, {Kind: 7, Data: "ab"}, {Kind: 0, Data: mixed(40)}} {
				for place := range 8 * sizeOf([]api.Record{r}) {
					for _, pattern := range []uint32{1, 1<<31 | 1, 1<<32 - 1, uint32(m.next()) | 1, uint32(m.next()) | 1} {
						checkCorrupt(t, before, r, after, place, pattern)
					}
				}
			}
		}
	}
}

// In long Data, at both its ends and between.
func TestP11_4_Long(t *testing.T) {
	m := mixer(6)
	for _, n := range []int{300, 4096, most} {
		r := api.Record{Kind: 7, Data: mixed(n)}
		size := 8 * (n + headSize + sumSize)
		places := []int{0, 8, 39, 40, 41, 60, 71, 72, 73, size / 2, size - 65, size - 64, size - 63, size - 50, size - 33, size - 32, size - 31, size - 1}
		for range 5 {
			places = append(places, int(m.next()%uint64(size)))
		}
		for _, place := range places {
			for _, pattern := range []uint32{1, 1<<31 | 1, 1<<32 - 1, uint32(m.next()) | 1} {
				checkCorrupt(t, []api.Record{{Kind: 1, Data: "c"}}, r, encoded(api.Record{Kind: 2}), place, pattern)
			}
		}
	}
}
