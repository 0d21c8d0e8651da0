package entry_test

import (
	"maps"
	"math/rand"
	"slices"
	"strings"
	"testing"

	"posthouse/api"
	"posthouse/entry"
	"posthouse/props"
)

// known are entries and their encodings, byte by byte.
func known() map[string]api.Entry {
	a, b := named(7, "a", ""), named(1<<31, "\x00\xff", "bc")
	return map[string]api.Entry{
		"01 01 71 00 00 00 00 00 00 00 09":                         {Kind: api.EnQueue, Name: "q", N: 9},
		"01 03 21 61 7e 00 00 01 00 00 00 00 00":                   {Kind: api.EnQueue, Name: "!a~", N: mostId},
		"02 01 71":                                                 {Kind: api.EnDrop, Name: "q"},
		"03 00 00":                                                 {Kind: api.EnDo},
		"03 00 01 01 71 00 00 00 00 00 00 00 05":                   {Kind: api.EnDo, Takes: []api.Ref{ref("q", 5)}},
		"04 00 00 00 07 01 61 00 00 00":                            {Kind: api.EnPrep, X: a},
		"05 00 00 00 00 00 00 01 02 00 00 00 07 01 61 00":          {Kind: api.EnCommit, X: a, N: 258},
		"06 00 00 00 07 01 61 00":                                  {Kind: api.EnBack, X: a},
		"06 80 00 00 00 02 00 ff 02 62 63":                         {Kind: api.EnBack, X: b},
		"07 00 00 01 00 00 00 00 00 80 00 00 00 02 00 ff 02 62 63": {Kind: api.EnHeurCommit, X: b, N: mostId},
		"08 00 00 00 07 01 61 00":                                  {Kind: api.EnHeurBack, X: a},
		"09 80 00 00 00 02 00 ff 02 62 63":                         {Kind: api.EnForget, X: b},
		"03 02 01 71 00 00 00 00 00 00 00 05 00 00 00 0a 00 00 00 06 04 01 00 05 01 71 00 01 62 02 61 62 00 00 01 00 00 00 00 00 00 00 00 08 00 00 00 04 04 01 00 00 00 00 00": {
			Kind: api.EnDo, Puts: []api.Put{put("q", 5), {Queue: "ab", Id: mostId}},
		},
		"04 00 00 00 07 01 61 00 01 01 71 00 00 00 00 00 00 00 00 00 00 00 0a 00 00 00 06 04 01 00 05 01 71 00 01 62 02 01 71 00 00 00 00 00 00 00 05 02 61 62 00 00 00 00 00 00 00 04": {
			Kind: api.EnPrep, X: a, Puts: []api.Put{put("q", 0)}, Takes: []api.Ref{ref("q", 5), ref("ab", 4)},
		},
		"03 01 01 71 00 00 00 00 00 00 00 01 00 00 00 12 00 00 00 04 04 01 00 00 00 00 00 06 04 03 00 01 01 61 00 03 00 ff 80 01 01 71 00 00 00 00 00 00 00 01": {
			Kind: api.EnDo, Puts: []api.Put{{Queue: "q", Id: 1, Props: api.Props{Id: "a"}, Body: "\x00\xff\x80"}}, Takes: []api.Ref{ref("q", 1)},
		},
	}
}

func TestP13_1_Examples(t *testing.T) {
	checkPut(t, api.Entry{Kind: api.EnQueue, Name: "q", N: 9}, "\x01\x01\x71\x00\x00\x00\x00\x00\x00\x00\x09")
	checkPut(t, api.Entry{Kind: api.EnBack, X: named(7, "a", "")}, "\x06\x00\x00\x00\x07\x01\x61\x00")
	checkPut(t, api.Entry{Kind: api.EnDo, Takes: []api.Ref{ref("q", 5)}}, "\x03\x00\x01\x01\x71\x00\x00\x00\x00\x00\x00\x00\x05")
	for _, e := range []api.Entry{
		{Kind: api.EnQueue, Name: "q"},
		{Kind: api.EnDo, Puts: []api.Put{put("q", 0)}},
		{Kind: api.EnBack, X: named(7, "a", ""), N: 1},
		{}, {Kind: 10},
	} {
		checkWrong(t, e)
	}
}

func TestP13_1_Known(t *testing.T) {
	for s, e := range known() {
		checkPut(t, e, hexed(s))
	}
}

func checkName(t *testing.T, s string, is bool) {
	t.Helper()
	if entry.QueueName(s) != is {
		t.Errorf("QueueName of %+.60q (%d bytes): %v", s, len(s), !is)
	}
}

func TestP13_1_LengthsOfNames(t *testing.T) {
	for n := range 1000 {
		checkName(t, long(n), 1 <= n && n <= 40)
	}
	for _, n := range []int{1 << 16, 1<<16 + 1, 1<<16 + 40, 1 << 20} {
		checkName(t, long(n), false)
	}
}

func TestP13_1_BytesOfNames(t *testing.T) {
	for c := range 256 {
		b := string([]byte{byte(c)})
		is := 33 <= c && c <= 126
		checkName(t, b, is)
		checkName(t, strings.Repeat(b, mostName), is)
		for n := 2; n <= mostName+1; n++ {
			for at := range n {
				checkName(t, long(at)+b+long(n-1-at), is && n <= mostName)
			}
		}
	}
	for _, s := range append(goodNames(), badNames()...) {
		checkName(t, s, queueName.MatchString(s))
	}
}

// All runes, each by itself: only those of one byte may stand in a name.
func TestP13_1_RunesOfNames(t *testing.T) {
	for r := range rune(0x110000) {
		if entry.QueueName(string(r)) != (33 <= r && r <= 126) {
			t.Errorf("QueueName of %+q", r)
		}
	}
}

func TestP13_1_Valid(t *testing.T) {
	l := valid()
	for _, e := range l {
		if !checkJudged(t, e) {
			t.Errorf("not valid: %s", show(e))
		}
	}
	if len(l) < 200 {
		t.Errorf("%d entries", len(l))
	}
}

// Each Kind that a byte may tell, with the fields of each one that there is, and with none.
func TestP13_1_Kinds(t *testing.T) {
	for kind := range 256 {
		checkWrongUnlessDo(t, api.Entry{Kind: uint8(kind)})
		for _, other := range kinds() {
			e := plain(other)
			e.Kind = uint8(kind)
			checkJudged(t, e)
			e.Puts, e.Takes = nil, nil
			checkJudged(t, e)
		}
	}
}

// checkWrongUnlessDo asks whether an entry with no field set is refused, unless its Kind is the one that has a right to it.
func checkWrongUnlessDo(t *testing.T, e api.Entry) {
	t.Helper()
	if e.Kind == 3 {
		checkPut(t, e, "\x03\x00\x00")
	} else {
		checkWrong(t, e)
	}
}

// For each Kind, any fields together: those that it uses and those that it does not, valid and not.
func TestP13_1_Fields(t *testing.T) {
	taken := map[uint8]int{}
	for _, kind := range append(kinds(), 0, 10, 11, 16, 128, 255) {
		for e := range anyFields(kind) {
			if checkJudged(t, e) {
				taken[kind]++
			}
		}
	}
	// Two names, two numbers, three of X, four lists of puts for each of the two Kinds, three of takes; where there are no lists these are nil or empty.
	want := map[uint8]int{1: 2 * 2 * 4, 2: 2 * 4, 3: 4 * 3, 4: 3 * 4 * 3, 5: 2 * 3 * 4, 6: 3 * 4, 7: 2 * 3 * 4, 8: 3 * 4, 9: 3 * 4}
	if !maps.Equal(taken, want) {
		t.Errorf("valid are %v", taken)
	}
}

// anyFields are entries of a Kind with any of some fields.
func anyFields(kind uint8) func(func(api.Entry) bool) {
	names := []string{"", "q", long(mostName), " ", long(mostName + 1)}
	numbers := []uint64{0, 1, mostId, mostId + 1}
	xids := []api.Xid{{}, named(7, "a", "b"), named(0, "a", ""), named(7, long(mostPart), ""), named(7, "", ""), named(0, "", "b")}
	work := [][]api.Put{nil, {}, {put("q", 1)}, {put("q", 0)}, {put("q", 1), put("q", mostId)}, {put("q", 0), put("a", 0)}, {put("q", 0), put("q", 1)}, {put("q", mostId+1)}, {put("", 1)}, {put("", 0)}}
	refs := [][]api.Ref{nil, {}, {ref("q", 1)}, {ref("q", 0)}, {ref("", 1)}}
	return func(yield func(api.Entry) bool) {
		e := api.Entry{Kind: kind}
		for _, e.Name = range names {
			for _, e.N = range numbers {
				for _, e.X = range xids {
					for _, e.Puts = range work {
						for _, e.Takes = range refs {
							if !yield(e) {
								return
							}
						}
					}
				}
			}
		}
	}
}

// Each field that a Kind uses, wrong; each that it does not, set.
func TestP13_1_OneFieldWrong(t *testing.T) {
	for _, kind := range kinds() {
		r := rows()[kind]
		e := plain(kind)
		for _, e.Name = range append(badNames(), goodNames()...) {
			checkField(t, e, r.name && queueName.MatchString(e.Name) || !r.name && e.Name == "")
		}
		e = plain(kind)
		for _, e.N = range append(badIds(), goodIds()...) {
			checkField(t, e, r.n && isId(e.N) || !r.n && e.N == 0)
		}
		e = plain(kind)
		for _, e.X = range goodXids() {
			checkField(t, e, r.x)
		}
		for _, e.X = range badXids() {
			checkField(t, e, false)
		}
		e.X = api.Xid{}
		checkField(t, e, !r.x)
	}
}

// Each field of an X that is not used makes a difference.
func TestP13_1_UnusedXid(t *testing.T) {
	for _, kind := range []uint8{1, 2, 3} {
		for _, x := range []api.Xid{named(1, "", ""), named(1<<31, "", ""), named(0, "a", ""), named(0, "", "b"), named(0, "\x00", ""), named(0, "", "\x00")} {
			e := plain(kind)
			e.X = x
			checkField(t, e, false)
		}
	}
}

// checkField asks whether e is refused, or not.
func checkField(t *testing.T, e api.Entry, is bool) {
	t.Helper()
	if is {
		checkPut(t, e, encoded(e))
	} else {
		checkWrong(t, e)
	}
}

func TestP13_1_NoWork(t *testing.T) {
	for _, kind := range kinds() {
		if rows()[kind].work {
			continue
		}
		for _, l := range [][]api.Put{puts(1, true), puts(1, false), puts(mostWork, true), puts(mostWork+1, true), puts(256, false), make([]api.Put, 1)} {
			e := plain(kind)
			e.Puts = l
			checkWrong(t, e)
		}
		for _, l := range [][]api.Ref{takes(1), takes(mostWork), takes(mostWork + 1), takes(256), make([]api.Ref, 1)} {
			e := plain(kind)
			e.Takes = l
			checkWrong(t, e)
		}
		e := plain(kind)
		e.Puts, e.Takes = []api.Put{}, []api.Ref{}
		checkPut(t, e, encoded(plain(kind)))
	}
}

// So many puts and takes: those of 256 and more have a number of one byte that is small again.
func TestP13_1_CountsOfWork(t *testing.T) {
	counts := []int{0, 1, 2, mostWork - 1, mostWork, mostWork + 1, mostWork + 2, 127, 128, 255, 256, 257, 256 + mostWork, 1000, 1 << 16}
	for _, kind := range workers() {
		e := plain(kind)
		for _, n := range counts {
			e.Puts = puts(n, kind == api.EnDo)
			for _, m := range counts {
				e.Takes = takes(m)
				checkField(t, e, n <= mostWork && m <= mostWork)
			}
		}
	}
}

func TestP13_1_WrongPuts(t *testing.T) {
	for _, kind := range workers() {
		for _, p := range badPuts(kind) {
			e := plain(kind)
			e.Puts = []api.Put{p}
			checkWrong(t, e)
			e.Takes = nil
			checkWrong(t, e)
		}
	}
}

func TestP13_1_WrongTakes(t *testing.T) {
	for _, kind := range workers() {
		for _, r := range badTakes() {
			e := plain(kind)
			e.Takes = []api.Ref{r}
			checkWrong(t, e)
			e.Puts = nil
			checkWrong(t, e)
		}
	}
}

// One put or take among many, wherever it stands.
func TestP13_1_WrongAnywhere(t *testing.T) {
	wrongId := map[uint8]uint64{api.EnDo: 0, api.EnPrep: 1}
	for _, kind := range workers() {
		for _, n := range []int{2, 3, mostWork} {
			for at := range n {
				e := plain(kind)
				e.Puts, e.Takes = puts(n, kind == api.EnDo), takes(n)
				checkPut(t, e, encoded(e))
				e.Takes[at].Id = 0
				checkWrong(t, e)
				e.Takes[at] = ref("", 1)
				checkWrong(t, e)
				e.Takes[at] = ref("q", 1)
				checkPut(t, e, encoded(e))
				e.Puts[at].Id = wrongId[kind]
				checkWrong(t, e)
			}
		}
	}
}

// The numbers of messages at their edges, in each place that has one.
func TestP13_1_Numbers(t *testing.T) {
	for _, id := range append(goodIds(), badIds()...) {
		for _, e := range []api.Entry{
			{Kind: 1, Name: "q", N: id}, {Kind: 5, X: named(7, "a", "b"), N: id}, {Kind: 7, X: named(7, "a", "b"), N: id},
			{Kind: 3, Takes: []api.Ref{ref("q", id)}}, {Kind: 4, X: named(7, "a", "b"), Takes: []api.Ref{ref("q", id)}},
			{Kind: 3, Puts: []api.Put{put("q", id)}},
		} {
			checkField(t, e, isId(id))
		}
		checkField(t, api.Entry{Kind: 4, X: named(7, "a", "b"), Puts: []api.Put{put("q", id)}}, id == 0)
	}
}

// Nothing is asked of puts and takes together: the same message twice, one that is put and taken, queues in any order.
func TestP13_1_AnyWork(t *testing.T) {
	for _, e := range []api.Entry{
		{Kind: 3, Puts: []api.Put{put("q", 5), put("q", 5)}}, {Kind: 3, Puts: []api.Put{put("q", 5), put("a", 4)}}, {Kind: 3, Takes: []api.Ref{ref("q", 5), ref("q", 5)}},
		{Kind: 3, Takes: []api.Ref{ref("q", 5), ref("a", 4)}}, {Kind: 3, Puts: []api.Put{put("q", 5)}, Takes: []api.Ref{ref("q", 5)}},
		{Kind: 4, X: named(7, "a", ""), Puts: []api.Put{put("q", 0), put("q", 0)}, Takes: []api.Ref{ref("q", 5), ref("q", 4), ref("q", 5)}},
	} {
		checkPut(t, e, encoded(e))
	}
}

func TestP13_1_Largest(t *testing.T) {
	e := largest()
	s, no := entry.Put(e)
	if want := 1 + 4 + 65 + 65 + 1 + 100*(41+8+4+8192+2+4096) + 1 + 100*(41+8); no != api.OK || len(s) != want || s != encoded(e) {
		t.Errorf("Put: %d bytes, %d, not %d", len(s), no, want)
	}
	checkGot(t, s, e)
	e.Puts = append(e.Puts, e.Puts[0])
	checkWrong(t, e)
}

// What is passed in is not changed, nor is the memory behind it.
func TestP13_1_NothingChanged(t *testing.T) {
	for _, e := range append(valid(), withPut(3, api.Put{Queue: "q", Id: 1, Props: api.Props{App: dict("k.l", void(), dict("m", ofBytes(5)))}})) {
		e.Puts, e.Takes = roomy(e.Puts, put("behind", 77)), roomy(e.Takes, ref("behind", 77))
		whole := e
		whole.Puts, whole.Takes = e.Puts[:cap(e.Puts)], e.Takes[:cap(e.Takes)]
		was := told(whole)
		s, _ := entry.Put(e)
		entry.Check(e)
		entry.Same(e, plain(e.Kind))
		entry.Same(e, e)
		entry.Get(s)
		if told(whole) != was {
			t.Errorf("changed: %s", show(e))
		}
	}
}

// roomy is the list, with room behind it in which that one stands.
func roomy[T any](l []T, behind T) []T {
	out := append(slices.Clone(l), behind, behind, behind)
	return out[:len(l)]
}

func TestP13_2_Known(t *testing.T) {
	for s, e := range known() {
		checkGot(t, hexed(s), e)
		if is := checkAsWorded(t, hexed(s)); !is {
			t.Errorf("%s is no encoding", s)
		}
	}
}

func TestP13_2_Valid(t *testing.T) {
	for _, e := range valid() {
		checkGot(t, encoded(e), e)
	}
}

// places are those at which a string is cut: all of a short one, and those near both ends of a long one and some between.
func places(s string) []int {
	var l []int
	for n := range len(s) {
		if n < 400 || n > len(s)-50 || n%97 == 0 && n < 20000 || n%9973 == 0 {
			l = append(l, n)
		}
	}
	return l
}

func TestP13_2_Prefixes(t *testing.T) {
	for _, e := range append(valid(), largest()) {
		s := encoded(e)
		for _, n := range places(s) {
			checkRefused(t, s[:n])
		}
	}
}

func TestP13_2_TooMany(t *testing.T) {
	for _, e := range append(valid(), largest()) {
		s := encoded(e)
		for _, more := range []string{"\x00", "\x01", "q", "\xff", "\x00\x00", s} {
			checkRefused(t, s+more)
		}
		checkRefused(t, s[1:])
	}
	for _, e := range brief() {
		for c := range 256 {
			checkRefused(t, encoded(e)+string([]byte{byte(c)}))
		}
	}
}

// Each byte that may tell a Kind, ahead of the fields of each one that there is.
func TestP13_2_Kinds(t *testing.T) {
	taken := 0
	for kind := range 256 {
		checkRefused(t, string([]byte{byte(kind)}))
		for _, e := range brief() {
			if checkAsWorded(t, written(uint8(kind), rows()[e.Kind], e)) {
				taken++
			}
		}
	}
	if taken <= len(brief()) {
		t.Errorf("%d are encodings", taken)
	}
	checkRefused(t, "")
}

// What entries that are not valid would be encoded as.
func TestP13_2_NotValid(t *testing.T) {
	for _, kind := range kinds() {
		r := rows()[kind]
		e := plain(kind)
		for _, e.Name = range badNames() {
			if r.name && len(e.Name) < 256 {
				checkRefused(t, encoded(e))
			}
		}
		e = plain(kind)
		for _, e.N = range badIds() {
			if r.n {
				checkRefused(t, encoded(e))
			}
		}
		e = plain(kind)
		for _, e.X = range append(badXids(), api.Xid{}) {
			if r.x && len(e.X.Global) < 256 && len(e.X.Branch) < 256 {
				checkRefused(t, encoded(e))
			}
		}
	}
}

func TestP13_2_NotValidWork(t *testing.T) {
	for _, kind := range workers() {
		for _, r := range badTakes() {
			e := plain(kind)
			e.Takes = []api.Ref{r}
			if len(r.Queue) < 256 {
				checkRefused(t, encoded(e))
			}
		}
		for _, p := range badPuts(kind) {
			e := plain(kind)
			e.Puts = []api.Put{p}
			if len(p.Queue) < 256 && len(p.Body) < 65536 && props.Check(p.Props) == api.OK {
				checkRefused(t, encoded(e))
			}
		}
		for n := range 256 {
			e := plain(kind)
			e.Puts = puts(n, kind == api.EnDo)
			checkAsWorded(t, encoded(e))
			e.Puts, e.Takes = nil, takes(n)
			checkAsWorded(t, encoded(e))
		}
	}
}

// withHead is what an entry of a Kind with puts would be encoded as, if Props were encoded so.
func withHead(kind uint8, head string) string {
	e := plain(kind)
	p := e.Puts[0]
	e.Puts, e.Takes = nil, nil
	s := strings.TrimSuffix(encoded(e), "\x00\x00")
	return s + "\x01" + putBytes(p, head) + "\x00"
}

// Bytes that are no encoding of properties where Props stand.
func TestP13_2_WrongProps(t *testing.T) {
	for _, kind := range workers() {
		for _, p := range goodProps() {
			s := head(p)
			if !checkAsWorded(t, withHead(kind, s)) {
				t.Errorf("%.80x is no encoding", s)
			}
			for _, other := range []string{s + "\x00", s[1:], s[:len(s)-1], s[:4], s + s, "\x00" + s} {
				checkRefused(t, withHead(kind, other))
			}
		}
		for _, s := range []string{
			"", "00", "00 00 00 00", "00 00 00 04 04 01 00 04", "00 00 00 04 04 01 00 08", "00 00 00 04 04 03 00 00", "00 00 00 05 04 01 00 04 00", "00 00 00 04 04 01 00 00 00 00 00 04 04 03 00 00",
			"00 00 00 04 04 01 01 00", "00 00 00 04 04 01 00 00 00 00 00 05 04 03 00 02 f0", "00 00 00 05 04 01 00 00 00", "ff ff ff ff 04 01 00 00", "00 00 00 03 04 01 00",
		} {
			checkRefused(t, withHead(kind, hexed(s)))
		}
	}
}

// Each byte of brief encodings, with each value.
func TestP13_2_EachByte(t *testing.T) {
	taken := 0
	for _, e := range brief() {
		if len(e.Puts)+len(e.Takes) > 2 {
			continue
		}
		b := []byte(encoded(e))
		for i, was := range b {
			for c := range 256 {
				b[i] = byte(c)
				if checkAsWorded(t, string(b)) {
					taken++
				}
			}
			b[i] = was
		}
	}
	if taken == 0 {
		t.Error("no bytes were an encoding")
	}
}

// Encodings with bytes taken out, put in and changed.
func TestP13_2_NearEncodings(t *testing.T) {
	r := rand.New(rand.NewSource(13))
	list := brief()
	for range 200000 {
		b := []byte(encoded(list[r.Intn(len(list))]))
		for range 1 + r.Intn(3) {
			at := r.Intn(len(b))
			c := []byte{0, 1, 2, 3, 4, 5, 6, 7, 8, 9, 10, 'a', 'q', ' ', 0x7f, 100, 101, 0xf0, 0xff}[r.Intn(19)]
			switch r.Intn(3) {
			case 0:
				b[at] = c
			case 1:
				b = slices.Insert(b, at, c)
			case 2:
				b = append(slices.Delete(b, at, at+1), c)
			}
		}
		checkAsWorded(t, string(b))
	}
}

// All short strings of the bytes that matter, by themselves and behind what an entry with a name starts with.
func TestP13_2_ShortStrings(t *testing.T) {
	letters := "\x00\x01\x02\x03\x04!"
	list, taken := []string{""}, 0
	for range 7 {
		var longer []string
		for _, s := range list {
			for _, front := range []string{"", "\x06\x00\x00\x00\x00", "\x04\x00\x00\x00\x07\x01a", "\x03\x00\x01\x01q\x00\x00\x00\x00\x00"} {
				if checkAsWorded(t, front+s) {
					taken++
				}
			}
			for i := range len(letters) {
				longer = append(longer, s+letters[i:i+1])
			}
		}
		list = longer
	}
	if taken == 0 {
		t.Error("no string was an encoding")
	}
}

// Strings that are much longer than what they begin with, and numbers of puts and takes that are not there.
func TestP13_2_LongStrings(t *testing.T) {
	for _, c := range []string{"\x00", "\x01", "\x02", "\x03", "\x04", "q", "\xff"} {
		more := strings.Repeat(c, 1<<22)
		checkRefused(t, more)
		for _, kind := range kinds() {
			checkRefused(t, encoded(plain(kind))+more)
			checkRefused(t, string([]byte{kind})+more)
		}
		checkRefused(t, "\x03\x64"+more)
		checkRefused(t, "\x03\xff"+more)
		checkRefused(t, "\x03\x00\xff"+more)
		checkRefused(t, encoded(largest())+more)
	}
}

// A list of an answer may be changed, up to its capacity, and nothing else is.
func TestP13_2_NewMemory(t *testing.T) {
	p := api.Put{Queue: "q", Id: 1, Props: api.Props{App: dict("a.b", dict("k.l", void(), void()), void())}}
	e := api.Entry{Kind: api.EnDo, Puts: []api.Put{p, p, p}, Takes: takes(3)}
	s := encoded(e)
	one, _ := entry.Get(s)
	other, _ := entry.Get(s)
	spoil(one.Puts[0].Props.App)
	if told(api.Entry{Puts: one.Puts[1:], Takes: one.Takes}) != told(api.Entry{Puts: e.Puts[1:], Takes: e.Takes}) {
		t.Errorf("lists of one answer share memory: %s", show(one))
	}
	fill(one.Puts, put("spoilt", 9))
	if told(api.Entry{Takes: one.Takes}) != told(api.Entry{Takes: e.Takes}) {
		t.Errorf("the takes are changed with the puts: %s", show(one))
	}
	fill(one.Takes, ref("spoilt", 9))
	if told(other) != told(e) {
		t.Errorf("another answer was changed: %s", show(other))
	}
	checkGot(t, s, e)
}

// fill changes a list, with the room behind it.
func fill[T any](l []T, to T) {
	l = l[:cap(l)]
	for i := range l {
		l[i] = to
	}
}

// spoil changes all lists in v, with the room behind them.
func spoil(v api.Value) {
	for _, element := range v.List {
		spoil(element)
	}
	fill(v.Keys, "spoilt")
	fill(v.List, api.Value{Kind: api.ValueBool, N: 1})
}

// distinct are entries, valid or not, no two of which are equal.
func distinct() []api.Entry {
	l := append(brief(), api.Entry{})
	x := named(7, "a", "b")
	for _, kind := range []uint8{0, 3, 4, 5, 10, 255} {
		l = append(l,
			api.Entry{Kind: kind, Name: "q", N: 1, X: x, Puts: puts(1, true), Takes: takes(1)}, api.Entry{Kind: kind, Name: "q"}, api.Entry{Kind: kind, Name: " "}, api.Entry{Kind: kind, Name: long(1000)}, api.Entry{Kind: kind, Name: "q", X: x},
			api.Entry{Kind: kind, N: 1, Takes: takes(1)}, api.Entry{Kind: kind, N: 1, Puts: puts(1, true)}, api.Entry{Kind: kind, N: 1 << 63}, api.Entry{Kind: kind, X: named(0, "", "b")}, api.Entry{Kind: kind, X: named(1, "", "")}, api.Entry{Kind: kind, X: named(1, long(300), "")},
			api.Entry{Kind: kind, N: 3, Puts: make([]api.Put, 1)}, api.Entry{Kind: kind, N: 3, Puts: make([]api.Put, 2)}, api.Entry{Kind: kind, N: 3, Puts: make([]api.Put, 300)}, api.Entry{Kind: kind, N: 3, Takes: make([]api.Ref, 1)}, api.Entry{Kind: kind, N: 3, Takes: make([]api.Ref, 2)}, api.Entry{Kind: kind, N: 3, Takes: make([]api.Ref, 300)},
		)
		for _, p := range []api.Props{{Key: "a"}, {Id: "a"}, {Durable: true}, {Redelivered: true}, {App: void()}, {App: api.Value{N: 1}}, {App: dict("k")}, {App: dict("k.k", void(), void())}, {Key: long(256)}, {Key: long(255)}, heavy(8192), heavy(8193)} {
			l = append(l, api.Entry{Kind: kind, N: 3, Puts: []api.Put{{Props: p}}}, api.Entry{Kind: kind, N: 3, Puts: []api.Put{put("q", 1), {Props: p}}})
		}
	}
	return l
}

func TestP13_3_Same(t *testing.T) {
	l, twins := distinct(), distinct()
	for i, a := range l {
		for j, b := range twins {
			if is := entry.Same(a, b); is != (i == j) {
				t.Errorf("Same of %s and %s: %v", show(a), show(b), is)
			}
		}
	}
}

// changes are all that changes one field of an entry.
func changes() []func(*api.Entry) {
	l := []func(*api.Entry){
		func(e *api.Entry) { e.Kind++ },
		func(e *api.Entry) { e.Name += "x" },
		func(e *api.Entry) { e.N++ },
		func(e *api.Entry) { e.X.Format++ },
		func(e *api.Entry) { e.X.Global += "x" },
		func(e *api.Entry) { e.X.Branch += "x" },
		func(e *api.Entry) { e.Puts = append(slices.Clone(e.Puts), api.Put{}) },
		func(e *api.Entry) { e.Takes = append(slices.Clone(e.Takes), api.Ref{}) },
	}
	for _, change := range []func(*api.Put){
		func(p *api.Put) { p.Queue += "x" },
		func(p *api.Put) { p.Id++ },
		func(p *api.Put) { p.Props.Key += "x" },
		func(p *api.Put) { p.Props.Durable = !p.Props.Durable },
		func(p *api.Put) { p.Props.Redelivered = !p.Props.Redelivered },
		func(p *api.Put) { p.Props.Id += "x" },
		func(p *api.Put) { p.Props.App.Kind++ },
		func(p *api.Put) { p.Props.App.N++ },
		func(p *api.Put) { p.Props.App.S += "x" },
		func(p *api.Put) { p.Props.App.Keys = append(slices.Clone(p.Props.App.Keys), "x") },
		func(p *api.Put) { p.Props.App.List = append(slices.Clone(p.Props.App.List), void()) },
		func(p *api.Put) { p.Body += "x" },
	} {
		l = append(l, func(e *api.Entry) { e.Puts = slices.Clone(e.Puts); change(&e.Puts[0]) }, func(e *api.Entry) { e.Puts = slices.Clone(e.Puts); change(&e.Puts[len(e.Puts)-1]) })
	}
	for _, change := range []func(*api.Ref){func(r *api.Ref) { r.Queue += "x" }, func(r *api.Ref) { r.Id++ }} {
		l = append(l, func(e *api.Entry) { e.Takes = slices.Clone(e.Takes); change(&e.Takes[0]) }, func(e *api.Entry) { e.Takes = slices.Clone(e.Takes); change(&e.Takes[len(e.Takes)-1]) })
	}
	return append(l, func(e *api.Entry) { e.Puts = e.Puts[1:] }, func(e *api.Entry) { e.Puts = e.Puts[:len(e.Puts)-1] }, func(e *api.Entry) { e.Takes = e.Takes[1:] }, func(e *api.Entry) { e.Takes = e.Takes[:len(e.Takes)-1] })
}

// Each field alone makes a difference, whatever the others are.
func TestP13_3_EachField(t *testing.T) {
	for _, e := range append(valid(), distinct()...) {
		if !entry.Same(e, e) {
			t.Errorf("Same of %s and itself", show(e))
		}
		if len(e.Puts) == 0 || len(e.Takes) == 0 {
			e.Puts, e.Takes = puts(2, true), takes(3)
		}
		for i, change := range changes() {
			other := e
			change(&other)
			if entry.Same(e, other) || entry.Same(other, e) || !entry.Same(other, other) {
				t.Errorf("Same of %s, with change %d", show(e), i)
			}
		}
	}
}

// Nothing is taken for something else, and the order of lists matters.
func TestP13_3_FieldsApart(t *testing.T) {
	x := named(7, "a", "b")
	for _, pair := range [][2]api.Entry{
		{{X: named(7, "a", "b")}, {X: named(7, "b", "a")}}, {{X: named(7, "ab", "")}, {X: named(7, "a", "b")}}, {{Name: "a"}, {X: named(0, "a", "")}}, {{N: 7}, {X: named(7, "", "")}}, {{Kind: 7}, {N: 7}},
		{{Kind: 4, X: x, Takes: []api.Ref{ref("q", 1), ref("q", 2)}}, {Kind: 4, X: x, Takes: []api.Ref{ref("q", 2), ref("q", 1)}}},
		{{Kind: 3, Puts: []api.Put{put("q", 1), put("a", 2)}}, {Kind: 3, Puts: []api.Put{put("a", 2), put("q", 1)}}},
		{{Kind: 3, Puts: []api.Put{put("q", 1)}}, {Kind: 3, Takes: []api.Ref{ref("q", 1)}}}, {{Puts: []api.Put{{Queue: "a"}}}, {Puts: []api.Put{{Body: "a"}}}}, {{Puts: []api.Put{{Queue: "a"}}}, {Puts: []api.Put{{Props: api.Props{Key: "a"}}}}},
		{{Kind: 3, Puts: puts(1, true)}, {Kind: 3, Puts: puts(1, false)}}, {{Kind: 3, Puts: puts(2, true)}, {Kind: 3, Puts: puts(3, true)}}, {{Kind: 3, Takes: takes(2)}, {Kind: 3, Takes: takes(3)}},
	} {
		if entry.Same(pair[0], pair[1]) || entry.Same(pair[1], pair[0]) {
			t.Errorf("Same of %s and %s", show(pair[0]), show(pair[1]))
		}
	}
}

func TestP13_3_NilAndEmpty(t *testing.T) {
	bare, full := api.Value{Kind: api.ValueMap}, api.Value{Kind: api.ValueMap, Keys: []string{}, List: []api.Value{}}
	for kind := range 256 {
		a, b := api.Entry{Kind: uint8(kind), N: 1}, api.Entry{Kind: uint8(kind), N: 1, Puts: []api.Put{}, Takes: []api.Ref{}}
		if !entry.Same(a, b) || !entry.Same(b, a) {
			t.Errorf("Same of %s with nil and empty lists", show(a))
		}
		a.Puts, b.Puts = []api.Put{{Props: api.Props{App: bare}}}, []api.Put{{Props: api.Props{App: full}}}
		if !entry.Same(a, b) || !entry.Same(b, a) {
			t.Errorf("Same of %s with nil and empty lists in App", show(a))
		}
	}
}

// Values that are nested deeply exhaust nothing.
func TestP13_3_Deep(t *testing.T) {
	deep := func(v api.Value) api.Entry {
		for range 200000 {
			v = dict("k", v)
		}
		return withPut(3, api.Put{Queue: "q", Id: 1, Props: api.Props{App: v}})
	}
	if !entry.Same(deep(void()), deep(void())) || entry.Same(deep(void()), deep(ofBytes(1))) {
		t.Error("Same of deep ones")
	}
	checkWrong(t, deep(void()))
}

func TestP13_4_GetOfPut(t *testing.T) {
	for _, e := range append(valid(), largest()) {
		s, no := entry.Put(e)
		if no != api.OK {
			t.Errorf("Put of %s: %d", show(e), no)
			continue
		}
		if got, no := entry.Get(s); no != api.OK || !entry.Same(got, e) || entry.Check(got) != api.OK {
			t.Errorf("Get of Put of %s: %s, %d", show(e), show(got), no)
		}
	}
}

func TestP13_4_PutOfGot(t *testing.T) {
	r := rand.New(rand.NewSource(4))
	pick := func(l ...string) string { return l[r.Intn(len(l))] }
	got := map[string]int{}
	for range 300000 {
		s := pick("\x00", "\x03", "\x04", "\x0a") + pick("", "", "\x00\x00\x00\x07\x01a\x00", "\x00\x00\x00\x07\x00\x01a")
		s += pick("\x00", "\x01"+putBytes(put("q", 0), head(api.Props{})), "\x01"+putBytes(put("q", 1), head(api.Props{})), "\x02"+putBytes(put("q", 1), head(api.Props{})))
		s += pick("\x00", "\x01"+refBytes("q", 1), "\x01"+refBytes("q", 0), "\x01"+refBytes("", 1), "\x02"+refBytes("q", 1)+refBytes("a", mostId))
		e, no := entry.Get(s)
		if no != api.OK {
			continue
		}
		got[s]++
		if again, no := entry.Put(e); no != api.OK || again != s {
			t.Errorf("Put of what Get got from %x: %x, %d", s, again, no)
		}
	}
	// Two lists of puts for each of the two Kinds, and three of takes.
	if len(got) != 2*2*3 {
		t.Errorf("%d of the strings are encodings: %x", len(got), slices.Sorted(maps.Keys(got)))
	}
}

func TestP13_4_OneEncoding(t *testing.T) {
	encodings, equal := map[string]string{}, map[string]string{}
	for _, e := range valid() {
		s, no := entry.Put(e)
		if no != api.OK {
			t.Errorf("Put of %s: %d", show(e), no)
		}
		if other, is := encodings[s]; is && other != told(e) {
			t.Errorf("%s and another entry have one encoding: %.80x", show(e), s)
		}
		if other, is := equal[told(e)]; is && other != s {
			t.Errorf("%s has the encodings %.80x and %.80x", show(e), s, other)
		}
		encodings[s], equal[told(e)] = told(e), s
	}
	l := brief()
	for i, a := range l {
		for j, b := range l {
			one, _ := entry.Put(a)
			other, _ := entry.Put(b)
			if (one == other) != (i == j) || (one == other) != entry.Same(a, b) {
				t.Errorf("the encodings of %s and %s: %x, %x", show(a), show(b), one, other)
			}
		}
	}
}
