package frame_test

import (
	"bytes"
	"fmt"
	"math"
	"slices"
	"strings"
	"testing"

	"posthouse/api"
	"posthouse/frame"
)

// The limits as the chapter tells them.
const (
	head        = 12
	mostBytes   = 4096
	mostPayload = 4084
)

// flagged is the frame with those flags and nothing else.
func flagged(flags int) api.Frame {
	return api.Frame{First: flags&8 != 0, Last: flags&4 != 0, Begin: flags&2 != 0, End: flags&1 != 0}
}

// framed is a frame by its fields, the four flags as one number.
func framed(flags int, kind, track uint8, channel uint16, payload string) api.Frame {
	f := flagged(flags)
	f.Type, f.Track, f.Channel, f.Payload = kind, track, channel, payload
	return f
}

// show tells frames in a line that is not too long.
func show(l ...api.Frame) string {
	s := fmt.Sprintf("%d frames %+q", len(l), fmt.Sprint(l))
	return s[:min(len(s), 300)]
}

// encoded is the encoding of a frame, valid or not, made without the package.
func encoded(f api.Frame) []byte {
	flags := 0
	for bit, is := range []bool{f.End, f.Begin, f.Last, f.First} {
		if is {
			flags += 1 << bit
		}
	}
	size := head + len(f.Payload)
	b := []byte{byte(flags), f.Type, byte(size >> 8), byte(size), 0, f.Track, byte(f.Channel >> 8), byte(f.Channel), 0, 0, 0, 0}
	return append(b, f.Payload...)
}

// stream is the encodings of frames, one after the other.
func stream(l ...api.Frame) []byte {
	var b []byte
	for _, f := range l {
		b = append(b, encoded(f)...)
	}
	return b
}

// mixed is so many bytes, all different ones in turn.
func mixed(n int) string {
	b := make([]byte, n)
	for i := range b {
		b[i] = byte(i*7 + i>>8)
	}
	return string(b)
}

// small are valid frames of few bytes, with all that the other fields may be.
func small() []api.Frame {
	var l []api.Frame
	for flags := range 16 {
		for kind := range uint8(4) {
			for track := range uint8(16) {
				for _, channel := range []uint16{0, 1, 127, 128, 255, 256, 65534, 65535} {
					l = append(l, framed(flags, kind, track, channel, ""), framed(flags, kind, track, channel, "\x00"))
				}
			}
		}
	}
	return l
}

// edges are valid frames at the chapter's edges.
func edges() []api.Frame {
	var l []api.Frame
	for flags := range 16 {
		l = append(l, framed(flags, 0, 0, 1, ""), framed(flags, 3, 15, 65535, "\xff"), framed(flags, 1, 1, 255, mixed(mostPayload)))
	}
	for _, size := range []int{1, 2, 11, 12, 13, 243, 244, 245, 4083, 4084} {
		l = append(l, framed(15, 0, 0, 0, strings.Repeat("\x00", size)), framed(0, 3, 15, 256, strings.Repeat("\xff", size)), framed(6, 2, 7, 65535, mixed(size)))
	}
	return l
}

// few are frames that are unlike one another: the least, the greatest, and one in which others are encoded.
func few() []api.Frame {
	return []api.Frame{
		framed(15, 0, 0, 1, "ab"),
		framed(0, 0, 0, 0, ""),
		framed(15, 3, 15, 65535, mixed(mostPayload)),
		framed(8, 1, 1, 256, string(stream(framed(15, 0, 0, 1, "ab"), framed(0, 0, 0, 0, "")))),
		framed(4, 2, 1, 255, "\xff\xff\xff"),
	}
}

// valid tells whether f is valid, as the chapter words it.
func valid(f api.Frame) bool {
	return f.Type <= 3 && f.Track <= 15 && len(f.Payload) <= mostPayload
}

// named is the frame that a header and what follows it name, valid or not: zeros stand for what is missing of its payload, of which no more is made than shows that it is too long.
func named(b []byte) api.Frame {
	size := int(b[2])*256 + int(b[3])
	payload := make([]byte, min(max(0, size-head), mostPayload+1))
	copy(payload, b[head:])
	return framed(int(b[0]), b[1], b[5], uint16(b[6])*256+uint16(b[7]), string(payload))
}

// isStart tells whether b is a valid start: whether it can be completed to a header so that the encoding of the frame that is named begins as b does, or is the beginning of b.
func isStart(b []byte) bool {
	for low := range 256 {
		rest := []byte{0, 0, 0, byte(low), 0, 0, 0, 0, 0, 0, 0, 0}
		f := named(append(slices.Clone(b), rest[min(len(b), head):]...))
		want := encoded(f)
		if valid(f) && (bytes.HasPrefix(want, b) || bytes.HasPrefix(b, want)) {
			return true
		}
		if len(b) > 3 {
			break
		}
	}
	return false
}

// scanned is what Scan is to answer, found without the package.
func scanned(b []byte) (l []api.Frame, n int, e api.Errno) {
	for len(b)-n >= head {
		f := named(b[n:])
		if want := encoded(f); !valid(f) || !bytes.HasPrefix(b[n:], want) {
			break
		}
		l = append(l, f)
		n += head + len(f.Payload)
	}
	if !isStart(b[n:]) {
		e = api.ErrFrame
	}
	return l, n, e
}

// checkScan asks whether Scan answers so, and leaves its argument and the memory after it alone.
func checkScan(t *testing.T, b []byte, want []api.Frame, size int, e api.Errno) {
	t.Helper()
	was := bytes.Clone(b[:cap(b)])
	got, n, gotE := frame.Scan(b)
	if !slices.Equal(got, want) || n != size || gotE != e {
		t.Errorf("Scan of %d bytes, %x..: %s, %d, %d; not %s, %d, %d", len(b), b[:min(len(b), 40)], show(got...), n, gotE, show(want...), size, e)
	}
	if !bytes.Equal(b[:cap(b)], was) {
		t.Errorf("Scan changed %d bytes, %x..", len(b), was[:min(len(was), 40)])
	}
}

// checkBehind asks whether bytes with which no frame's encoding begins are answered so, alone and behind whole frames, which are returned.
func checkBehind(t *testing.T, b []byte, e api.Errno) {
	t.Helper()
	checkScan(t, b, nil, 0, e)
	for _, ahead := range [][]api.Frame{{framed(15, 0, 0, 1, "ab")}, {framed(0, 0, 0, 0, ""), framed(9, 3, 15, 65535, "\x10\x00\x0f"), framed(0, 0, 0, 0, "")}} {
		start := stream(ahead...)
		checkScan(t, append(start, b...), ahead, len(start), e)
	}
}

func checkPut(t *testing.T, f api.Frame) {
	t.Helper()
	if e := frame.Check(f); e != api.OK {
		t.Errorf("Check of %s: %d", show(f), e)
	}
	if b, e := frame.Put(f); e != api.OK || !bytes.Equal(b, encoded(f)) {
		t.Errorf("Put of %s: %x.., %d", show(f), b[:min(len(b), 40)], e)
	}
}

func TestP6_1_PutKnown(t *testing.T) {
	for _, c := range []struct {
		f    api.Frame
		want string
	}{
		{api.Frame{First: true, Last: true, Begin: true, End: true, Channel: 1, Payload: "ab"}, "\x0f\x00\x00\x0e\x00\x00\x00\x01\x00\x00\x00\x00ab"},
		{api.Frame{}, "\x00\x00\x00\x0c\x00\x00\x00\x00\x00\x00\x00\x00"},
		{api.Frame{First: true}, "\x08\x00\x00\x0c\x00\x00\x00\x00\x00\x00\x00\x00"},
		{api.Frame{Last: true}, "\x04\x00\x00\x0c\x00\x00\x00\x00\x00\x00\x00\x00"},
		{api.Frame{Begin: true}, "\x02\x00\x00\x0c\x00\x00\x00\x00\x00\x00\x00\x00"},
		{api.Frame{End: true}, "\x01\x00\x00\x0c\x00\x00\x00\x00\x00\x00\x00\x00"},
		{api.Frame{First: true, End: true, Type: 3}, "\x09\x03\x00\x0c\x00\x00\x00\x00\x00\x00\x00\x00"},
		{api.Frame{Last: true, Begin: true, Type: 2, Track: 15}, "\x06\x02\x00\x0c\x00\x0f\x00\x00\x00\x00\x00\x00"},
		{api.Frame{Channel: 255, Type: 1, Track: 1}, "\x00\x01\x00\x0c\x00\x01\x00\xff\x00\x00\x00\x00"},
		{api.Frame{Channel: 256, Payload: "\x00"}, "\x00\x00\x00\x0d\x00\x00\x01\x00\x00\x00\x00\x00\x00"},
		{api.Frame{Channel: 0xfedc, Payload: "\xff"}, "\x00\x00\x00\x0d\x00\x00\xfe\xdc\x00\x00\x00\x00\xff"},
		{api.Frame{Channel: 65535, Payload: strings.Repeat("x", 243)}, "\x00\x00\x00\xff\x00\x00\xff\xff\x00\x00\x00\x00" + strings.Repeat("x", 243)},
		{api.Frame{Payload: strings.Repeat("x", 244)}, "\x00\x00\x01\x00\x00\x00\x00\x00\x00\x00\x00\x00" + strings.Repeat("x", 244)},
		{api.Frame{Payload: strings.Repeat("x", 4083)}, "\x00\x00\x0f\xff\x00\x00\x00\x00\x00\x00\x00\x00" + strings.Repeat("x", 4083)},
		{api.Frame{Payload: strings.Repeat("x", 4084)}, "\x00\x00\x10\x00\x00\x00\x00\x00\x00\x00\x00\x00" + strings.Repeat("x", 4084)},
	} {
		if b, e := frame.Put(c.f); string(b) != c.want || e != api.OK {
			t.Errorf("Put of %s: %x.., %d", show(c.f), b[:min(len(b), 40)], e)
		}
		checkScan(t, []byte(c.want), []api.Frame{c.f}, len(c.want), api.OK)
	}
}

func TestP6_1_Valid(t *testing.T) {
	for _, f := range append(small(), edges()...) {
		checkPut(t, f)
	}
	for channel := range 1 << 16 {
		checkPut(t, framed(channel%16, uint8(channel%4), uint8(channel%15), uint16(channel), "c"))
	}
	for size := range mostPayload + 1 {
		checkPut(t, framed(15, 3, 1, 9, mixed(size)))
	}
}

func TestP6_1_Wrong(t *testing.T) {
	over := strings.Repeat("x", mostPayload+1)
	l := []api.Frame{
		{Payload: over},
		framed(15, 3, 15, 65535, over),
		{Payload: over + "x"},
		{Payload: over[:4081] + strings.Repeat("y", 15)},
		{Payload: strings.Repeat("\x00", mostBytes)},
		{Payload: strings.Repeat("x", math.MaxUint16-head)},
		// Of these the length is one that fits again, if it is cut to its two bytes.
		{Payload: strings.Repeat("x", math.MaxUint16+1-head)},
		{Payload: strings.Repeat("x", math.MaxUint16+1)},
		{Payload: strings.Repeat("x", math.MaxUint16+1+100)},
		{Type: 4, Track: 16, Payload: over},
		{Type: 4, Payload: over},
		{Track: 16, Payload: over},
		{Type: 4, Track: 16},
	}
	for n := range 256 {
		if n >= 4 {
			l = append(l, framed(n%16, uint8(n), 0, 1, "ab"), framed(n%16, uint8(n), 15, 1, ""))
		}
		if n >= 16 {
			l = append(l, framed(n%16, 0, uint8(n), 1, "ab"), framed(n%16, 3, uint8(n), 1, ""))
		}
	}
	for _, f := range l {
		if e := frame.Check(f); e != api.ErrFrame {
			t.Errorf("Check of %s: %d", show(f), e)
		}
		if b, e := frame.Put(f); len(b) != 0 || e != api.ErrFrame {
			t.Errorf("Put of %s: %x.., %d", show(f), b[:min(len(b), 40)], e)
		}
	}
}

func TestP6_1_NewMemory(t *testing.T) {
	for _, f := range few() {
		one, _ := frame.Put(f)
		other, _ := frame.Put(f)
		clear(other[:cap(other)])
		again, _ := frame.Put(f)
		if want := encoded(f); !bytes.Equal(one, want) || !bytes.Equal(again, want) {
			t.Errorf("results of Put of %s share memory", show(f))
		}
	}
}

func TestP6_2_Known(t *testing.T) {
	known := []api.Frame{{First: true, Last: true, Begin: true, End: true, Channel: 1, Payload: "ab"}}
	const b = "\x0f\x00\x00\x0e\x00\x00\x00\x01\x00\x00\x00\x00ab"
	checkScan(t, []byte(b+"\x0f\x00"), known, 14, api.OK)
	checkScan(t, []byte(b+"\x10"), known, 14, api.ErrFrame)
	checkScan(t, []byte("\x10"+b), nil, 0, api.ErrFrame)
	for _, s := range []string{"\x10", "\x0f\x04", "\x0f\x00\x00\x0b", "\x0f\x00\x10\x01", "\x0f\x00\x11", "\x0f\x00\x00\x0c\x01", "\x0f\x00\x00\x0c\x00\x10"} {
		checkBehind(t, []byte(s), api.ErrFrame)
	}
	for _, s := range []string{"", "\x0f", "\x0f\x00", "\x0f\x00\x10", "\x0f\x00\x10\x00", "\x0f\x00\x00", "\x0f\x00\x00\x0c"} {
		checkBehind(t, []byte(s), api.OK)
	}
	checkScan(t, nil, nil, 0, api.OK)
	checkScan(t, []byte{}, nil, 0, api.OK)
}

func TestP6_2_OneFrame(t *testing.T) {
	for _, f := range append(small(), edges()...) {
		b := encoded(f)
		checkScan(t, b, []api.Frame{f}, len(b), api.OK)
		checkScan(t, append(b, 15, 3, 15), []api.Frame{f}, len(b), api.OK)
		checkScan(t, append(b, 15, 3, 17), []api.Frame{f}, len(b), api.ErrFrame)
	}
}

func TestP6_2_SeveralFrames(t *testing.T) {
	for _, l := range [][]api.Frame{
		few(),
		edges(),
		slices.Repeat([]api.Frame{{}}, 3),
		slices.Repeat([]api.Frame{{}}, 1000),
		slices.Repeat([]api.Frame{framed(15, 3, 15, 65535, mixed(mostPayload))}, 2),
		slices.Repeat([]api.Frame{framed(15, 3, 15, 65535, mixed(mostPayload))}, 200),
		slices.Repeat([]api.Frame{framed(8, 0, 0, 0, strings.Repeat("\xff", mostPayload)), {}}, 10),
		append(small(), small()...),
	} {
		b := stream(l...)
		checkScan(t, b, l, len(b), api.OK)
		checkScan(t, append(b, 0), l, len(b), api.OK)
		checkScan(t, append(b, 16), l, len(b), api.ErrFrame)
		less := len(l) - 1
		checkScan(t, b[:len(b)-1], l[:less], len(stream(l[:less]...)), api.OK)
	}
}

func TestP6_2_Beginnings(t *testing.T) {
	for _, f := range few() {
		b := encoded(f)
		for n := range b {
			checkBehind(t, b[:n], api.OK)
		}
	}
	for _, f := range small() {
		b := encoded(f)
		for n := range b {
			checkScan(t, b[:n], nil, 0, api.OK)
		}
	}
	greatest := slices.Repeat([]api.Frame{framed(15, 3, 15, 65535, mixed(mostPayload))}, 3)
	b := stream(greatest...)
	for n := range b {
		whole := n / mostBytes
		checkScan(t, b[:n], greatest[:whole], whole*mostBytes, api.OK)
	}
}

// mayBe tells whether the byte of a header at that place may be c, where the bytes before it are right.
func mayBe(place int, before, c byte) bool {
	switch place {
	case 0, 5:
		return c <= 15
	case 1:
		return c <= 3
	case 2:
		return c <= 16
	case 3:
		return before == 0 && c >= 12 || before >= 1 && before <= 15 || before == 16 && c == 0
	case 6, 7:
		return true
	}
	return c == 0
}

// heads are headers of valid frames, at the edges of each byte.
func heads() [][]byte {
	var l [][]byte
	for _, f := range []api.Frame{
		framed(0, 0, 0, 0, ""),
		framed(15, 3, 15, 65535, ""),
		framed(6, 1, 1, 256, mixed(243)),
		framed(9, 2, 7, 255, mixed(244)),
		framed(0, 0, 0, 0, mixed(4083)),
		framed(15, 3, 15, 65535, mixed(mostPayload)),
	} {
		l = append(l, encoded(f)[:head])
	}
	return l
}

func TestP6_2_EachByte(t *testing.T) {
	for _, b := range heads() {
		for place := range b {
			before := append([]byte{0}, b...)[place]
			for c := range 256 {
				e := api.ErrFrame
				if mayBe(place, before, byte(c)) {
					e = api.OK
				}
				start := append(bytes.Clone(b[:place]), byte(c))
				if e != api.OK || place < head-1 {
					checkBehind(t, start, e)
				}
				if e != api.OK {
					checkBehind(t, append(start, b[place+1:]...), e)
					checkBehind(t, append(append(start, b[place+1:]...), mixed(mostBytes)...), e)
				}
			}
		}
	}
}

func TestP6_2_Lengths(t *testing.T) {
	rest := "\x00\x01\x00\x01\x00\x00\x00\x00" + mixed(mostPayload)
	for size := range 1 << 16 {
		e := api.OK
		if size < head || size > mostBytes {
			e = api.ErrFrame
		}
		start := []byte{15, 0, byte(size >> 8), byte(size)}
		checkScan(t, start, nil, 0, e)
		if size%256 == 0 {
			high := api.OK
			if size > mostBytes {
				high = api.ErrFrame
			}
			checkScan(t, start[:3], nil, 0, high)
		}
		if e != api.OK {
			checkScan(t, append(start, rest...), nil, 0, e)
			continue
		}
		b := append(start, rest...)
		want := []api.Frame{framed(15, 0, 1, 1, mixed(size-head))}
		checkScan(t, b[:size-1], nil, 0, api.OK)
		checkScan(t, b[:size], want, size, api.OK)
		checkScan(t, append(b[:size:size], 0), want, size, api.OK)
		checkScan(t, append(b[:size:size], 0xff), want, size, api.ErrFrame)
	}
}

// broken are beginnings of headers that end with a byte that may not stand there, for each place the least and the greatest such byte.
func broken() [][]byte {
	var l [][]byte
	for _, b := range heads() {
		for place := range b {
			before := append([]byte{0}, b...)[place]
			var wrong []byte
			for c := range 256 {
				if !mayBe(place, before, byte(c)) {
					wrong = append(wrong, byte(c))
				}
			}
			if len(wrong) > 0 {
				l = append(l, append(bytes.Clone(b[:place]), wrong[0]), append(bytes.Clone(b[:place]), wrong[len(wrong)-1]))
			}
		}
	}
	slices.SortFunc(l, bytes.Compare)
	return slices.CompactFunc(l, bytes.Equal)
}

func TestP6_2_WrongBehindFrames(t *testing.T) {
	for _, wrong := range broken() {
		for n := range len(few()) + 1 {
			l := few()[:n]
			b := stream(l...)
			checkScan(t, append(b, wrong[:len(wrong)-1]...), l, len(b), api.OK)
			checkScan(t, append(b, wrong...), l, len(b), api.ErrFrame)
			checkScan(t, append(append(b, wrong...), stream(few()...)...), l, len(b), api.ErrFrame)
		}
	}
}

// Wrong bytes that are in a payload are none of Scan's business, nor are frames there.
func TestP6_2_AnyPayload(t *testing.T) {
	for _, wrong := range broken() {
		l := []api.Frame{framed(10, 2, 1, 7, string(wrong)), framed(5, 3, 1, 7, string(wrong)+string(stream(few()[:2]...))), {}}
		b := stream(l...)
		checkScan(t, b, l, len(b), api.OK)
	}
	for c := range 256 {
		l := []api.Frame{framed(15, 0, 0, 1, string([]byte{byte(c)})), framed(0, 3, 15, 0, strings.Repeat(string([]byte{byte(c)}), 30))}
		b := stream(l...)
		checkScan(t, b, l, len(b), api.OK)
		checkScan(t, b[:len(b)-1], l[:1], head+1, api.OK)
	}
}

// Two bytes of two frames are changed at a time, to values at the edges of what some byte may be.
func TestP6_2_AsWorded(t *testing.T) {
	values := []byte{0, 1, 2, 3, 4, 8, 11, 12, 13, 15, 16, 17, 25, 26, 127, 128, 255}
	right := stream(framed(15, 0, 0, 1, "a"), framed(9, 3, 15, 256, "bc"))
	wrong := 0
	for one := range right {
		for other := range one {
			for _, c := range values {
				for _, d := range values {
					b := bytes.Clone(right)
					b[one], b[other] = c, d
					l, n, e := scanned(b)
					if e != api.OK {
						wrong++
					}
					checkScan(t, b, l, n, e)
				}
			}
		}
	}
	if wrong == 0 {
		t.Error("no change broke a frame")
	}
}

func TestP6_2_ShortStringsAsWorded(t *testing.T) {
	values := []byte{0, 3, 4, 11, 12, 15, 16, 17, 255}
	starts := [][]byte{nil}
	for range 5 {
		var longer [][]byte
		for _, b := range starts {
			l, n, e := scanned(b)
			checkScan(t, b, l, n, e)
			for _, c := range values {
				longer = append(longer, append(bytes.Clone(b), c))
			}
		}
		starts = longer
	}
}

// The memory after the argument holds another frame's end, which Scan must not see.
func TestP6_2_ArgumentsStay(t *testing.T) {
	l := few()
	whole := stream(l...)
	for n := range whole {
		size := 0
		for i, f := range l {
			next := size + head + len(f.Payload)
			if next > n {
				checkScan(t, whole[:n], l[:i], size, api.OK)
				break
			}
			size = next
		}
	}
}

func TestP6_2_NewMemory(t *testing.T) {
	l := few()
	b := stream(l...)
	one, _, _ := frame.Scan(b)
	other, _, _ := frame.Scan(b)
	clear(other[:cap(other)])
	clear(b)
	if !slices.Equal(one, l) {
		t.Errorf("a result shares memory with the argument or with another result: %s", show(one...))
	}
}

func TestP6_3_FramesAndABeginning(t *testing.T) {
	for count := range len(few()) + 1 {
		l := few()[:count]
		var b []byte
		for _, f := range l {
			put, _ := frame.Put(f)
			b = append(b, put...)
		}
		for _, f := range few() {
			next, _ := frame.Put(f)
			for n := range next {
				checkScan(t, append(b[:len(b):len(b)], next[:n]...), l, len(b), api.OK)
			}
		}
	}
}

// checkTaken asks whether the encodings of the frames that Scan returned are the bytes that it took.
func checkTaken(t *testing.T, b []byte) {
	t.Helper()
	l, n, _ := frame.Scan(b)
	var put []byte
	for _, f := range l {
		one, e := frame.Put(f)
		if e != api.OK {
			t.Errorf("Put of a frame that Scan returned, %s: %d", show(f), e)
		}
		put = append(put, one...)
	}
	if n < 0 || n > len(b) || !bytes.Equal(put, b[:n]) {
		t.Errorf("Scan of %x.. took %d bytes for %s", b[:min(len(b), 40)], n, show(l...))
	}
}

func TestP6_3_TakenBytes(t *testing.T) {
	l := append(few(), small()...)
	b := stream(l...)
	checkTaken(t, b)
	if _, n, _ := frame.Scan(b); n != len(b) {
		t.Errorf("Scan took %d bytes of %d", n, len(b))
	}
	for _, wrong := range broken() {
		checkTaken(t, wrong)
		checkTaken(t, append(stream(few()...), wrong...))
	}
	right := stream(framed(15, 0, 0, 1, "ab"), framed(9, 3, 15, 256, ""), framed(0, 1, 1, 65535, "\x00\x0c"))
	for place := range right {
		for c := range 256 {
			b := bytes.Clone(right)
			b[place] = byte(c)
			checkTaken(t, b)
			checkTaken(t, b[:place+1])
		}
	}
}

// fed is what is told of bytes that arrive in pieces of those lengths, in turn, each scanned together with what was left before it. Once ErrFrame is told, nothing else may be told.
func fed(t *testing.T, b []byte, pieces ...int) (l []api.Frame, taken int, e api.Errno) {
	t.Helper()
	var left []byte
	for i := 0; len(b) > 0; i++ {
		size := min(pieces[i%len(pieces)], len(b))
		left = append(left, b[:size]...)
		b = b[size:]
		more, n, now := frame.Scan(left)
		if e != api.OK && (now != e || n != 0 || len(more) > 0) {
			t.Errorf("behind %d: %s, %d, %d", e, show(more...), n, now)
		}
		l = append(l, more...)
		taken += n
		left = bytes.Clone(left[n:])
		e = now
	}
	return l, taken, e
}

// streams are bytes that arrive: right frames, with and without another one's beginning, and broken ones in front of, between and behind them.
func streams() [][]byte {
	short := []api.Frame{framed(15, 0, 0, 1, "ab"), {}, framed(8, 1, 1, 256, mixed(40)), framed(4, 2, 1, 255, "\xff")}
	right := stream(short...)
	l := [][]byte{right, right[:len(right)-1], right[:len(right)-12], stream(framed(3, 3, 1, 9, mixed(300)), api.Frame{})}
	for _, wrong := range broken() {
		l = append(l, wrong, append(bytes.Clone(wrong), right...))
		l = append(l, append(stream(short[:1]...), wrong...))
		l = append(l, append(append(stream(short[:3]...), wrong...), right...))
		l = append(l, append(stream(short...), wrong...))
	}
	return l
}

// checkPieces asks whether the same is told of bytes however they arrive: in pieces of the lengths of each of those lists, in turn.
func checkPieces(t *testing.T, b []byte, lists ...[]int) {
	t.Helper()
	want, size, e := scanned(b)
	checkScan(t, b, want, size, e)
	for _, pieces := range lists {
		l, n, gotE := fed(t, b, pieces...)
		if !slices.Equal(l, want) || n != size || gotE != e {
			t.Errorf("%d bytes, %x.., in pieces of %v: %s, %d, %d; not %s, %d, %d", len(b), b[:min(len(b), 40)], pieces, show(l...), n, gotE, show(want...), size, e)
		}
	}
}

func TestP6_4_PiecesOfEachLength(t *testing.T) {
	for _, b := range streams() {
		var lists [][]int
		for size := range b {
			lists = append(lists, []int{size + 1})
		}
		checkPieces(t, b, lists...)
	}
}

func TestP6_4_MixedPieces(t *testing.T) {
	for _, b := range streams() {
		lists := [][]int{{1, 2}, {1, 13}, {12, 1}, {11, 2}, {3, 1, 4, 1, 5, 9}, {26, 1, 1}}
		for cut := range b {
			lists = append(lists, []int{cut + 1, len(b)})
		}
		checkPieces(t, b, lists...)
	}
}

func TestP6_4_GreatestFrames(t *testing.T) {
	l := []api.Frame{framed(10, 0, 1, 1, mixed(mostPayload)), framed(5, 3, 15, 65535, mixed(mostPayload)), framed(0, 1, 0, 0, mixed(mostPayload-1)), {}}
	right := stream(l...)
	wrong := append(stream(l...), "\x0f\x00\x10\x01"...)
	var lists [][]int
	for _, size := range []int{1, 2, 3, 11, 12, 13, 255, 256, 1000, 4083, 4084, 4085, 4095, 4096, 4097, 8191, 8192, 8193, 12287, 12288, 20000} {
		lists = append(lists, []int{size})
	}
	for _, b := range [][]byte{right, right[:len(right)-1], wrong, append(wrong, right...)} {
		checkPieces(t, b, lists...)
	}
}
