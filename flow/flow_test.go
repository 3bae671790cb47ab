package flow

import (
	"bytes"
	"fmt"
	"math"
	"math/big"
	"reflect"
	"slices"
	"strings"
	"testing"

	"annulet/api"
	"annulet/codec"
)

// modes are the three, by the words of chapter 14.
var modes = []int{1, 2, 3}

// run is count times the byte c, followed by the bytes of tail.
func run(count int, c byte, tail ...byte) []byte {
	return append(bytes.Repeat([]byte{c}, count), tail...)
}

// show keeps what a failed test prints short.
func show(v any) string {
	s := fmt.Sprintf("%+v", v)
	if len(s) > 300 {
		return s[:300] + " and more"
	}
	return s
}

// length follows the words of 1.1 with numbers of any size.
func length(n uint64) []byte {
	var b []byte
	rest := new(big.Int).SetUint64(n)
	group := new(big.Int)
	for {
		rest.DivMod(rest, big.NewInt(128), group)
		if rest.Sign() == 0 {
			return append(b, byte(group.Int64()))
		}
		b = append(b, byte(group.Int64()+128))
	}
}

// framed follows the words of 15.1 for all bodies, one frame after the other.
func framed(bodies ...[]byte) []byte {
	var b []byte
	for _, body := range bodies {
		b = slices.Concat(b, length(uint64(len(body))), body)
	}
	return b
}

// streamOf is the messages in a mode, each in a frame.
func streamOf(mode int, l ...api.Msg) []byte {
	var b []byte
	for _, m := range l {
		b = append(b, framed(encoded(mode, m))...)
	}
	return b
}

// encoded is the encoding of a valid message.
func encoded(mode int, m api.Msg) []byte {
	b, err := codec.Enc(mode, m)
	if err != api.OK {
		panic(fmt.Sprintf("%+v is refused in the mode %d with %d", m, mode, err))
	}
	return b
}

// getUvar follows the words of 1.2, check by check.
func getUvar(b []byte) (*big.Int, int, api.Errno) {
	last := slices.IndexFunc(b, func(c byte) bool { return c < 128 })
	if len(b) >= 10 && (last < 0 || last >= 10) {
		return nil, 0, api.ErrForm
	}
	if last < 0 {
		return nil, 0, api.ErrShort
	}
	n := new(big.Int)
	for i := last; i >= 0; i-- {
		n.Mul(n, big.NewInt(128))
		n.Add(n, big.NewInt(int64(b[i]%128)))
	}
	if n.BitLen() > 64 || last > 0 && b[last] == 0 {
		return nil, 0, api.ErrForm
	}
	return n, last + 1, api.OK
}

// nextByWords follows the words of 15.2 with numbers of any size; it returns where the body begins and ends.
func nextByWords(b []byte, most int) (int, int, api.Errno) {
	n, size, err := getUvar(b)
	if err != api.OK {
		return 0, 0, err
	}
	if n.Cmp(big.NewInt(int64(most))) > 0 {
		return 0, 0, api.ErrLong
	}
	if n.Cmp(big.NewInt(int64(len(b)-size))) > 0 {
		return 0, 0, api.ErrShort
	}
	return size, size + int(n.Int64()), api.OK
}

// state is what a decoder has told of the first bytes of a stream: so many messages and an error, and how many bytes it holds.
type state struct {
	count int
	err   api.Errno
	held  int
}

// story is what a decoder tells of a stream: all messages, and the states behind none, one and so on of its bytes.
type story struct {
	msgs   []api.Msg
	states []state
}

// tell follows the words of 16.2, as if each byte was a piece.
func tell(mode, most int, stream []byte) story {
	s := story{states: []state{{}}}
	var now state
	start := 0
	for end := 1; end <= len(stream); end++ {
		if now.err == api.OK {
			from, to, err := nextByWords(stream[start:end], most)
			now.held = end - start
			if err == api.OK {
				var m api.Msg
				m, err = codec.Dec(mode, stream[start+from:start+to])
				if err == api.OK {
					s.msgs = append(s.msgs, m)
					now.count, now.held, start = now.count+1, 0, end
				} else {
					now.err, now.held = err, 0
				}
			} else if err != api.ErrShort {
				now.err, now.held = err, 0
			}
		}
		s.states = append(s.states, now)
	}
	return s
}

// same tells whether both are the same row of messages; an empty slice is equal to none (R3).
func same(a, b []api.Msg) bool {
	return slices.EqualFunc(a, b, func(x, y api.Msg) bool {
		for _, m := range []*api.Msg{&x, &y} {
			if len(m.Peers) == 0 {
				m.Peers = nil
			}
			if len(m.Pairs) == 0 {
				m.Pairs = nil
			}
		}
		return reflect.DeepEqual(x, y)
	})
}

// opened is a new decoder.
func opened(t *testing.T, mode, most int) *Flow {
	t.Helper()
	f, err := New(mode, most)
	if f == nil || err != api.OK {
		t.Fatalf("New(%d, %d) = %v, %d", mode, most, f, err)
	}
	return f
}

// expect holds what the decoder answers to an error and a number of bytes, more than once, as asking changes nothing.
func expect(t *testing.T, f *Flow, err api.Errno, held int) {
	t.Helper()
	for range 2 {
		if f.Err() != err || f.Held() != held {
			t.Fatalf("the error is %d, and %d bytes are held, want %d and %d", f.Err(), f.Held(), err, held)
		}
	}
}

// push pushes a piece, holds the messages to those that are wanted, and the piece to what it was (R4).
func push(t *testing.T, f *Flow, piece []byte, want ...api.Msg) {
	t.Helper()
	kept := slices.Clone(piece)
	got := f.Push(piece)
	if !same(got, want) {
		t.Fatalf("Push(%s) = %s, want %s", show(kept), show(got), show(want))
	}
	if !bytes.Equal(piece, kept) {
		t.Fatalf("Push(%s) changed the piece to %s", show(kept), show(piece))
	}
}

// checkCut holds a decoder to the story, with a stream that is divided behind so many bytes, in increasing order; the pieces are written over, as the caller may.
func checkCut(t *testing.T, mode, most int, stream []byte, s story, cuts ...int) {
	t.Helper()
	f := opened(t, mode, most)
	from := 0
	for _, to := range append(slices.Clone(cuts), len(stream)) {
		piece := slices.Clone(stream[from:to])
		got := f.Push(piece)
		before, now := s.states[from], s.states[to]
		if want := s.msgs[before.count:now.count]; !same(got, want) {
			t.Fatalf("mode %d, most %d: of %s, divided at %s, Push of the bytes %d to %d = %s, want %s", mode, most, show(stream), show(cuts), from, to, show(got), show(want))
		}
		if f.Err() != now.err || f.Held() != now.held {
			t.Fatalf("mode %d, most %d: of %s, divided at %s, the error behind %d bytes is %d, and %d are held, want %d and %d", mode, most, show(stream), show(cuts), to, f.Err(), f.Held(), now.err, now.held)
		}
		for i := range piece {
			piece[i] = 77
		}
		from = to
	}
}

// everyByte are the places where a stream is divided into single bytes.
func everyByte(stream []byte) []int {
	var cuts []int
	for i := range len(stream) {
		cuts = append(cuts, i)
	}
	return cuts
}

// checkStream holds the decoder to the words for a stream as a whole, byte by byte, and divided at each place; it returns the story.
func checkStream(t *testing.T, mode, most int, stream []byte) story {
	t.Helper()
	s := tell(mode, most, stream)
	checkCut(t, mode, most, stream, s)
	checkCut(t, mode, most, stream, s, everyByte(stream)...)
	for i := range len(stream) + 1 {
		checkCut(t, mode, most, stream, s, i)
	}
	return s
}

// mix is a row of numbers without any plain order, the same ones each time.
type mix uint64

func (m *mix) below(n int) int {
	x := uint64(*m)
	x ^= x << 13
	x ^= x >> 7
	x ^= x << 17
	*m = mix(x)
	return int((x >> 20) % uint64(n))
}

// ping is a short message.
func ping(rid uint32) api.Msg {
	return api.Msg{Kind: api.KPing, Rid: rid}
}

// someMsgs are messages of all kinds, among them those with all fields zero.
func someMsgs() []api.Msg {
	peer := api.Peer{ID: math.MaxUint64 - 5, Addr: 300}
	return []api.Msg{
		ping(0), ping(7), {Kind: api.KAsk, Rid: math.MaxUint32}, {Kind: api.KOkay, Rid: 300},
		{Kind: api.KFind, Rid: 1, ID: 5}, {Kind: api.KFind},
		{Kind: api.KHop, Rid: 2, Has: true, Peers: []api.Peer{peer, {ID: 1}}},
		{Kind: api.KTell}, {Kind: api.KTell, Has: true, Peer: peer, Peers: []api.Peer{{}, peer}},
		{Kind: api.KNote, Peer: peer}, {Kind: api.KPut, Key: "k\u00e9", Val: "\x00\xff"},
		{Kind: api.KGet, Key: "key"}, {Kind: api.KGot}, {Kind: api.KGot, Has: true, Val: strings.Repeat("v", 200)},
		{Kind: api.KMove, Rid: 9, Has: true, Pairs: []api.Pair{{Key: "a"}, {Key: "b", Val: "w"}}},
		{Kind: api.KNay, Code: 255},
	}
}

// longest is a message whose encoding is the longest one of its mode (14.4).
func longest() api.Msg {
	m := api.Msg{Kind: api.KMove, Rid: math.MaxUint32, Has: true}
	for i := range api.MaxPairs {
		key := strings.Repeat("\U0001F600", 23) + string(rune('a'+i)) + strings.Repeat("\u0800", 1)
		m.Pairs = append(m.Pairs, api.Pair{Key: key, Val: strings.Repeat("v", api.MaxVal)})
	}
	return m
}

// 16.1: each mode with each most from 1 to 2^20, with an error of no other kind and no bytes.
func TestNew(t *testing.T) {
	for _, mode := range modes {
		for _, most := range []int{1, 2, 3, 100, 127, 128, 4973, 65535, 65536, 1<<20 - 1, 1 << 20} {
			f := opened(t, mode, most)
			expect(t, f, api.OK, 0)
			if other := opened(t, mode, most); f == other {
				t.Fatalf("New(%d, %d) returns the same decoder twice", mode, most)
			}
		}
	}
}

// 16.1, R2, R6: modes that are unknown, and a most that is out of bounds, alone and both, some of which would do if a part of their bits was lost or their sign.
func TestNewRefuses(t *testing.T) {
	unknown := []int{0, 4, 5, -1, -2, -3, 255, 256 + 1, 1<<16 + 2, 1<<32 + 3, math.MinInt, math.MinInt + 1, math.MaxInt}
	out := []int{0, -1, -100, 1<<20 + 1, 1 << 21, -1 << 20, math.MaxInt32, 1 << 32, 1<<32 + 1, 1<<32 + 100, math.MinInt, math.MinInt + 1, math.MaxInt - 1, math.MaxInt}
	refuse := func(mode, most int) {
		t.Helper()
		if f, err := New(mode, most); f != nil || err != api.ErrArg {
			t.Errorf("New(%d, %d) = %v, %d, want the error %d", mode, most, f, err, api.ErrArg)
		}
	}
	for _, mode := range unknown {
		for _, most := range append([]int{1, 100, 1 << 20}, out...) {
			refuse(mode, most)
		}
	}
	for _, mode := range modes {
		for _, most := range out {
			refuse(mode, most)
		}
	}
}

// 16.2: the chapter's example, and a length that is too great behind it.
func TestExample(t *testing.T) {
	f := opened(t, api.Tagged, 100)
	push(t, f, []byte{1})
	expect(t, f, api.OK, 1)
	push(t, f, []byte{11}, ping(0))
	expect(t, f, api.OK, 0)
	push(t, f, []byte{101, 1})
	expect(t, f, api.ErrLong, 0)
	push(t, f, []byte{1, 11})
	expect(t, f, api.ErrLong, 0)
}

// 16.2: streams that are written out here, in each mode, with the messages of each piece.
func TestWrittenOut(t *testing.T) {
	for _, c := range []struct {
		mode   int
		pieces []string
		counts []int
		held   []int
	}{
		{1, []string{"\x05\x0b\x00\x00\x00\x07"}, []int{1}, []int{0}},
		{1, []string{"\x05\x0b\x00", "\x00\x00", "\x07\x05\x0b\x00\x00\x00", "\x07"}, []int{0, 0, 1, 1}, []int{3, 5, 5, 0}},
		{1, []string{"\x05\x0b\x00\x00\x00\x07\x05\x0b\x00\x00\x00\x07\x05"}, []int{2}, []int{1}},
		{2, []string{"\x03\x0b\x01\x07"}, []int{1}, []int{0}},
		{2, []string{"", "\x03", "", "\x0b", "\x01", "", "\x07", ""}, []int{0, 0, 0, 0, 0, 0, 1, 0}, []int{0, 1, 1, 2, 3, 3, 0, 0}},
		{2, []string{"\x03\x0b\x01\x07\x03\x0b\x01\x07\x03\x0b\x01", "\x07\x03\x0b"}, []int{2, 1}, []int{3, 2}},
		{3, []string{"\x11d1:q4:ping1:ri7ee"}, []int{1}, []int{0}},
		{3, []string{"\x11d1:q4:pi", "ng1:ri7ee\x11d1:q4:ping1:ri7e", "e\x11"}, []int{0, 1, 1}, []int{9, 17, 1}},
	} {
		f := opened(t, c.mode, 20)
		for i, piece := range c.pieces {
			push(t, f, []byte(piece), slices.Repeat([]api.Msg{ping(7)}, c.counts[i])...)
			expect(t, f, api.OK, c.held[i])
		}
	}
}

// 16.2, 16.4: a stream of messages of all kinds, some of whose lengths take two bytes, divided at each place, in two and in three pieces and into bytes.
func TestStreamsOfMessages(t *testing.T) {
	for _, mode := range modes {
		l := someMsgs()
		stream := streamOf(mode, l...)
		s := checkStream(t, mode, 400, stream)
		if !same(s.msgs, l) || s.states[len(stream)] != (state{count: len(l)}) {
			t.Fatalf("mode %d: the words tell %s of the messages %s", mode, show(s.msgs), show(l))
		}
		for size := 1; size <= len(stream); size++ {
			var cuts []int
			for at := size; at < len(stream); at += size {
				cuts = append(cuts, at)
			}
			checkCut(t, mode, 400, stream, s, cuts...)
		}
		few := streamOf(mode, ping(1), l[6], ping(300))
		s = tell(mode, 400, few)
		for i := range len(few) + 1 {
			for j := i; j <= len(few); j++ {
				checkCut(t, mode, 400, few, s, i, j)
			}
		}
	}
}

// 16.2, R3: pieces without bytes change nothing, ahead of the first byte, within a frame, behind it, and behind an error.
func TestEmptyPieces(t *testing.T) {
	for _, empty := range [][]byte{nil, {}} {
		for _, mode := range modes {
			f := opened(t, mode, 100)
			stream := streamOf(mode, ping(3))
			push(t, f, empty)
			expect(t, f, api.OK, 0)
			for i, c := range stream[:len(stream)-1] {
				push(t, f, []byte{c})
				push(t, f, empty)
				expect(t, f, api.OK, i+1)
			}
			push(t, f, stream[len(stream)-1:], ping(3))
			push(t, f, empty)
			expect(t, f, api.OK, 0)
			push(t, f, []byte{101})
			push(t, f, empty)
			expect(t, f, api.ErrLong, 0)
		}
	}
}

// 16.1, 16.2, 16.4: bodies of most bytes and one less are taken; the length of one more is ErrLong, with the last byte of the length.
func TestMost(t *testing.T) {
	for _, mode := range modes {
		for _, m := range append(someMsgs(), longest()) {
			body := encoded(mode, m)
			stream := framed(body)
			for _, most := range []int{len(body), len(body) + 1, 1 << 20} {
				f := opened(t, mode, most)
				push(t, f, stream, m)
				expect(t, f, api.OK, 0)
			}
			if len(body) == 1 {
				continue
			}
			f := opened(t, mode, len(body)-1)
			size := len(stream) - len(body)
			for i, c := range stream[:size-1] {
				push(t, f, []byte{c})
				expect(t, f, api.OK, i+1)
			}
			push(t, f, stream[size-1:size])
			expect(t, f, api.ErrLong, 0)
			push(t, f, stream[size:])
			push(t, f, stream)
			expect(t, f, api.ErrLong, 0)
		}
	}
	f := opened(t, api.Tagged, 1)
	push(t, f, []byte{1, 11, 1, 3, 1}, ping(0), api.Msg{Kind: api.KAsk})
	expect(t, f, api.OK, 1)
	push(t, f, []byte{11, 2}, ping(0))
	expect(t, f, api.ErrLong, 0)
}

// lengths are first bytes of a frame that frame's Next refuses with most = 100, with its error; fewer of them are not refused.
var lengths = []struct {
	name string
	b    []byte
	want api.Errno
}{
	{"most and 1", []byte{101}, api.ErrLong},
	{"127", []byte{127}, api.ErrLong},
	{"128", []byte{128, 1}, api.ErrLong},
	{"300", []byte{172, 2}, api.ErrLong},
	{"16384", []byte{128, 128, 1}, api.ErrLong},
	{"2^20", []byte{128, 128, 64}, api.ErrLong},
	{"2^31", []byte{128, 128, 128, 128, 8}, api.ErrLong},
	{"2^32", []byte{128, 128, 128, 128, 16}, api.ErrLong},
	{"2^32 and 1", []byte{129, 128, 128, 128, 16}, api.ErrLong},
	{"2^63 - 1", run(8, 255, 127), api.ErrLong},
	{"2^63", run(9, 128, 1), api.ErrLong},
	{"2^64 - 1", run(9, 255, 1), api.ErrLong},
	{"2^64", run(9, 128, 2), api.ErrForm},
	{"2^65 - 1", run(9, 255, 3), api.ErrForm},
	{"ten bytes without an end", run(10, 128), api.ErrForm},
	{"ten full bytes without an end", run(10, 255), api.ErrForm},
	{"0 in two bytes", []byte{128, 0}, api.ErrForm},
	{"1 in two bytes", []byte{129, 0}, api.ErrForm},
	{"127 in two bytes", []byte{255, 0}, api.ErrForm},
	{"300 in three bytes", []byte{172, 130, 0}, api.ErrForm},
	{"0 in ten bytes", run(9, 128, 0), api.ErrForm},
}

// 16.2, 16.4: what Next refuses is recorded with the last byte that determines it, behind none, one and several messages, whatever follows.
func TestRefusedLengths(t *testing.T) {
	for _, mode := range modes {
		for _, front := range [][]api.Msg{nil, {ping(1)}, {ping(1), {Kind: api.KAsk}, ping(0)}} {
			good := streamOf(mode, front...)
			for _, c := range lengths {
				f := opened(t, mode, 100)
				push(t, f, slices.Concat(good, c.b[:len(c.b)-1]), front...)
				expect(t, f, api.OK, len(c.b)-1)
				push(t, f, c.b[len(c.b)-1:])
				expect(t, f, c.want, 0)
				for _, tail := range [][]byte{nil, {0}, {1, 11}, run(300, 0), streamOf(mode, ping(1), ping(2))} {
					stream := slices.Concat(good, c.b, tail)
					f := opened(t, mode, 100)
					push(t, f, stream, front...)
					expect(t, f, c.want, 0)
					if s := checkStream(t, mode, 100, stream); s.states[len(stream)] != (state{len(front), c.want, 0}) {
						t.Fatalf("%s: the words tell %+v", c.name, s.states[len(stream)])
					}
				}
			}
		}
	}
}

// bodies are such as are no encodings, with the error of codec's Dec.
var bodies = []struct {
	mode int
	body string
	want api.Errno
}{
	{1, "", api.ErrShort},
	{1, "\x0b", api.ErrShort},
	{1, "\x0b\x00\x00\x00", api.ErrShort},
	{1, "\x0b\x00\x00\x00\x07\x00", api.ErrMore},
	{1, "\x00\x00\x00\x00\x07", api.ErrKind},
	{1, "\x0d\x00\x00\x00\x07", api.ErrKind},
	{1, "\x0a\x00\x00\x00\x07\x02\x00", api.ErrForm},
	{2, "", api.ErrShort},
	{2, "\x0b\x01", api.ErrShort},
	{2, "\x0b\x01\x80", api.ErrShort},
	{2, "\x00", api.ErrKind},
	{2, "\x0b\x01\x00", api.ErrForm},
	{2, "\x0b\x01\x80\x00", api.ErrForm},
	{3, "", api.ErrShort},
	{3, "d1:q4:ping1:ri7e", api.ErrShort},
	{3, "d1:q4:ping1:ri7ee0", api.ErrMore},
	{3, "i-0e", api.ErrForm},
	{3, "de", api.ErrKind},
	{3, "llllllllllllllllleeeeeeeeeeeeeeeee", api.ErrDeep},
}

// 16.2, 16.4: a body that is no encoding is refused with its last byte, also with ErrShort, of which frames make nothing; the messages ahead of it are returned, none behind it.
func TestRefusedBodies(t *testing.T) {
	for _, c := range bodies {
		if _, err := codec.Dec(c.mode, []byte(c.body)); err != c.want {
			t.Errorf("mode %d: Dec(%q) has the error %d, want %d", c.mode, c.body, err, c.want)
		}
		for _, front := range [][]api.Msg{nil, {ping(1)}, {ping(1), {Kind: api.KAsk}, ping(0)}} {
			bad := framed([]byte(c.body))
			f := opened(t, c.mode, 100)
			push(t, f, streamOf(c.mode, front...), front...)
			for i, b := range bad[:len(bad)-1] {
				push(t, f, []byte{b})
				expect(t, f, api.OK, i+1)
			}
			push(t, f, bad[len(bad)-1:])
			expect(t, f, c.want, 0)
			for _, tail := range [][]byte{nil, {0}, {3}, {101}, {128, 0}, streamOf(c.mode, ping(1), ping(2))} {
				stream := slices.Concat(streamOf(c.mode, front...), bad, tail)
				f := opened(t, c.mode, 100)
				push(t, f, stream, front...)
				expect(t, f, c.want, 0)
				if s := checkStream(t, c.mode, 100, stream); s.states[len(stream)] != (state{len(front), c.want, 0}) {
					t.Fatalf("%d, %q: the words tell %+v", c.mode, c.body, s.states[len(stream)])
				}
			}
		}
	}
}

// 16.2: what another mode makes of a message is refused with the error of Dec, unless it is a message here too.
func TestOtherModes(t *testing.T) {
	for _, mode := range modes {
		for _, other := range modes {
			for _, m := range someMsgs() {
				stream := streamOf(other, ping(1), m, ping(2))
				s := checkStream(t, mode, 400, stream)
				if mode != other && s.states[len(stream)].err == api.OK {
					t.Errorf("what the mode %d makes of %s is read in the mode %d", other, show(m), mode)
				}
			}
		}
	}
}

// 16.2, 16.3: behind an error nothing is returned, nothing is held, and the first error stays, whatever is pushed.
func TestErrorStays(t *testing.T) {
	for _, mode := range modes {
		for _, c := range []struct {
			bad  []byte
			want api.Errno
		}{{[]byte{101}, api.ErrLong}, {[]byte{128, 0}, api.ErrForm}, {[]byte{0}, api.ErrShort}} {
			f := opened(t, mode, 100)
			push(t, f, slices.Concat(streamOf(mode, ping(1)), c.bad, streamOf(mode, ping(2))), ping(1))
			for _, piece := range [][]byte{nil, {0}, {101}, {128}, {0}, {5}, run(1000, 1), streamOf(mode, ping(3))} {
				expect(t, f, c.want, 0)
				push(t, f, piece)
			}
			expect(t, f, c.want, 0)
		}
	}
}

// 16.3, R1: a nil decoder, and those that New did not create, however often they are pushed to.
func TestNotCreated(t *testing.T) {
	pieces := [][]byte{nil, {}, {128}, run(9, 255), {1}, {11}, {1, 11}, {0}, {101}, {128, 0}, run(300, 1)}
	for first := range pieces {
		var declared Flow
		for _, f := range []*Flow{nil, {}, new(Flow), &declared} {
			expect(t, f, api.ErrState, 0)
			for _, piece := range slices.Concat(pieces[first:], pieces) {
				push(t, f, piece)
				expect(t, f, api.ErrState, 0)
			}
		}
	}
	if f, _ := New(0, 100); f.Err() != api.ErrState || f.Held() != 0 || len(f.Push([]byte{1, 11})) != 0 {
		t.Errorf("what a refused New returns is a decoder")
	}
}

// rows gives the function all rows of the bytes that matter, of up to so many bytes behind those in front.
func rows(front []byte, more int, give func(b []byte)) {
	give(front)
	if more == 0 {
		return
	}
	for _, c := range []byte{0, 1, 2, 3, 11, 128, 255} {
		rows(append(slices.Clone(front), c), more-1, give)
	}
}

// 16.2 to 16.4, R1: all rows of the bytes that matter, as a whole, byte by byte and divided at each place.
func TestShortRowsFollowWords(t *testing.T) {
	for _, most := range []int{1, 2, 3, 100} {
		rows(nil, 5, func(b []byte) { checkStream(t, api.Tagged, most, b) })
		rows(nil, 3, func(b []byte) {
			checkStream(t, api.Fixed, most, b)
			checkStream(t, api.Bencode, most, b)
		})
	}
	for _, mode := range modes {
		for c := range 256 {
			for d := range 256 {
				checkStream(t, mode, 100, []byte{byte(c), byte(d)})
			}
		}
	}
}

// 16.2 to 16.4, R1: long streams, some of which have bytes that are wrong or missing, divided at random.
func TestLongRowsFollowWords(t *testing.T) {
	m := mix(88172645463325252)
	l := someMsgs()
	ended := map[api.Errno]int{}
	for range 6000 {
		mode := modes[m.below(3)]
		most := []int{5, 20, 127, 128, 400, 1 << 20}[m.below(6)]
		var stream []byte
		for range m.below(12) {
			stream = append(stream, streamOf(mode, l[m.below(len(l))])...)
		}
		for range m.below(3) {
			if len(stream) > 0 {
				stream[m.below(len(stream))] = []byte{0, 1, 11, 97, 128, byte(m.below(256))}[m.below(6)]
			}
		}
		stream = stream[:len(stream)-m.below(len(stream)+1)*m.below(2)]
		s := tell(mode, most, stream)
		ended[s.states[len(stream)].err]++
		for range 4 {
			var cuts []int
			for range m.below(10) {
				cuts = append(cuts, m.below(len(stream)+1))
			}
			slices.Sort(cuts)
			checkCut(t, mode, most, stream, s, cuts...)
		}
		checkCut(t, mode, most, stream, s)
		checkCut(t, mode, most, stream, s, everyByte(stream)...)
	}
	for _, err := range []api.Errno{api.OK, api.ErrShort, api.ErrForm, api.ErrMore, api.ErrLong, api.ErrKind} {
		if ended[err] < 20 {
			t.Errorf("only %d streams ended with %d", ended[err], err)
		}
	}
}

// 16.4: an error is not recorded ahead of the last byte that determines it: another last byte brings no error or another one.
func TestErrorsAreNotEarly(t *testing.T) {
	for _, c := range []struct {
		first  []byte
		follow []byte
		want   []api.Errno
	}{
		{nil, []byte{100, 101}, []api.Errno{api.OK, api.ErrLong}},
		{[]byte{255}, []byte{0, 1}, []api.Errno{api.ErrForm, api.ErrLong}},
		{[]byte{255, 255}, []byte{0, 1}, []api.Errno{api.ErrForm, api.ErrLong}},
		{run(9, 255), []byte{0, 1, 2}, []api.Errno{api.ErrForm, api.ErrLong, api.ErrForm}},
		{[]byte{1}, []byte{11, 0}, []api.Errno{api.OK, api.ErrKind}},
		{[]byte{3, 11, 1}, []byte{7, 0, 128}, []api.Errno{api.OK, api.ErrForm, api.ErrShort}},
	} {
		for i, last := range c.follow {
			f := opened(t, api.Tagged, 100)
			push(t, f, c.first)
			expect(t, f, api.OK, len(c.first))
			f.Push([]byte{last})
			if f.Err() != c.want[i] {
				t.Errorf("the error of %v and %d is %d, want %d", c.first, last, f.Err(), c.want[i])
			}
		}
	}
}

// 16.2: an incomplete frame is held whatever its body begins with, as Next returns ErrShort for it.
func TestIncompleteFramesAreHeld(t *testing.T) {
	for _, mode := range modes {
		for _, c := range []byte{0, 13, 'x', 128, 255} {
			bad := append([]byte{100}, run(100, c)...)
			f := opened(t, mode, 100)
			push(t, f, bad[:len(bad)-1])
			expect(t, f, api.OK, len(bad)-1)
			f.Push(bad[len(bad)-1:])
			if f.Err() == api.OK || f.Held() != 0 {
				t.Errorf("mode %d: the error of %s is %d, and %d bytes are held", mode, show(bad), f.Err(), f.Held())
			}
		}
	}
}

// spoil writes over a row of messages, also behind its end, and over what they hold.
func spoil(l []api.Msg) {
	l = l[:cap(l)]
	for i := range l {
		peers, pairs := l[i].Peers, l[i].Pairs
		for k := range peers[:cap(peers)] {
			peers[:cap(peers)][k] = api.Peer{ID: 9, Addr: 9}
		}
		for k := range pairs[:cap(pairs)] {
			pairs[:cap(pairs)][k] = api.Pair{Key: "x", Val: "x"}
		}
		l[i] = api.Msg{Kind: 99}
	}
}

// 16.2, R4: the messages are new memory: neither a later piece, nor what is done with the pieces or with other messages, changes them.
func TestMessagesAreNewMemory(t *testing.T) {
	for _, mode := range modes {
		l := someMsgs()
		stream := streamOf(mode, l...)
		for size := 1; size < len(stream)+50; size += 7 {
			f := opened(t, mode, 400)
			var got []api.Msg
			for at := 0; at < len(stream); at += size {
				piece := slices.Clone(stream[at:min(at+size, len(stream))])
				here := f.Push(piece)
				got = append(got, here...)
				for i := range piece {
					piece[i] = 77
				}
				clear(here[:cap(here)])
			}
			if !same(got, l) {
				t.Fatalf("mode %d: in pieces of %d bytes the messages change behind the call", mode, size)
			}
			more := f.Push(stream)
			spoil(more)
			if !same(got, l) || !same(f.Push(stream), someMsgs()) {
				t.Fatalf("mode %d: in pieces of %d bytes the messages share memory", mode, size)
			}
		}
	}
}

// 16.2, R4: the bytes behind a piece, in its spare capacity, are neither read nor changed.
func TestSpareBytesAreLeft(t *testing.T) {
	for _, mode := range modes {
		stream := streamOf(mode, ping(1), ping(300), ping(2))
		kept := slices.Clone(stream)
		s := tell(mode, 100, stream)
		for i := range len(stream) + 1 {
			for j := i; j <= len(stream); j++ {
				f := opened(t, mode, 100)
				got := slices.Concat(f.Push(stream[:i]), f.Push(stream[i:j]))
				if !same(got, s.msgs[:s.states[j].count]) || !bytes.Equal(stream, kept) {
					t.Fatalf("mode %d: divided at %d and %d, the bytes behind are read or changed", mode, i, j)
				}
				expect(t, f, api.OK, s.states[j].held)
			}
		}
	}
}

// R5: decoders that are pushed to by turns have nothing to do with each other.
func TestDecodersByTurns(t *testing.T) {
	var flows []*Flow
	var streams [][]byte
	var stories []story
	for i, mode := range append(slices.Clone(modes), modes...) {
		stream := streamOf(mode, someMsgs()[i:]...)
		if i == 4 {
			stream[30] ^= 255
		}
		flows, streams = append(flows, opened(t, mode, 400)), append(streams, stream)
		stories = append(stories, tell(mode, 400, stream))
	}
	for at := range 2000 {
		for i, f := range flows {
			if at >= len(streams[i]) {
				continue
			}
			before, now := stories[i].states[at], stories[i].states[at+1]
			push(t, f, streams[i][at:at+1], stories[i].msgs[before.count:now.count]...)
			expect(t, f, now.err, now.held)
		}
	}
}

// 16.1, 16.2, R1: a body of 2^20 bytes is held byte by byte, in little time, and refused with the last one; one byte more is refused ahead of its body.
func TestGreatFrames(t *testing.T) {
	for _, mode := range modes {
		size := length(1 << 20)
		f := opened(t, mode, 1<<20)
		push(t, f, size)
		byBytes := run(1, 'd')
		for i := range 1<<20 - 1 {
			if l := f.Push(byBytes); len(l) != 0 || f.Held() != len(size)+i+1 || f.Err() != api.OK {
				t.Fatalf("mode %d: behind %d bytes of the body there are %d messages, the error is %d, and %d bytes are held", mode, i+1, len(l), f.Err(), f.Held())
			}
		}
		_, want := codec.Dec(mode, run(1<<20, 'd'))
		push(t, f, byBytes)
		if want == api.OK {
			t.Fatalf("mode %d: a great body is a message", mode)
		}
		expect(t, f, want, 0)
		f = opened(t, mode, 1<<20)
		push(t, f, length(1<<20+1))
		expect(t, f, api.ErrLong, 0)
	}
}

// 16.2, 16.4, R1: many messages as a whole, byte by byte, and in pieces that end within a frame.
func TestManyMessages(t *testing.T) {
	const count = 1 << 14
	for _, mode := range modes {
		stream := bytes.Repeat(streamOf(mode, ping(7), ping(0)), count/2)
		for _, size := range []int{1, 4, 5, 6, 1000, len(stream)} {
			f := opened(t, mode, 100)
			got := 0
			for at := 0; at < len(stream); at += size {
				for _, m := range f.Push(stream[at:min(at+size, len(stream))]) {
					if want := ping(uint32(7 - 7*(got%2))); !same([]api.Msg{m}, []api.Msg{want}) {
						t.Fatalf("mode %d: message %d is %s", mode, got, show(m))
					}
					got++
				}
			}
			if got != count {
				t.Fatalf("mode %d: in pieces of %d bytes there are %d messages", mode, size, got)
			}
			expect(t, f, api.OK, 0)
		}
	}
}

// 16.2: the longest messages of each mode, in frames at the edge, byte by byte and in pieces.
func TestLongestMessages(t *testing.T) {
	for _, mode := range modes {
		m := longest()
		if n := len(encoded(mode, m)); n != codec.Most(mode) {
			t.Fatalf("mode %d: the longest message has %d bytes", mode, n)
		}
		stream := streamOf(mode, m, ping(1), m)
		s := tell(mode, codec.Most(mode), stream)
		if !same(s.msgs, []api.Msg{m, ping(1), m}) {
			t.Fatalf("mode %d: the words tell %s", mode, show(s.msgs))
		}
		checkCut(t, mode, codec.Most(mode), stream, s)
		checkCut(t, mode, codec.Most(mode), stream, s, everyByte(stream)...)
		for i := 0; i < len(stream); i += 13 {
			checkCut(t, mode, codec.Most(mode), stream, s, i)
		}
		s = tell(mode, codec.Most(mode)-1, stream)
		checkCut(t, mode, codec.Most(mode)-1, stream, s)
		checkCut(t, mode, codec.Most(mode)-1, stream, s, everyByte(stream)...)
		if s.states[len(stream)] != (state{err: api.ErrLong}) {
			t.Fatalf("mode %d: with one byte less the words tell %+v", mode, s.states[len(stream)])
		}
	}
}

// 16.2: behind a great piece no more memory is kept than what is held needs, nor behind an error.
func TestKeepsNoMore(t *testing.T) {
	stream := append(bytes.Repeat([]byte{1, 11}, 1<<16), 1)
	f := opened(t, api.Tagged, 100)
	if n := len(f.Push(stream)); n != 1<<16 {
		t.Fatalf("there are %d messages", n)
	}
	if cap(f.held) > 64 {
		t.Errorf("for one byte %d are kept", cap(f.held))
	}
	push(t, f, []byte{11}, ping(0))
	expect(t, f, api.OK, 0)
	push(t, f, append(run(1, 100), run(50, 1)...))
	push(t, f, append(run(50, 1), 101))
	if f.Err() == api.OK || cap(f.held) != 0 {
		t.Errorf("behind the error %d there are %d bytes kept", f.Err(), cap(f.held))
	}
}
