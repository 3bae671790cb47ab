package greedy

import (
	"bytes"
	"fmt"
	"math"
	"math/big"
	"reflect"
	"slices"
	"strings"
	"testing"

	"annulet/api"
	"annulet/codec"
	"annulet/flow"
	"annulet/msg"
)

// modes are the three, by the words of chapter 14.
var modes = []int{1, 2, 3}

// unknown are modes that are none, some of which would be one if a part of their bits was lost or their sign.
var unknown = []int{0, 4, 5, -1, -2, -3, 255, 256 + 1, 1<<16 + 2, 1<<32 + 3, math.MinInt, math.MinInt + 1, math.MaxInt}

// out are bounds of bodies that are refused, some of which would do if a part of their bits was lost or their sign.
var out = []int{0, -1, -100, 1<<20 + 1, 1 << 21, -1 << 20, math.MaxInt32, 1 << 32, 1<<32 + 1, 1<<32 + 100, math.MinInt, math.MinInt + 1, math.MaxInt - 1, math.MaxInt}

// run is count times the byte c, followed by the bytes of tail.
func run(count int, c byte, tail ...byte) []byte {
	return append(bytes.Repeat([]byte{c}, count), tail...)
}

// show keeps what a failed test prints short, and free of bytes that are no text.
func show(v any) string {
	s := fmt.Sprintf("%+q", fmt.Sprintf("%+v", v))
	if len(s) > 300 {
		return s[:300] + " and more"
	}
	return s
}

// length follows the words of 1.1 with numbers of any size.
func length(n uint64) []byte {
	var b []byte
	rest := new(big.Int).SetUint64(n)
	group := new(big.Int)
	for {
		rest.DivMod(rest, big.NewInt(128), group)
		if rest.Sign() == 0 {
			return append(b, byte(group.Int64()))
		}
		b = append(b, byte(group.Int64()+128))
	}
}

// framed follows the words of 15.1 for all bodies, one frame after the other.
func framed(bodies ...[]byte) []byte {
	var b []byte
	for _, body := range bodies {
		b = slices.Concat(b, length(uint64(len(body))), body)
	}
	return b
}

// encoded is the encoding of a valid message.
func encoded(mode int, m api.Msg) []byte {
	b, err := codec.Enc(mode, m)
	if err != api.OK {
		panic(fmt.Sprintf("%+v is refused in the mode %d with %d", m, mode, err))
	}
	return b
}

// streamOf follows the words of 17.2 for valid messages.
func streamOf(mode int, l ...api.Msg) []byte {
	var b []byte
	for _, m := range l {
		b = append(b, framed(encoded(mode, m))...)
	}
	return b
}

// putByWords follows the words of 17.2; the error of Enc is that of msg's Right in a mode that there is (14.1).
func putByWords(mode int, l []api.Msg) ([]byte, api.Errno) {
	if mode != 1 && mode != 2 && mode != 3 {
		return nil, api.ErrArg
	}
	for _, m := range l {
		if err := msg.Right(m); err != api.OK {
			return nil, err
		}
	}
	return streamOf(mode, l...), api.OK
}

// nextByWords follows the words of 1.2 and of 15.2 with numbers of any size; it returns where the body begins and ends.
func nextByWords(b []byte, most int) (int, int, api.Errno) {
	last := slices.IndexFunc(b, func(c byte) bool { return c < 128 })
	if len(b) >= 10 && (last < 0 || last >= 10) {
		return 0, 0, api.ErrForm
	}
	if last < 0 {
		return 0, 0, api.ErrShort
	}
	n := new(big.Int)
	for i := last; i >= 0; i-- {
		n.Mul(n, big.NewInt(128))
		n.Add(n, big.NewInt(int64(b[i]%128)))
	}
	switch {
	case n.BitLen() > 64 || last > 0 && b[last] == 0:
		return 0, 0, api.ErrForm
	case n.Cmp(big.NewInt(int64(most))) > 0:
		return 0, 0, api.ErrLong
	case n.Cmp(big.NewInt(int64(len(b)-last-1))) > 0:
		return 0, 0, api.ErrShort
	}
	return last + 1, last + 1 + int(n.Int64()), api.OK
}

// told is what All returns.
type told struct {
	msgs []api.Msg
	left int
	err  api.Errno
}

func all(mode, most int, b []byte) told {
	msgs, left, err := All(mode, most, b)
	return told{msgs, left, err}
}

// allByWords follows the words of 17.1, and of 16.1 and 16.2.
func allByWords(mode, most int, b []byte) told {
	if mode < 1 || mode > 3 || most < 1 || most > 1<<20 {
		return told{err: api.ErrArg}
	}
	var is told
	for {
		from, to, err := nextByWords(b, most)
		if err == api.ErrShort {
			is.left = len(b)
			return is
		}
		var m api.Msg
		if err == api.OK {
			m, err = codec.Dec(mode, b[from:to])
		}
		if err != api.OK {
			is.err = err
			return is
		}
		is.msgs, b = append(is.msgs, m), b[to:]
	}
}

// inPieces is what a new decoder tells of the pieces, one after the other.
func inPieces(mode, most int, pieces ...[]byte) told {
	f, err := flow.New(mode, most)
	if err != api.OK {
		return told{err: err}
	}
	var is told
	for _, piece := range pieces {
		is.msgs = append(is.msgs, f.Push(piece)...)
	}
	is.left, is.err = f.Held(), f.Err()
	return is
}

// same tells whether both are the same row of messages; an empty slice is equal to none (R3).
func same(a, b []api.Msg) bool {
	return slices.EqualFunc(a, b, func(x, y api.Msg) bool {
		for _, m := range []*api.Msg{&x, &y} {
			if len(m.Peers) == 0 {
				m.Peers = nil
			}
			if len(m.Pairs) == 0 {
				m.Pairs = nil
			}
		}
		return reflect.DeepEqual(x, y)
	})
}

func (is told) same(other told) bool {
	return same(is.msgs, other.msgs) && is.left == other.left && is.err == other.err
}

// checkAll holds All to the words and to a decoder, and the bytes to what they were (R4); it returns what All returns.
func checkAll(t *testing.T, mode, most int, b []byte) told {
	t.Helper()
	kept := slices.Clone(b)
	got := all(mode, most, b)
	if want := allByWords(mode, most, kept); !got.same(want) {
		t.Fatalf("All(%d, %d, %s) = %s, want %s", mode, most, show(kept), show(got), show(want))
	}
	if want := inPieces(mode, most, kept); !got.same(want) {
		t.Fatalf("All(%d, %d, %s) = %s, and a decoder tells %s", mode, most, show(kept), show(got), show(want))
	}
	if !bytes.Equal(b, kept) {
		t.Fatalf("All(%d, %d, %s) changed the bytes to %s", mode, most, show(kept), show(b))
	}
	return got
}

// expectAll holds All to the words and to what is wanted.
func expectAll(t *testing.T, mode, most int, b []byte, want told) {
	t.Helper()
	if got := checkAll(t, mode, most, b); !got.same(want) {
		t.Fatalf("All(%d, %d, %s) = %s, want %s", mode, most, show(b), show(got), show(want))
	}
}

// checkPut holds Put to the words, to R2, and to R4; it returns the bytes.
func checkPut(t *testing.T, mode int, l []api.Msg) []byte {
	t.Helper()
	kept := copies(l)
	got, err := Put(mode, l)
	want, wantErr := putByWords(mode, kept)
	if err != wantErr || !bytes.Equal(got, want) {
		t.Fatalf("Put(%d, %s) = %s, %d, want %s, %d", mode, show(kept), show(got), err, show(want), wantErr)
	}
	if !same(l, kept) {
		t.Fatalf("Put(%d, %s) changed the messages to %s", mode, show(kept), show(l))
	}
	return got
}

// expectPut holds Put to an error, without any bytes.
func expectPut(t *testing.T, mode int, l []api.Msg, want api.Errno) {
	t.Helper()
	if got, err := Put(mode, l); err != want || len(got) != 0 {
		t.Errorf("Put(%d, %s) = %s, %d, want the error %d", mode, show(l), show(got), err, want)
	}
}

// copies are the messages with slices of their own.
func copies(l []api.Msg) []api.Msg {
	var c []api.Msg
	for _, m := range l {
		m.Peers, m.Pairs = slices.Clone(m.Peers), slices.Clone(m.Pairs)
		c = append(c, m)
	}
	return c
}

// cutByWords follows the words of 17.3, byte by byte.
func cutByWords(b []byte, sizes []int) [][]byte {
	var pieces [][]byte
	at := 0
	for _, size := range sizes {
		var piece []byte
		for taken := 0; taken < size && at < len(b); taken++ {
			piece = append(piece, b[at])
			at++
		}
		pieces = append(pieces, piece)
	}
	return append(pieces, b[at:])
}

// samePieces tells whether both are the same row of pieces; an empty one is equal to none (R3).
func samePieces(a, b [][]byte) bool {
	return slices.EqualFunc(a, b, bytes.Equal)
}

// checkCut holds Cut to the words, to the consequence, and to R4; it returns the pieces.
func checkCut(t *testing.T, b []byte, sizes ...int) [][]byte {
	t.Helper()
	keptBytes, keptSizes := slices.Clone(b), slices.Clone(sizes)
	got := Cut(b, sizes)
	if want := cutByWords(keptBytes, keptSizes); !samePieces(got, want) {
		t.Fatalf("Cut(%s, %s) = %s, want %s", show(keptBytes), show(keptSizes), show(got), show(want))
	}
	if !bytes.Equal(slices.Concat(got...), keptBytes) || len(got) != len(keptSizes)+1 {
		t.Fatalf("Cut(%s, %s) = %s, which is not the bytes", show(keptBytes), show(keptSizes), show(got))
	}
	if !bytes.Equal(b, keptBytes) || !slices.Equal(sizes, keptSizes) {
		t.Fatalf("Cut(%s, %s) changed its arguments to %s and %s", show(keptBytes), show(keptSizes), show(b), show(sizes))
	}
	return got
}

// mix is a row of numbers without any plain order, the same ones each time.
type mix uint64

func (m *mix) below(n int) int {
	x := uint64(*m)
	x ^= x << 13
	x ^= x >> 7
	x ^= x << 17
	*m = mix(x)
	return int((x >> 20) % uint64(n))
}

// ping is a short message.
func ping(rid uint32) api.Msg {
	return api.Msg{Kind: api.KPing, Rid: rid}
}

// someMsgs are messages of all kinds, among them those with all fields zero.
func someMsgs() []api.Msg {
	peer := api.Peer{ID: math.MaxUint64 - 5, Addr: 300}
	return []api.Msg{
		ping(0), ping(7), {Kind: api.KAsk, Rid: math.MaxUint32}, {Kind: api.KOkay, Rid: 300},
		{Kind: api.KFind, Rid: 1, ID: 5}, {Kind: api.KFind},
		{Kind: api.KHop, Rid: 2, Has: true, Peers: []api.Peer{peer, {ID: 1}}},
		{Kind: api.KTell}, {Kind: api.KTell, Has: true, Peer: peer, Peers: []api.Peer{{}, peer}},
		{Kind: api.KNote, Peer: peer}, {Kind: api.KPut, Key: "k\u00e9", Val: "\x00\xff"},
		{Kind: api.KGet, Key: "key"}, {Kind: api.KGot}, {Kind: api.KGot, Has: true, Val: strings.Repeat("v", 200)},
		{Kind: api.KMove, Rid: 9, Has: true, Pairs: []api.Pair{{Key: "a"}, {Key: "b", Val: "w"}}},
		{Kind: api.KNay, Code: 255},
	}
}

// longest is a message whose encoding is the longest one of its mode (14.4).
func longest() api.Msg {
	m := api.Msg{Kind: api.KMove, Rid: math.MaxUint32, Has: true}
	for i := range api.MaxPairs {
		key := strings.Repeat("\U0001F600", 23) + string(rune('a'+i)) + "\u0800"
		m.Pairs = append(m.Pairs, api.Pair{Key: key, Val: strings.Repeat("v", api.MaxVal)})
	}
	return m
}

// wrong are messages that are not valid, with the errors of msg's Right.
var wrong = []struct {
	m    api.Msg
	want api.Errno
}{
	{api.Msg{}, api.ErrKind},
	{api.Msg{Kind: 13, ID: 5}, api.ErrKind},
	{api.Msg{Kind: -1}, api.ErrKind},
	{api.Msg{Kind: api.KPing, ID: 5}, api.ErrArg},
	{api.Msg{Kind: api.KGot, Val: "v"}, api.ErrArg},
	{api.Msg{Kind: api.KPut}, api.ErrText},
	{api.Msg{Kind: api.KGet, Key: "\xff"}, api.ErrText},
	{api.Msg{Kind: api.KGot, Has: true, Val: strings.Repeat("v", 513)}, api.ErrLong},
	{api.Msg{Kind: api.KHop, Peers: make([]api.Peer, 17)}, api.ErrLong},
	{api.Msg{Kind: api.KHop}, api.ErrShort},
	{api.Msg{Kind: api.KMove}, api.ErrShort},
	{api.Msg{Kind: api.KNay}, api.ErrShort},
}

// 17.1 to 17.3: the chapter's examples.
func TestExamples(t *testing.T) {
	stream := []byte{1, 11, 3, 11, 1, 1}
	if b := checkPut(t, 2, []api.Msg{ping(0), ping(1)}); !bytes.Equal(b, stream) {
		t.Errorf("Put = %v", b)
	}
	expectAll(t, 2, 100, stream, told{[]api.Msg{ping(0), ping(1)}, 0, api.OK})
	if l := checkCut(t, []byte("abc"), 1, 0); !samePieces(l, [][]byte{[]byte("a"), nil, []byte("bc")}) {
		t.Errorf("Cut = %q", l)
	}
}

// 17.1, 17.2: streams that are written out here, in each mode, both ways.
func TestWrittenOut(t *testing.T) {
	for _, c := range []struct {
		mode   int
		l      []api.Msg
		stream string
	}{
		{1, nil, ""},
		{2, nil, ""},
		{3, nil, ""},
		{1, []api.Msg{ping(7)}, "\x05\x0b\x00\x00\x00\x07"},
		{2, []api.Msg{ping(7)}, "\x03\x0b\x01\x07"},
		{3, []api.Msg{ping(7)}, "\x11d1:q4:ping1:ri7ee"},
		{1, []api.Msg{ping(7), {Kind: api.KAsk, Rid: 300}, ping(7)}, "\x05\x0b\x00\x00\x00\x07\x05\x03\x00\x00\x01\x2c\x05\x0b\x00\x00\x00\x07"},
		{2, []api.Msg{ping(7), {Kind: api.KAsk, Rid: 300}, ping(7)}, "\x03\x0b\x01\x07\x04\x03\x01\xac\x02\x03\x0b\x01\x07"},
		{3, []api.Msg{ping(7), {Kind: api.KAsk, Rid: 300}, ping(0)}, "\x11d1:q4:ping1:ri7ee\x12d1:q3:ask1:ri300ee\x0bd1:q4:pinge"},
	} {
		if b := checkPut(t, c.mode, c.l); string(b) != c.stream {
			t.Errorf("Put(%d, %s) = %q, want %q", c.mode, show(c.l), b, c.stream)
		}
		expectAll(t, c.mode, 20, []byte(c.stream), told{c.l, 0, api.OK})
	}
}

// 17.1, R2, R6: modes that are unknown, and a most that is out of bounds, alone and both, whatever the bytes are.
func TestAllRefuses(t *testing.T) {
	streams := [][]byte{nil, {1, 11}, {1}, {101}, {0}, {128, 0}, streamOf(1, ping(1)), streamOf(3, ping(1))}
	for _, stream := range streams {
		for _, mode := range unknown {
			for _, most := range append([]int{1, 100, 1 << 20}, out...) {
				expectAll(t, mode, most, stream, told{err: api.ErrArg})
			}
		}
		for _, mode := range modes {
			for _, most := range out {
				expectAll(t, mode, most, stream, told{err: api.ErrArg})
			}
		}
	}
}

// 17.1, R3: no bytes are no messages, for each mode with each most from 1 to 2^20.
func TestNoBytes(t *testing.T) {
	for _, mode := range modes {
		for _, most := range []int{1, 2, 3, 100, 127, 128, 4973, 65535, 65536, 1<<20 - 1, 1 << 20} {
			expectAll(t, mode, most, nil, told{})
			expectAll(t, mode, most, []byte{}, told{})
		}
	}
}

// 17.1, 17.4: bodies of most bytes and one less are taken; one more is ErrLong, with the messages ahead of it and none behind it.
func TestMost(t *testing.T) {
	for _, mode := range modes {
		short := encoded(mode, ping(0))
		for _, m := range append(someMsgs(), longest()) {
			l := []api.Msg{ping(0), m, ping(0)}
			stream := checkPut(t, mode, l)
			size := len(encoded(mode, m))
			for _, most := range []int{size, size + 1, 1 << 20} {
				if most >= len(short) {
					expectAll(t, mode, most, stream, told{l, 0, api.OK})
				}
			}
			if size > len(short) {
				expectAll(t, mode, size-1, stream, told{l[:1], 0, api.ErrLong})
			}
		}
	}
}

// 17.1: of an incomplete frame all bytes are held, and the messages ahead of it are returned.
func TestHeld(t *testing.T) {
	for _, mode := range modes {
		for _, front := range [][]api.Msg{nil, {ping(1)}, {ping(1), {Kind: api.KAsk}, ping(0)}} {
			for _, m := range append(someMsgs(), longest()) {
				last := streamOf(mode, m)
				step := 1 + len(last)/50
				for n := 0; n < len(last); n += step {
					stream := slices.Concat(streamOf(mode, front...), last[:n])
					expectAll(t, mode, 5000, stream, told{front, n, api.OK})
				}
			}
			for _, n := range []int{1, 5, 9} {
				stream := append(streamOf(mode, front...), run(n, 255)...)
				expectAll(t, mode, 100, stream, told{front, n, api.OK})
			}
		}
	}
}

// faults are frames that are refused, with the error that is recorded.
var faults = []struct {
	mode  int
	frame []byte
	want  api.Errno
}{
	{1, []byte{101}, api.ErrLong},
	{2, run(4, 255, 0x0f), api.ErrLong},
	{3, run(9, 255, 1), api.ErrLong},
	{1, []byte{128, 0}, api.ErrForm},
	{2, run(9, 255, 2), api.ErrForm},
	{3, run(10, 128), api.ErrForm},
	{1, []byte{0}, api.ErrShort},
	{1, []byte("\x01\x0b"), api.ErrShort},
	{1, []byte("\x06\x0b\x00\x00\x00\x07\x00"), api.ErrMore},
	{1, []byte("\x05\x00\x00\x00\x00\x07"), api.ErrKind},
	{1, []byte("\x07\x0a\x00\x00\x00\x07\x02\x00"), api.ErrForm},
	{2, []byte{0}, api.ErrShort},
	{2, []byte("\x02\x0b\x01"), api.ErrShort},
	{2, []byte("\x01\x00"), api.ErrKind},
	{2, []byte("\x03\x0b\x01\x00"), api.ErrForm},
	{3, []byte{0}, api.ErrShort},
	{3, []byte("\x10d1:q4:ping1:ri7e"), api.ErrShort},
	{3, []byte("\x12d1:q4:ping1:ri7ee0"), api.ErrMore},
	{3, []byte("\x04i-0e"), api.ErrForm},
	{3, []byte("\x02de"), api.ErrKind},
	{3, []byte("\x22llllllllllllllllleeeeeeeeeeeeeeeee"), api.ErrDeep},
}

// 17.1: the messages ahead of a fault are returned together with the error, none behind it, and nothing is held, whatever follows.
func TestFaults(t *testing.T) {
	for _, c := range faults {
		for _, front := range [][]api.Msg{nil, {ping(1)}, {ping(1), {Kind: api.KAsk}, ping(0)}} {
			good := streamOf(c.mode, front...)
			for n := range len(c.frame) {
				expectAll(t, c.mode, 100, slices.Concat(good, c.frame[:n]), told{front, n, api.OK})
			}
			for _, tail := range [][]byte{nil, {0}, {3}, {101}, {128, 0}, run(300, 0), streamOf(c.mode, ping(1), ping(2))} {
				stream := slices.Concat(good, c.frame, tail)
				expectAll(t, c.mode, 100, stream, told{front, 0, c.want})
			}
		}
	}
}

// 17.1: what another mode makes of messages is refused as a decoder refuses it.
func TestOtherModes(t *testing.T) {
	for _, mode := range modes {
		for _, other := range modes {
			for _, m := range someMsgs() {
				got := checkAll(t, mode, 400, streamOf(other, m, ping(1)))
				if (got.err == api.OK) != (mode == other) {
					t.Errorf("what the mode %d makes of %s brings %s in the mode %d", other, show(m), show(got), mode)
				}
			}
		}
	}
}

// rows gives the function all rows of the bytes that matter, of up to so many bytes behind those in front.
func rows(front []byte, more int, give func(b []byte)) {
	give(front)
	if more == 0 {
		return
	}
	for _, c := range []byte{0, 1, 2, 3, 11, 128, 255} {
		rows(append(slices.Clone(front), c), more-1, give)
	}
}

// 17.1, R1: all rows of the bytes that matter.
func TestShortRowsFollowWords(t *testing.T) {
	for _, most := range []int{1, 2, 3, 100} {
		rows(nil, 5, func(b []byte) { checkAll(t, api.Tagged, most, b) })
		rows(nil, 4, func(b []byte) {
			checkAll(t, api.Fixed, most, b)
			checkAll(t, api.Bencode, most, b)
		})
	}
}

// 17.1, 17.3, 17.4, R1: long streams, some of which have bytes that are wrong or missing; what Cut makes of them brings a decoder to the same.
func TestLongRowsFollowWords(t *testing.T) {
	m := mix(88172645463325252)
	l := someMsgs()
	ended := map[api.Errno]int{}
	for range 6000 {
		mode := modes[m.below(3)]
		most := []int{5, 20, 127, 128, 400, 1 << 20}[m.below(6)]
		var chosen []api.Msg
		for range m.below(12) {
			chosen = append(chosen, l[m.below(len(l))])
		}
		stream := checkPut(t, mode, chosen)
		for range m.below(3) {
			if len(stream) > 0 {
				stream[m.below(len(stream))] = []byte{0, 1, 11, 97, 128, byte(m.below(256))}[m.below(6)]
			}
		}
		stream = stream[:len(stream)-m.below(len(stream)+1)*m.below(2)]
		got := checkAll(t, mode, most, stream)
		ended[got.err]++
		var sizes []int
		for range m.below(20) {
			sizes = append(sizes, m.below(40)-4)
		}
		if other := inPieces(mode, most, checkCut(t, stream, sizes...)...); !got.same(other) {
			t.Fatalf("All(%d, %d, %s) = %s, and a decoder tells %s of the pieces of %v", mode, most, show(stream), show(got), show(other), sizes)
		}
	}
	for _, err := range []api.Errno{api.OK, api.ErrShort, api.ErrForm, api.ErrMore, api.ErrLong, api.ErrKind} {
		if ended[err] < 20 {
			t.Errorf("only %d streams ended with %d", ended[err], err)
		}
	}
}

// 17.2, R2: an unknown mode is ErrArg without messages, with valid ones and with wrong ones.
func TestPutRefusesModes(t *testing.T) {
	for _, mode := range unknown {
		expectPut(t, mode, nil, api.ErrArg)
		expectPut(t, mode, []api.Msg{}, api.ErrArg)
		expectPut(t, mode, someMsgs(), api.ErrArg)
		for _, c := range wrong {
			expectPut(t, mode, []api.Msg{c.m}, api.ErrArg)
			expectPut(t, mode, []api.Msg{ping(1), c.m}, api.ErrArg)
		}
	}
}

// 17.2, R2: the first wrong message determines the error, wherever it is, and there are no bytes of those ahead of it.
func TestPutRefusesMessages(t *testing.T) {
	for _, mode := range modes {
		for _, front := range [][]api.Msg{nil, {ping(1)}, someMsgs()} {
			for _, c := range wrong {
				if err := msg.Right(c.m); err != c.want {
					t.Fatalf("Right(%s) = %d, want %d", show(c.m), err, c.want)
				}
				l := append(slices.Clone(front), c.m)
				expectPut(t, mode, l, c.want)
				expectPut(t, mode, append(l, someMsgs()...), c.want)
				for _, d := range wrong {
					expectPut(t, mode, append(slices.Clone(l), d.m), c.want)
					expectPut(t, mode, append(slices.Clone(l), ping(2), d.m), c.want)
				}
			}
		}
	}
}

// 17.2, 17.4: messages of all kinds, alone, each behind each, and all together, in lengths of one and of two bytes.
func TestPutAndAll(t *testing.T) {
	l := append(someMsgs(), longest())
	for _, mode := range modes {
		lists := [][]api.Msg{nil, {}, l, slices.Concat(l, l)}
		for _, m := range l {
			lists = append(lists, []api.Msg{m}, []api.Msg{m, m, m})
			for _, other := range l {
				lists = append(lists, []api.Msg{m, other})
			}
		}
		for _, list := range lists {
			stream := checkPut(t, mode, list)
			expectAll(t, mode, codec.Most(mode), stream, told{list, 0, api.OK})
			expectAll(t, mode, 1<<20, stream, told{list, 0, api.OK})
		}
	}
}

// 17.2, 17.4: bodies of 127 and of 128 bytes, and those beside them, as the length takes one byte and then two.
func TestLengthsOfFrames(t *testing.T) {
	for _, mode := range modes {
		seen := map[int]bool{}
		for n := range 400 {
			l := []api.Msg{{Kind: api.KGot, Rid: uint32(n%2*100 + 1), Has: true, Val: strings.Repeat("v", n/2)}, ping(1)}
			seen[len(encoded(mode, l[0]))] = true
			expectAll(t, mode, 400, checkPut(t, mode, l), told{l, 0, api.OK})
		}
		for size := 126; size <= 129; size++ {
			if !seen[size] {
				t.Errorf("mode %d: no body has %d bytes", mode, size)
			}
		}
	}
}

// 17.1, 17.2, 17.4: many messages, in little time.
func TestManyMessages(t *testing.T) {
	for _, mode := range modes {
		l := slices.Repeat([]api.Msg{ping(7), ping(0), {Kind: api.KGet, Key: "key"}}, 1<<15)
		b, err := Put(mode, l)
		if err != api.OK || !bytes.Equal(b, bytes.Repeat(streamOf(mode, l[:3]...), 1<<15)) {
			t.Fatalf("mode %d: Put returns %d bytes and the error %d", mode, len(b), err)
		}
		got := all(mode, 100, b)
		if !got.same(told{l, 0, api.OK}) {
			t.Fatalf("mode %d: All returns %d messages, holds %d bytes, and has the error %d", mode, len(got.msgs), got.left, got.err)
		}
		expectPut(t, mode, append(l, api.Msg{}), api.ErrKind)
	}
}

// 17.1: a body of 2^20 bytes is looked at, one byte less of it is held, and one more in its length is ErrLong.
func TestGreatFrames(t *testing.T) {
	for _, mode := range modes {
		body := run(1<<20, 'd')
		_, want := codec.Dec(mode, body)
		if want == api.OK {
			t.Fatalf("mode %d: a great body is a message", mode)
		}
		stream := framed(body)
		expectAll(t, mode, 1<<20, stream, told{err: want})
		expectAll(t, mode, 1<<20, stream[:len(stream)-1], told{left: len(stream) - 1})
		expectAll(t, mode, 1<<20, length(1<<20+1), told{err: api.ErrLong})
		expectAll(t, mode, 1<<20-1, stream, told{err: api.ErrLong})
	}
}

// 17.3: what is cut, written out here, with sizes that are none, negative and too great.
func TestCutWrittenOut(t *testing.T) {
	for _, c := range []struct {
		b     string
		sizes []int
		want  []string
	}{
		{"", nil, []string{""}},
		{"abc", nil, []string{"abc"}},
		{"", []int{0}, []string{"", ""}},
		{"", []int{3, -1, 0}, []string{"", "", "", ""}},
		{"abc", []int{0}, []string{"", "abc"}},
		{"abc", []int{0, 0}, []string{"", "", "abc"}},
		{"abc", []int{1, 1}, []string{"a", "b", "c"}},
		{"abc", []int{1, 1, 1}, []string{"a", "b", "c", ""}},
		{"abc", []int{3}, []string{"abc", ""}},
		{"abc", []int{2, 2}, []string{"ab", "c", ""}},
		{"abc", []int{4}, []string{"abc", ""}},
		{"abc", []int{4, 1}, []string{"abc", "", ""}},
		{"abc", []int{-1}, []string{"", "abc"}},
		{"abc", []int{2, -1, 1}, []string{"ab", "", "c", ""}},
		{"abc", []int{-3, 2}, []string{"", "ab", "c"}},
		{"abc", []int{1, math.MaxInt, math.MaxInt}, []string{"a", "bc", "", ""}},
		{"abc", []int{math.MinInt, 1, math.MinInt, 1}, []string{"", "a", "", "b", "c"}},
	} {
		var want [][]byte
		for _, s := range c.want {
			want = append(want, []byte(s))
		}
		if got := checkCut(t, []byte(c.b), c.sizes...); !samePieces(got, want) {
			t.Errorf("Cut(%q, %v) = %q, want %q", c.b, c.sizes, got, want)
		}
	}
}

// sizeRows gives the function all rows of the sizes, of up to so many behind those in front.
func sizeRows(front, sizes []int, more int, give func(sizes []int)) {
	give(front)
	if more == 0 {
		return
	}
	for _, size := range sizes {
		sizeRows(append(slices.Clone(front), size), sizes, more-1, give)
	}
}

// 17.3, 17.4, R1, R6: all rows of the sizes that matter, for bytes of each number up to 6.
func TestCutFollowsWords(t *testing.T) {
	for n := range 7 {
		b := []byte("abcdef")[:n:n]
		some := []int{math.MinInt, -1, 0, 1, 2, 5, 6, 7, 1 << 32, 1<<32 + 1, math.MaxInt - 1, math.MaxInt}
		sizeRows(nil, some, 4, func(sizes []int) { checkCut(t, b, sizes...) })
	}
	checkCut(t, nil)
	checkCut(t, nil, 0, 1, -1)
}

// 17.3, 17.4: long bytes and many sizes, in little time.
func TestCutGreat(t *testing.T) {
	b := make([]byte, 1<<20)
	m := mix(362436069)
	for i := range b {
		b[i] = byte(m.below(256))
	}
	checkCut(t, b)
	checkCut(t, b, 1<<19, 1<<19)
	checkCut(t, b, slices.Repeat([]int{1}, 1<<20)...)
	checkCut(t, b, slices.Repeat([]int{0, -7, 3}, 1<<18)...)
	checkCut(t, []byte("abc"), slices.Repeat([]int{0, -1, 1}, 1<<18)...)
}

// 17.4: what Cut makes of a stream brings a decoder to the messages that were given to Put, one after the other.
func TestCutStreams(t *testing.T) {
	for _, mode := range modes {
		l := someMsgs()
		stream := checkPut(t, mode, l)
		for size := -1; size <= len(stream)+1; size++ {
			sizes := slices.Repeat([]int{size}, len(stream)/max(size, 1))
			got := inPieces(mode, 400, checkCut(t, stream, sizes...)...)
			if !got.same(told{l, 0, api.OK}) {
				t.Fatalf("mode %d: in pieces of %d bytes a decoder tells %s", mode, size, show(got))
			}
		}
	}
}

// spoil writes over a row of messages, also behind its end, and over what they hold.
func spoil(l []api.Msg) {
	l = l[:cap(l)]
	for i := range l {
		peers, pairs := l[i].Peers, l[i].Pairs
		for k := range peers[:cap(peers)] {
			peers[:cap(peers)][k] = api.Peer{ID: 9, Addr: 9}
		}
		for k := range pairs[:cap(pairs)] {
			pairs[:cap(pairs)][k] = api.Pair{Key: "x", Val: "x"}
		}
		l[i] = api.Msg{Kind: 99}
	}
}

// overwrite writes over bytes, also behind their end.
func overwrite(b []byte) {
	b = b[:cap(b)]
	for i := range b {
		b[i] = 77
	}
}

// R4, R5: what All returns changes with neither the bytes nor the messages of another call, and no call leaves anything to the next one.
func TestAllIsNewMemory(t *testing.T) {
	for _, mode := range modes {
		stream := streamOf(mode, someMsgs()...)
		ours := append(slices.Clone(stream), 9)
		got := all(mode, 400, ours)
		overwrite(ours)
		other := all(mode, 400, stream)
		spoil(other.msgs)
		if want := (told{someMsgs(), 1, api.OK}); !got.same(want) {
			t.Fatalf("mode %d: All returns messages that change: %s", mode, show(got))
		}
		expectAll(t, mode, 400, []byte{128, 0}, told{err: api.ErrForm})
		expectAll(t, mode, 400, stream[:len(stream)-1], allByWords(mode, 400, stream[:len(stream)-1]))
		expectAll(t, mode, 400, stream, told{someMsgs(), 0, api.OK})
	}
}

// R4, R5: what Put returns changes with neither the messages nor the bytes of another call.
func TestPutIsNewMemory(t *testing.T) {
	for _, mode := range modes {
		want := streamOf(mode, someMsgs()...)
		l := someMsgs()
		got := checkPut(t, mode, l)
		other := checkPut(t, mode, l)
		overwrite(other)
		spoil(l)
		if !bytes.Equal(got, want) || !bytes.Equal(checkPut(t, mode, someMsgs()), want) {
			t.Fatalf("mode %d: Put returns bytes that change: %s", mode, show(got))
		}
	}
}

// 17.3, R4: the pieces share memory with neither the bytes nor each other, also behind their ends; the bytes behind b are neither read nor changed.
func TestCutIsNewMemory(t *testing.T) {
	for _, sizes := range [][]int{nil, {0}, {3}, {10}, {11}, {1, 2, 3}, {0, -1, 4, 0, 100, 1}, {100, 0}} {
		whole := []byte("0123456789abcdef")
		b := whole[:10]
		want := cutByWords([]byte("0123456789"), sizes)
		for i := range want {
			got := checkCut(t, b, sizes...)
			overwrite(got[i])
			_ = append(got[i], "zzzzzzzzzzzzzzzzzzzz"...)
			if string(whole) != "0123456789abcdef" {
				t.Fatalf("sizes %v: piece %d shares memory with the bytes, which are now %q", sizes, i, whole)
			}
			got[i] = want[i]
			if !samePieces(got, want) {
				t.Fatalf("sizes %v: piece %d shares memory with another one: %q", sizes, i, got)
			}
		}
		got := checkCut(t, b, sizes...)
		overwrite(whole)
		if !samePieces(got, want) {
			t.Fatalf("sizes %v: the pieces change with the bytes to %q", sizes, got)
		}
	}
}
