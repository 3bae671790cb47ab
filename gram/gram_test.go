package gram

import (
	"bytes"
	"fmt"
	"math"
	"math/bits"
	"reflect"
	"slices"
	"testing"

	"annulet/api"
	"annulet/crc"
)

// longest is MaxMTU - Overhead, the length of the longest Body.
const longest = 65487

// run is count times the byte c, followed by the bytes of tail.
func run(count int, c byte, tail ...byte) []byte {
	return append(bytes.Repeat([]byte{c}, count), tail...)
}

// show keeps what a failed test prints short, and free of bytes that are no text.
func show(v any) string {
	s := fmt.Sprintf("%+q", fmt.Sprintf("%+v", v))
	if len(s) > 300 {
		return s[:300] + " and more"
	}
	return s
}

// sumByWords follows the words of 2.1, bit by bit.
func sumByWords(b []byte) uint32 {
	register := uint32(math.MaxUint32)
	for i := range 8 * len(b) {
		if b[i/8]>>(i%8)%2 == 1 {
			register ^= 1
		}
		out := register % 2
		register /= 2
		if out == 1 {
			register ^= 0x82f63b78
		}
	}
	return ^register
}

// great are the bytes of n, the most significant one first.
func great(n uint64, size int) []byte {
	b := make([]byte, size)
	for i := size - 1; i >= 0; i-- {
		b[i] = byte(n % 256)
		n /= 256
	}
	return b
}

// sealed is b and its checksum, the least significant byte first.
func sealed(b []byte) []byte {
	sum := great(uint64(sumByWords(b)), 4)
	slices.Reverse(sum)
	return slices.Concat(b, sum)
}

// encoded follows the words of the chapter for any datagram, whether it is valid or not.
func encoded(g api.Gram) []byte {
	return sealed(slices.Concat(
		[]byte{167, 78, g.Kind, g.Version},
		great(uint64(g.Epoch), 4), great(uint64(g.ID), 4),
		great(uint64(g.Index), 2), great(uint64(g.Count), 2),
		g.Body))
}

// rightByWords follows the words of 18.1.
func rightByWords(g api.Gram) api.Errno {
	if g.Kind != 1 && g.Kind != 2 {
		return 9
	}
	if g.Count == 0 {
		return 1
	}
	if !(g.Index < g.Count) {
		return 1
	}
	if len(g.Body) > longest {
		return 5
	}
	return 0
}

// number is the number of the bytes, the most significant one first.
func number(b []byte) uint64 {
	var n uint64
	for _, c := range b {
		n = 256*n + uint64(c)
	}
	return n
}

// getByWords follows the words of 18.2.
func getByWords(b []byte) (api.Gram, api.Errno) {
	if len(b) < 20 {
		return api.Gram{}, 2
	}
	if len(b) > 65507 {
		return api.Gram{}, 5
	}
	front := b[:len(b)-4]
	if !bytes.Equal(sealed(front), b) {
		return api.Gram{}, 8
	}
	if b[0] != 167 || b[1] != 78 {
		return api.Gram{}, 3
	}
	g := api.Gram{
		Kind: b[2], Version: b[3],
		Epoch: uint32(number(b[4:8])), ID: uint32(number(b[8:12])),
		Index: uint16(number(b[12:14])), Count: uint16(number(b[14:16])),
		Body: slices.Clone(front[16:]),
	}
	if err := rightByWords(g); err != 0 {
		return api.Gram{}, err
	}
	return g, 0
}

// same tells whether all fields are equal; an empty Body is equal to none (R3).
func same(a, b api.Gram) bool {
	for _, g := range []*api.Gram{&a, &b} {
		if len(g.Body) == 0 {
			g.Body = nil
		}
	}
	return reflect.DeepEqual(a, b)
}

// copied is g with a Body of its own.
func copied(g api.Gram) api.Gram {
	g.Body = slices.Clone(g.Body)
	return g
}

// checkPut holds Right and Put to the words, to R2, and to R4; it returns what Put returns.
func checkPut(t *testing.T, g api.Gram) ([]byte, api.Errno) {
	t.Helper()
	kept := copied(g)
	want := rightByWords(kept)
	if err := Right(g); err != want {
		t.Fatalf("Right(%s) = %d, want %d", show(kept), err, want)
	}
	var wantBytes []byte
	if want == api.OK {
		wantBytes = encoded(kept)
	}
	b, err := Put(g)
	if err != want || !bytes.Equal(b, wantBytes) {
		t.Fatalf("Put(%s) = %s, %d, want %s, %d", show(kept), show(b), err, show(wantBytes), want)
	}
	if !same(g, kept) {
		t.Fatalf("Right or Put changed %s to %s", show(kept), show(g))
	}
	return b, err
}

// expectPut holds Right and Put to an error, without any bytes.
func expectPut(t *testing.T, g api.Gram, want api.Errno) {
	t.Helper()
	if b, err := checkPut(t, g); err != want || len(b) != 0 && want != api.OK {
		t.Fatalf("Put(%s) = %s, %d, want the error %d", show(g), show(b), err, want)
	}
}

// checkGet holds Get to the words, to R2, and to R4, and Put to that it inverts Get (18.3).
func checkGet(t *testing.T, b []byte) (api.Gram, api.Errno) {
	t.Helper()
	kept := slices.Clone(b)
	g, err := Get(b)
	want, wantErr := getByWords(kept)
	if err != wantErr || !same(g, want) {
		t.Fatalf("Get(%s) = %s, %d, want %s, %d", show(kept), show(g), err, show(want), wantErr)
	}
	if !bytes.Equal(b, kept) {
		t.Fatalf("Get(%s) changed the bytes to %s", show(kept), show(b))
	}
	if err == api.OK {
		if again, err := Put(g); err != api.OK || !bytes.Equal(again, kept) {
			t.Fatalf("Put(%s) = %s, %d, and it is from %s", show(g), show(again), err, show(kept))
		}
	}
	return g, err
}

// expectGet holds Get to an error, without a datagram.
func expectGet(t *testing.T, b []byte, want api.Errno) {
	t.Helper()
	if g, err := checkGet(t, b); err != want || want != api.OK && !same(g, api.Gram{}) {
		t.Fatalf("Get(%s) = %s, %d, want the error %d", show(b), show(g), err, want)
	}
}

// checkBoth holds Put and Get to the words for a datagram that is valid, and Get to that it inverts Put (18.3).
func checkBoth(t *testing.T, g api.Gram) []byte {
	t.Helper()
	b, err := checkPut(t, g)
	if err != api.OK || len(b) != 20+len(g.Body) {
		t.Fatalf("Put(%s) = %s, %d, want no error", show(g), show(b), err)
	}
	if got, err := checkGet(t, b); err != api.OK || !same(got, g) {
		t.Fatalf("Get(%s) = %s, %d, want %s", show(b), show(got), err, show(g))
	}
	return b
}

// mix is a row of numbers without any plain order, the same ones each time.
type mix uint64

func (m *mix) next() uint64 {
	x := uint64(*m)
	x ^= x << 13
	x ^= x >> 7
	x ^= x << 17
	*m = mix(x)
	return x
}

func (m *mix) below(n int) int {
	return int((m.next() >> 20) % uint64(n))
}

func (m *mix) bytes(n int) []byte {
	b := make([]byte, n)
	for i := range b {
		b[i] = byte(m.below(256))
	}
	return b
}

// words are numbers of four bytes, among them those that are others in another order of their bytes.
var words = []uint32{0, 1, 2, 127, 128, 255, 256, 257, 65535, 65536, 1 << 24, 0x01020304, 0xa74e0102, 1 << 31, math.MaxUint32 - 1, math.MaxUint32}

// halves are numbers of two bytes.
var halves = []uint16{0, 1, 2, 3, 127, 128, 255, 256, 257, 511, 512, 1 << 15, math.MaxUint16 - 1, math.MaxUint16}

// bodies are of several lengths, and some look like a part of an encoding.
func bodies() [][]byte {
	return [][]byte{
		nil, {}, {0}, {255}, {167, 78}, {0, 0, 0, 0}, []byte("abc"), run(12, 0), run(127, 1), run(128, 128), run(255, 2), run(256, 255),
		encoded(api.Gram{Kind: 1, Count: 1}), encoded(api.Gram{Kind: 2, Version: 3, Count: 2, Body: []byte("x")}), run(1000, 7, 0),
	}
}

// someGrams are valid datagrams of both kinds.
func someGrams() []api.Gram {
	l := []api.Gram{
		{Kind: 1, Count: 1}, {Kind: 2, Count: 1}, {Kind: 1, Version: 255, Count: 65535, Index: 65534},
		{Kind: 2, Epoch: math.MaxUint32, Count: 2}, {Kind: 1, ID: math.MaxUint32, Index: 1, Count: 2},
	}
	for i, body := range bodies() {
		l = append(l, api.Gram{
			Kind: uint8(1 + i%2), Version: uint8(i), Epoch: words[i%len(words)], ID: words[(3*i+5)%len(words)],
			Index: uint16(i), Count: uint16(i + 1 + 300*(i%3)), Body: body,
		})
	}
	return l
}

// 18.1, 18.2: the chapter's examples.
func TestExamples(t *testing.T) {
	b := checkBoth(t, api.Gram{Kind: api.GData, Count: 1})
	if !bytes.Equal(b[:16], []byte{167, 78, 1, 0, 0, 0, 0, 0, 0, 0, 0, 0, 0, 0, 0, 1}) || len(b) != 20 {
		t.Errorf("Put = %v", b)
	}
	expectPut(t, api.Gram{Kind: api.GData}, api.ErrArg)
	expectGet(t, b[:19], api.ErrShort)
}

// 18.1, 18.2: encodings that are written out here: the numbers with the most significant byte first, the checksum with the least significant one.
func TestWrittenOut(t *testing.T) {
	for _, c := range []struct {
		g     api.Gram
		front string
		sum   uint32
	}{
		{api.Gram{Kind: 1, Count: 1}, "\xa7\x4e\x01\x00\x00\x00\x00\x00\x00\x00\x00\x00\x00\x00\x00\x01", 0x5de371f4},
		{api.Gram{Kind: 2, Version: 3, Epoch: 0x04050607, ID: 0x08090a0b, Index: 0x0c0d, Count: 0x0e0f, Body: []byte{16, 17, 18}},
			"\xa7\x4e\x02\x03\x04\x05\x06\x07\x08\x09\x0a\x0b\x0c\x0d\x0e\x0f\x10\x11\x12", 0xd348b679},
		{api.Gram{Kind: 1, Version: 255, Epoch: 1, ID: 256, Index: 1, Count: 256, Body: []byte("abc")},
			"\xa7\x4e\x01\xff\x00\x00\x00\x01\x00\x00\x01\x00\x00\x01\x01\x00abc", 0x695b2c65},
		{api.Gram{Kind: 2, Epoch: math.MaxUint32, Index: 65534, Count: 65535},
			"\xa7\x4e\x02\x00\xff\xff\xff\xff\x00\x00\x00\x00\xff\xfe\xff\xff", 0x95c761d9},
	} {
		sum := []byte{byte(c.sum), byte(c.sum >> 8), byte(c.sum >> 16), byte(c.sum >> 24)}
		want := slices.Concat([]byte(c.front), sum)
		if b := checkBoth(t, c.g); !bytes.Equal(b, want) {
			t.Errorf("Put(%s) = %x, want %x", show(c.g), b, want)
		}
	}
}

// 18.1: each Kind; all but two are ErrKind, whatever the other fields are.
func TestKinds(t *testing.T) {
	long := make([]byte, longest+1)
	for kind := range 256 {
		g := api.Gram{Kind: uint8(kind), Version: 1, Count: 1, Body: []byte("a")}
		if kind == 1 || kind == 2 {
			checkBoth(t, g)
			continue
		}
		expectPut(t, g, api.ErrKind)
		expectPut(t, api.Gram{Kind: uint8(kind)}, api.ErrKind)
		expectPut(t, api.Gram{Kind: uint8(kind), Index: 1, Count: 1}, api.ErrKind)
		expectPut(t, api.Gram{Kind: uint8(kind), Count: 1, Body: long}, api.ErrKind)
		expectPut(t, api.Gram{Kind: uint8(kind), Body: long}, api.ErrKind)
	}
}

// 18.1, R2: a Count of 0 and an Index that is not less than the Count are ErrArg, also with a Body that is too long.
func TestCounts(t *testing.T) {
	long := make([]byte, longest+1)
	all := slices.Clone(halves)
	for n := range 40 {
		all = append(all, uint16(n))
	}
	for _, kind := range []uint8{1, 2} {
		for _, index := range all {
			for _, count := range all {
				g := api.Gram{Kind: kind, ID: 7, Index: index, Count: count, Body: []byte("a")}
				if index < count {
					checkBoth(t, g)
					continue
				}
				expectPut(t, g, api.ErrArg)
				g.Body = long
				expectPut(t, g, api.ErrArg)
			}
		}
	}
}

// 18.1, 18.2: a Body of 65487 bytes is taken, and one that is longer is ErrLong, also where its length has low bits like a short one's.
func TestLongest(t *testing.T) {
	for _, kind := range []uint8{1, 2} {
		for _, n := range []int{longest - 1, longest} {
			b := checkBoth(t, api.Gram{Kind: kind, Count: 1, Body: run(n-1, 3, 9)})
			if len(b) != n+20 || len(b) > 65507 {
				t.Errorf("Put with a Body of %d bytes returns %d", n, len(b))
			}
		}
		for _, n := range []int{longest + 1, longest + 2, 65507, 65508, 65535, 65536, 65537, 65536 + longest, 1 << 17, 1<<20 + 1} {
			expectPut(t, api.Gram{Kind: kind, Count: 1, Body: make([]byte, n)}, api.ErrLong)
			expectPut(t, api.Gram{Kind: kind, Index: 65534, Count: 65535, Body: make([]byte, n)}, api.ErrLong)
		}
	}
}

// 18.1 to 18.3: each field with many values, with others beside it that must not be mixed up with it.
func TestFields(t *testing.T) {
	for version := range 256 {
		checkBoth(t, api.Gram{Kind: 1, Version: uint8(version), Epoch: 1, ID: 2, Index: 3, Count: 4, Body: []byte{5}})
	}
	for _, epoch := range words {
		for _, id := range words {
			checkBoth(t, api.Gram{Kind: 2, Version: 9, Epoch: epoch, ID: id, Index: 3, Count: 4, Body: []byte{5}})
		}
	}
	for bit := range 32 {
		checkBoth(t, api.Gram{Kind: 1, Epoch: 1 << bit, Count: 1})
		checkBoth(t, api.Gram{Kind: 1, ID: 1 << bit, Count: 1})
	}
	for bit := range 16 {
		checkBoth(t, api.Gram{Kind: 1, Index: 1 << bit, Count: math.MaxUint16})
		checkBoth(t, api.Gram{Kind: 1, Count: 1 << bit})
	}
	for n := range 200 {
		checkBoth(t, api.Gram{Kind: 2, Count: 1, Body: run(n, byte(n))})
	}
	for _, g := range someGrams() {
		checkBoth(t, g)
	}
}

// 18.1 to 18.3: datagrams without any plain order, valid or not; those that are not valid are refused by Get with Right's error, too.
func TestMixedGrams(t *testing.T) {
	m := mix(18)
	right := 0
	for range 20000 {
		g := api.Gram{
			Kind: uint8(m.below(4)), Version: uint8(m.below(256)), Epoch: uint32(m.next()), ID: uint32(m.next()),
			Index: uint16(m.below(1 << (1 + m.below(16)))), Count: uint16(m.below(1 << (1 + m.below(16)))), Body: m.bytes(m.below(60)),
		}
		want := rightByWords(g)
		expectPut(t, g, want)
		expectGet(t, encoded(g), want)
		if want == api.OK {
			checkBoth(t, g)
			right++
		}
	}
	if right < 3000 || right > 17000 {
		t.Errorf("%d datagrams were valid, which is too one-sided", right)
	}
}

// 18.2: fewer than 20 bytes are ErrShort, whatever they are, also with their own checksum behind them.
func TestGetShort(t *testing.T) {
	expectGet(t, nil, api.ErrShort)
	for n := range 20 {
		for _, c := range []byte{0, 1, 167, 255} {
			expectGet(t, run(n, c), api.ErrShort)
		}
	}
	front := encoded(api.Gram{Kind: 1, Count: 1})[:16]
	for n := range 16 {
		expectGet(t, sealed(front[:n]), api.ErrShort)
		expectGet(t, sealed(run(n, 0)), api.ErrShort)
		expectGet(t, sealed(run(n, 255)), api.ErrShort)
	}
	expectGet(t, sealed(front), api.OK)
}

// 18.2: more than 65507 bytes are ErrLong, also with their own checksum behind them, and whatever they begin with; 65507 are not too many.
func TestGetLong(t *testing.T) {
	for _, n := range []int{longest + 1, longest + 2, 65536 - 20, 65536, 65536 + 20, 1 << 17} {
		b := encoded(api.Gram{Kind: 1, Count: 1, Body: run(n, 1)})
		expectGet(t, b, api.ErrLong)
		b[len(b)-1] ^= 1
		expectGet(t, b, api.ErrLong)
		expectGet(t, encoded(api.Gram{Body: make([]byte, n)}), api.ErrLong)
		expectGet(t, make([]byte, n+20), api.ErrLong)
		expectGet(t, sealed(make([]byte, n+16)), api.ErrLong)
	}
	expectGet(t, make([]byte, 65507), api.ErrSum)
	expectGet(t, sealed(make([]byte, 65503)), api.ErrForm)
	expectGet(t, encoded(api.Gram{Count: 1, Body: make([]byte, longest)}), api.ErrKind)
	expectGet(t, encoded(api.Gram{Kind: 1, Body: make([]byte, longest)}), api.ErrArg)
	expectGet(t, encoded(api.Gram{Kind: 1, Count: 1, Body: make([]byte, longest)}), api.OK)
}

// 18.2, R2: last bytes that are not the checksum are ErrSum, whatever else is wrong: its bytes in another order, not inverted, of other bytes.
func TestGetSum(t *testing.T) {
	var fronts [][]byte
	for _, g := range append(someGrams(), api.Gram{}, api.Gram{Kind: 3, Count: 1}, api.Gram{Kind: 1}, api.Gram{Kind: 2, Index: 1, Count: 1}) {
		front := encoded(g)
		front = front[:len(front)-4]
		fronts = append(fronts, front, slices.Concat([]byte{78, 167}, front[2:]), run(len(front), 0))
	}
	for _, front := range fronts {
		sum := sumByWords(front)
		for _, n := range []uint32{
			bits.ReverseBytes32(sum), bits.Reverse32(sum), ^sum, sum + 1, sum - 1, sum ^ 1<<31, sum ^ 1<<8, bits.RotateLeft32(sum, 8), bits.RotateLeft32(sum, 16),
			0, math.MaxUint32, sumByWords(front[1:]), sumByWords(front[2:]), sumByWords(front[:len(front)-1]), sumByWords(front[16:]), sumByWords(append(run(4, 0), front...)),
		} {
			tail := great(uint64(n), 4)
			slices.Reverse(tail)
			want := api.ErrSum
			if n == sum {
				_, want = getByWords(sealed(front))
			}
			expectGet(t, slices.Concat(front, tail), want)
		}
		if _, err := getByWords(slices.Concat(front, great(uint64(sum), 4))); err != api.ErrSum {
			t.Fatalf("the checksum of %s is the same backwards", show(front))
		}
	}
}

// 18.2, R2: with the right checksum, each byte but 167 and each byte but 78 at the beginning is ErrForm, also where Right has an error too.
func TestGetForm(t *testing.T) {
	for _, g := range []api.Gram{{Kind: 1, Count: 1}, {Kind: 2, Count: 3, Body: []byte("abc")}, {Count: 1}, {Kind: 1}, {Kind: 255}} {
		front := encoded(g)
		front = front[:len(front)-4]
		for c := range 256 {
			for at, right := range []byte{167, 78} {
				if byte(c) == right {
					continue
				}
				changed := slices.Clone(front)
				changed[at] = byte(c)
				expectGet(t, sealed(changed), api.ErrForm)
				changed[1-at] = byte(c)
				expectGet(t, sealed(changed), api.ErrForm)
			}
		}
		expectGet(t, sealed(slices.Concat([]byte{78, 167}, front[2:])), api.ErrForm)
		expectGet(t, sealed(slices.Concat([]byte{0}, front)), api.ErrForm)
	}
}

// 18.2: with the right checksum, what is not valid has the error of Right, its Kind ahead of its Count.
func TestGetRefuses(t *testing.T) {
	for kind := range 256 {
		want := api.ErrKind
		if kind == 1 || kind == 2 {
			want = api.OK
		}
		expectGet(t, encoded(api.Gram{Kind: uint8(kind), Version: 1, Count: 1, Body: []byte("a")}), want)
		if want == api.OK {
			want = api.ErrArg
		}
		expectGet(t, encoded(api.Gram{Kind: uint8(kind)}), want)
		expectGet(t, encoded(api.Gram{Kind: uint8(kind), Index: 300, Count: 44}), want)
	}
	for _, index := range halves {
		for _, count := range halves {
			want := api.ErrArg
			if index < count {
				want = api.OK
			}
			expectGet(t, encoded(api.Gram{Kind: 1, Index: index, Count: count, Body: []byte{1}}), want)
		}
	}
}

// 18.2: an encoding that is cut off, or has bytes ahead of it or behind it, is none; with its own checksum, a part of it is what it says.
func TestGetOfParts(t *testing.T) {
	for _, g := range someGrams() {
		b := encoded(g)
		for n := range len(b) {
			want := api.ErrSum
			if n < 20 {
				want = api.ErrShort
			}
			expectGet(t, b[:n], want)
			checkGet(t, b[n:])
			if n >= 16 {
				part := g
				part.Body = b[16:n]
				expectGet(t, sealed(b[:n]), api.OK)
				if got, _ := checkGet(t, sealed(b[:n])); !same(got, part) {
					t.Fatalf("Get of the first %d bytes with their checksum = %s, want %s", n, show(got), show(part))
				}
			}
		}
		for _, more := range [][]byte{{1}, {167}, {255}, b} {
			expectGet(t, slices.Concat(b, more), api.ErrSum)
		}
		checkGet(t, slices.Concat(b, []byte{0}))
		checkGet(t, slices.Concat([]byte{0}, b))
	}
}

// 18.2, 18.3: bytes without any plain order, with their checksum and without it; those that are accepted are what Put returns.
func TestMixedBytes(t *testing.T) {
	m := mix(1818)
	for range 20000 {
		b := m.bytes(m.below(50))
		checkGet(t, b)
		checkGet(t, sealed(b))
		if len(b) >= 16 {
			b[0], b[1], b[2] = 167, 78, byte(1+m.below(2))
			checkGet(t, b)
			checkGet(t, sealed(b))
			expectGet(t, sealed(b), rightByWords(api.Gram{Kind: b[2], Index: uint16(number(b[12:14])), Count: uint16(number(b[14:16]))}))
		}
	}
}

// checkFlip holds Get to ErrSum for an encoding in which at least one bit is inverted, and to none where Flip finds no bit.
func checkFlip(t *testing.T, b []byte, at int, mask uint32) {
	t.Helper()
	want := api.ErrSum
	flipped := crc.Flip(b, at, mask)
	if bytes.Equal(flipped, b) {
		want = api.OK
	}
	if g, err := Get(flipped); err != want || want != api.OK && !same(g, api.Gram{}) {
		t.Fatalf("Get of %s with the mask %x at %d = %s, %d, want %d", show(b), mask, at, show(g), err, want)
	}
}

// 18.3: one bit, two, all and some of 32 consecutive ones, everywhere in short encodings, also across the beginning of the checksum.
func TestFlip(t *testing.T) {
	m := mix(32)
	for _, g := range []api.Gram{
		{Kind: 1, Count: 1}, {Kind: 2, Version: 7, Epoch: 1 << 31, ID: 3, Index: 65534, Count: 65535, Body: []byte{0}},
		{Kind: 1, Epoch: math.MaxUint32, Count: 2, Body: []byte("abcd")}, {Kind: 2, ID: 1, Count: 9, Body: run(13, 255)},
	} {
		b := encoded(g)
		for at := -33; at <= 8*len(b)+1; at++ {
			for _, mask := range []uint32{0, 1, 3, 255, 65535, 1 << 31, 0x82f63b78, 0x1edc6f41, 0x80000001, math.MaxUint32} {
				checkFlip(t, b, at, mask)
			}
			for bit := range 32 {
				checkFlip(t, b, at, 1<<bit|1)
			}
			for range 100 {
				checkFlip(t, b, at, uint32(m.next()>>7))
			}
		}
		for _, at := range []int{math.MinInt, math.MinInt + 31, math.MaxInt - 31, math.MaxInt} {
			checkFlip(t, b, at, math.MaxUint32)
		}
	}
}

// 18.3: bits that are inverted in longer encodings, up to the longest one.
func TestFlipLong(t *testing.T) {
	m := mix(33)
	for _, c := range []struct{ size, count int }{{100, 3000}, {1000, 1000}, {longest, 60}} {
		b := encoded(api.Gram{Kind: 1, Version: 2, Epoch: 5, ID: 6, Count: 7, Body: m.bytes(c.size)})
		for range c.count {
			checkFlip(t, b, m.below(8*len(b)), uint32(m.next()>>7))
			checkFlip(t, b, 8*len(b)-1-m.below(70), uint32(m.next()>>7))
		}
		for at := range 66 {
			checkFlip(t, b, 8*len(b)-1-at, math.MaxUint32)
			checkFlip(t, b, at-1, 1)
		}
	}
}

// 18.3: a checksum detects what is within 32 consecutive bits, and not all beyond: so ErrSum is found out by the checksum alone.
func TestFlipOfMoreBits(t *testing.T) {
	g := api.Gram{Kind: 1, Count: 1, Body: []byte("abcdefgh")}
	b := encoded(g)
	// These 33 bits, the lowest first, are those by which crc divides: the checksum does not change with them.
	changed := crc.Flip(crc.Flip(b, 8*16, 1), 8*16+1, 0x82f63b78)
	got, err := checkGet(t, changed)
	if err != api.OK || same(got, g) {
		t.Errorf("Get(%s) = %s, %d, want another Body", show(changed), show(got), err)
	}
}

// different are datagrams each of which differs from the first one in one field alone, and from each other.
func different() []api.Gram {
	g := api.Gram{Kind: 1, Version: 2, Epoch: 3, ID: 4, Index: 5, Count: 6, Body: []byte("abc")}
	l := []api.Gram{g}
	with := func(change func(*api.Gram)) {
		other := copied(g)
		change(&other)
		l = append(l, other)
	}
	for bit := range 8 {
		with(func(g *api.Gram) { g.Kind ^= 1 << bit })
		with(func(g *api.Gram) { g.Version ^= 1 << bit })
		with(func(g *api.Gram) { g.Body[0] ^= 1 << bit })
		with(func(g *api.Gram) { g.Body[2] ^= 1 << bit })
	}
	for bit := range 16 {
		with(func(g *api.Gram) { g.Index ^= 1 << bit })
		with(func(g *api.Gram) { g.Count ^= 1 << bit })
	}
	for bit := range 32 {
		with(func(g *api.Gram) { g.Epoch ^= 1 << bit })
		with(func(g *api.Gram) { g.ID ^= 1 << bit })
	}
	for _, body := range []string{"", "a", "ab", "bc", "abcd", "abc\x00", "cba", "ABC"} {
		with(func(g *api.Gram) { g.Body = []byte(body) })
	}
	with(func(g *api.Gram) { g.Kind, g.Version = g.Version, g.Kind })
	with(func(g *api.Gram) { g.Epoch, g.ID = g.ID, g.Epoch })
	with(func(g *api.Gram) { g.Index, g.Count = g.Count, g.Index })
	return l
}

// 18.1: Same tells whether all fields are equal, whether the datagrams are valid or not.
func TestSame(t *testing.T) {
	l := append(different(), append(someGrams()[2:], api.Gram{})...)
	for i, a := range l {
		for j, b := range l {
			want := same(a, b)
			if want != (i == j) && i < len(different()) && j < len(different()) {
				t.Fatalf("%s and %s are no good test", show(a), show(b))
			}
			if got := Same(a, copied(b)); got != want {
				t.Errorf("Same(%s, %s) = %t", show(a), show(b), got)
			}
		}
	}
}

// 18.1, R3: a Body that is nil is equal to an empty one, in each function.
func TestEmptyBodies(t *testing.T) {
	none, empty := api.Gram{Kind: 1, Count: 1}, api.Gram{Kind: 1, Count: 1, Body: []byte{}}
	spare := api.Gram{Kind: 1, Count: 1, Body: []byte("abc")[:0]}
	for _, a := range []api.Gram{none, empty, spare} {
		for _, b := range []api.Gram{none, empty, spare} {
			if !Same(a, b) {
				t.Errorf("Same(%#v, %#v) = false", a, b)
			}
		}
		if b := checkBoth(t, a); !bytes.Equal(b, encoded(none)) {
			t.Errorf("Put(%#v) = %v", a, b)
		}
	}
}

// spoil writes over the bytes, and over what they could grow into.
func spoil(b []byte) {
	b = b[:cap(b)]
	for i := range b {
		b[i] ^= 85
	}
}

// 18.1, 18.2, R4: results are new memory, also for those who append to them, and arguments may be changed behind the call.
func TestNewMemory(t *testing.T) {
	for _, g := range someGrams() {
		want := encoded(g)
		arg := copied(g)
		b, _ := Put(arg)
		other, _ := Put(arg)
		spoil(b)
		if !same(arg, g) || !bytes.Equal(other, want) {
			t.Fatalf("what Put returns for %s shares memory", show(g))
		}
		spoil(arg.Body)
		if !bytes.Equal(other, want) {
			t.Fatalf("what Put returns for %s changes with its argument", show(g))
		}
		b = slices.Clone(want)
		got, _ := Get(b)
		second, _ := Get(b)
		spoil(got.Body)
		if !bytes.Equal(b, want) || !same(second, g) {
			t.Fatalf("what Get returns for %s shares memory", show(want))
		}
		spoil(b)
		if !same(second, g) {
			t.Fatalf("what Get returns for %s changes with its argument", show(want))
		}
	}
}

// 18.1, 18.2, R4: the bytes behind a Body or an encoding, in its spare capacity, are neither read nor changed.
func TestSpareBytesAreLeft(t *testing.T) {
	all := slices.Concat(encoded(api.Gram{Kind: 1, Count: 1, Body: []byte("abc")}), []byte("behind"), encoded(api.Gram{Kind: 2, Count: 2}))
	kept := slices.Clone(all)
	for from := range all {
		for to := from; to <= len(all); to++ {
			checkBoth(t, api.Gram{Kind: 2, Count: 1, Body: all[from:to]})
			checkGet(t, all[from:to])
			if !bytes.Equal(all, kept) {
				t.Fatalf("the bytes beside those from %d to %d were changed", from, to)
			}
		}
	}
}

// 18.1, 18.2, R1: bytes of which there are far too many are refused without any work on them.
func TestGreatInputs(t *testing.T) {
	b := make([]byte, 1<<26)
	if g, err := Get(b); err != api.ErrLong || !same(g, api.Gram{}) {
		t.Errorf("Get of 2^26 bytes = %s, %d", show(g), err)
	}
	g := api.Gram{Kind: 1, Count: 1, Body: b}
	if err := Right(g); err != api.ErrLong {
		t.Errorf("Right with a Body of 2^26 bytes = %d", err)
	}
	if out, err := Put(g); err != api.ErrLong || len(out) != 0 {
		t.Errorf("Put with a Body of 2^26 bytes = %s, %d", show(out), err)
	}
}
