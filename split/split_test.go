package split

import (
	"bytes"
	"fmt"
	"math"
	"math/big"
	"slices"
	"testing"

	"annulet/api"
	"annulet/gram"
)

// show keeps what a failed test prints short, and free of bytes that are no text.
func show(v any) string {
	s := fmt.Sprintf("%+q", fmt.Sprintf("%+v", v))
	if len(s) > 300 {
		return s[:300] + " and more"
	}
	return s
}

// mix is a row of numbers without any plain order, the same ones each time.
type mix uint64

func (m *mix) next() uint64 {
	x := uint64(*m)
	x ^= x << 13
	x ^= x >> 7
	x ^= x << 17
	*m = mix(x)
	return x
}

func (m *mix) below(n int) int {
	return int((m.next() >> 20) % uint64(n))
}

func (m *mix) bytes(n int) []byte {
	b := make([]byte, n)
	for i := range b {
		b[i] = byte(m.below(256))
	}
	return b
}

// sumByWords follows the words of 2.1, bit by bit.
func sumByWords(b []byte) uint32 {
	register := uint32(math.MaxUint32)
	for i := range 8 * len(b) {
		if b[i/8]>>(i%8)%2 == 1 {
			register ^= 1
		}
		out := register % 2
		register /= 2
		if out == 1 {
			register ^= 0x82f63b78
		}
	}
	return ^register
}

// great are the bytes of n, the most significant one first.
func great(n uint64, size int) []byte {
	b := make([]byte, size)
	for i := size - 1; i >= 0; i-- {
		b[i] = byte(n % 256)
		n /= 256
	}
	return b
}

// encoded follows the words of chapter 18.
func encoded(g api.Gram) []byte {
	front := slices.Concat(
		[]byte{167, 78, g.Kind, g.Version},
		great(uint64(g.Epoch), 4), great(uint64(g.ID), 4),
		great(uint64(g.Index), 2), great(uint64(g.Count), 2),
		g.Body)
	sum := great(uint64(sumByWords(front)), 4)
	slices.Reverse(sum)
	return append(front, sum...)
}

// roomByWords follows the words of 19.1.
func roomByWords(mtu int) int {
	if mtu < 32 {
		return 0
	}
	if mtu > 65507 {
		return 0
	}
	return mtu - 20
}

// countByWords follows the words of 19.1 with numbers that have no end.
func countByWords(mtu, n int) (int, api.Errno) {
	if mtu < 32 || mtu > 65507 {
		return 0, 1
	}
	if n < 0 {
		return 0, 1
	}
	full, left := new(big.Int).DivMod(big.NewInt(int64(n)), big.NewInt(int64(mtu-20)), new(big.Int))
	if left.Sign() != 0 || n == 0 {
		full.Add(full, big.NewInt(1))
	}
	if full.Cmp(big.NewInt(65535)) > 0 {
		return 0, 5
	}
	return int(full.Int64()), 0
}

// splitByWords follows the words of 19.2, taking byte after byte.
func splitByWords(mtu int, g api.Gram) ([][]byte, api.Errno) {
	count, err := countByWords(mtu, len(g.Body))
	if err != 0 {
		return nil, err
	}
	if g.Kind != 1 && g.Kind != 2 {
		return nil, 9
	}
	bodies := make([][]byte, count)
	for i, c := range g.Body {
		at := i / (mtu - 20)
		bodies[at] = append(bodies[at], c)
	}
	var parts [][]byte
	for i, body := range bodies {
		parts = append(parts, encoded(api.Gram{
			Kind: g.Kind, Version: g.Version, Epoch: g.Epoch, ID: g.ID,
			Index: uint16(i), Count: uint16(count), Body: body,
		}))
	}
	return parts, 0
}

// sameParts tells whether the parts are the same bytes in the same order.
func sameParts(a, b [][]byte) bool {
	return slices.EqualFunc(a, b, bytes.Equal)
}

// copied is g with a Body of its own.
func copied(g api.Gram) api.Gram {
	g.Body = slices.Clone(g.Body)
	return g
}

// checkCount holds Room and Count to the words.
func checkCount(t *testing.T, mtu, n int) (int, api.Errno) {
	t.Helper()
	if room, want := Room(mtu), roomByWords(mtu); room != want {
		t.Fatalf("Room(%d) = %d, want %d", mtu, room, want)
	}
	count, err := Count(mtu, n)
	want, wantErr := countByWords(mtu, n)
	if count != want || err != wantErr {
		t.Fatalf("Count(%d, %d) = %d, %d, want %d, %d", mtu, n, count, err, want, wantErr)
	}
	return count, err
}

// expectCount holds Count to what is written out.
func expectCount(t *testing.T, mtu, n, want int, wantErr api.Errno) {
	t.Helper()
	if count, err := checkCount(t, mtu, n); count != want || err != wantErr {
		t.Fatalf("Count(%d, %d) = %d, %d, want %d, %d", mtu, n, count, err, want, wantErr)
	}
}

// checkSplit holds Split to the words, to R2, to R4, and to the consequences (19.3); it returns what Split returns.
func checkSplit(t *testing.T, mtu int, g api.Gram) ([][]byte, api.Errno) {
	t.Helper()
	kept := copied(g)
	parts, err := Split(mtu, g)
	want, wantErr := splitByWords(mtu, kept)
	if err != wantErr || !sameParts(parts, want) {
		t.Fatalf("Split(%d, %s) = %s, %d, want %s, %d", mtu, show(kept), show(parts), err, show(want), wantErr)
	}
	if !gram.Same(g, kept) {
		t.Fatalf("Split(%d, %s) changed it to %s", mtu, show(kept), show(g))
	}
	if err == api.OK {
		checkConsequences(t, mtu, kept, parts)
	}
	return parts, err
}

// checkConsequences holds the parts to 19.3, as gram's Get reads them, and to Count.
func checkConsequences(t *testing.T, mtu int, g api.Gram, parts [][]byte) {
	t.Helper()
	if count, err := Count(mtu, len(g.Body)); err != api.OK || count != len(parts) {
		t.Fatalf("Count(%d, %d) = %d, %d, and Split returns %d parts", mtu, len(g.Body), count, err, len(parts))
	}
	var all []byte
	for i, b := range parts {
		if len(b) > mtu || i < len(parts)-1 && len(b) != mtu {
			t.Fatalf("part %d of %d has %d bytes with %d at most", i, len(parts), len(b), mtu)
		}
		got, err := gram.Get(b)
		all = append(all, got.Body...)
		want := g
		want.Index, want.Count, want.Body = uint16(i), uint16(len(parts)), got.Body
		if err != api.OK || !gram.Same(got, want) {
			t.Fatalf("part %d of %d is %s, %d, want %s", i, len(parts), show(got), err, show(want))
		}
	}
	if !bytes.Equal(all, g.Body) {
		t.Fatalf("the parts hold %s, want %s", show(all), show(g.Body))
	}
}

// expectSplit holds Split to an error, without any parts.
func expectSplit(t *testing.T, mtu int, g api.Gram, want api.Errno) {
	t.Helper()
	if parts, err := checkSplit(t, mtu, g); err != want || want != api.OK && len(parts) != 0 {
		t.Fatalf("Split(%d, %s) = %s, %d, want the error %d", mtu, show(g), show(parts), err, want)
	}
}

// outside are values of mtu that are out of the range, among them those whose low bits are those of one within.
func outside() []int {
	l := []int{
		math.MinInt, math.MinInt + 32, math.MinInt + 65507, -1 << 32, -1<<32 + 32, -65536, -65535, -65507, -65475, -32, -20, -12, -1,
		0, 1, 11, 12, 19, 20, 21, 30, 31,
		65508, 65509, 65527, 65535, 65536, 65536 + 31, 65536 + 32, 65536 + 1000, 1 << 17, math.MaxInt32, 1 << 31, 1<<32 + 32, 1<<32 + 65507, 1<<48 + 100,
		math.MaxInt - 65507, math.MaxInt - 20, math.MaxInt - 1, math.MaxInt,
	}
	return l
}

// inside are values of mtu within the range.
func inside() []int {
	return []int{32, 33, 34, 35, 36, 37, 40, 52, 63, 64, 65, 127, 128, 148, 255, 256, 257, 276, 277, 1020, 1024, 1044, 1500, 4096, 32767, 32768, 32788, 65505, 65506, 65507}
}

// 19.1, 19.2: the chapter's examples.
func TestExamples(t *testing.T) {
	if room := Room(31); room != 0 {
		t.Errorf("Room(31) = %d", room)
	}
	expectCount(t, 32, 25, 3, api.OK)
	expectCount(t, 32, 786420, 65535, api.OK)
	expectCount(t, 32, 786421, 0, api.ErrLong)
	parts, err := checkSplit(t, 32, api.Gram{Kind: api.GData, Body: []byte("abcdefghijklm")})
	if err != api.OK || len(parts) != 2 || len(parts[0]) != 32 || len(parts[1]) != 21 {
		t.Errorf("Split of 13 bytes = %s, %d", show(parts), err)
	}
}

// 19.2: the second example of the whole: 25 bytes with 32 bytes per datagram.
func TestExampleOfTheWhole(t *testing.T) {
	parts, err := checkSplit(t, 32, api.Gram{Kind: api.GData, Body: bytes.Repeat([]byte("a"), 25)})
	var sizes []int
	for _, b := range parts {
		sizes = append(sizes, len(b)-20)
	}
	if err != api.OK || !slices.Equal(sizes, []int{12, 12, 1}) {
		t.Errorf("the parts have %v bytes of the body, %d", sizes, err)
	}
}

// 19.1: Room of what is within the range and of what is beside it, down to the least number and up to the greatest one.
func TestRoom(t *testing.T) {
	for mtu := -70000; mtu <= 140000; mtu++ {
		want := 0
		if mtu >= 32 && mtu <= 65507 {
			want = mtu - 20
		}
		if room := Room(mtu); room != want {
			t.Fatalf("Room(%d) = %d, want %d", mtu, room, want)
		}
	}
	for _, mtu := range outside() {
		if room := Room(mtu); room != 0 {
			t.Errorf("Room(%d) = %d", mtu, room)
		}
	}
	for _, c := range []struct{ mtu, want int }{{32, 12}, {33, 13}, {1500, 1480}, {65506, 65486}, {65507, 65487}} {
		if room := Room(c.mtu); room != c.want {
			t.Errorf("Room(%d) = %d, want %d", c.mtu, room, c.want)
		}
	}
}

// 19.1, 18.1: Room is what a datagram can hold: with as many bytes it is as long as mtu says.
func TestRoomFitsGram(t *testing.T) {
	for _, mtu := range inside() {
		b, err := gram.Put(api.Gram{Kind: 1, Count: 1, Body: make([]byte, Room(mtu))})
		if err != api.OK || len(b) != mtu {
			t.Errorf("a datagram with Room(%d) bytes has %d, %d", mtu, len(b), err)
		}
	}
}

// 19.1: counts that are written out, at the edges of one part, of two, and of some.
func TestCountWrittenOut(t *testing.T) {
	for _, c := range []struct{ mtu, n, want int }{
		{32, 0, 1}, {32, 1, 1}, {32, 11, 1}, {32, 12, 1}, {32, 13, 2}, {32, 23, 2}, {32, 24, 2}, {32, 25, 3}, {32, 36, 3}, {32, 37, 4},
		{33, 12, 1}, {33, 13, 1}, {33, 14, 2}, {33, 26, 2}, {33, 27, 3},
		{1500, 0, 1}, {1500, 1480, 1}, {1500, 1481, 2}, {1500, 4895, 4},
		{32, 786407, 65534}, {32, 786408, 65534}, {32, 786409, 65535}, {32, 786420, 65535},
		{65507, 0, 1}, {65507, 1, 1}, {65507, 65487, 1}, {65507, 65488, 2}, {65507, 130974, 2}, {65507, 130975, 3}, {65507, 4291690545, 65535},
	} {
		expectCount(t, c.mtu, c.n, c.want, api.OK)
	}
}

// 19.1, R2, R6: ErrArg for an mtu out of the range and for a negative n, ahead of ErrLong.
func TestCountErrArg(t *testing.T) {
	for _, mtu := range outside() {
		for _, n := range []int{math.MinInt, -1, 0, 1, 12, 25, 786420, 786421, 1 << 40, math.MaxInt} {
			expectCount(t, mtu, n, 0, api.ErrArg)
		}
	}
	for _, mtu := range inside() {
		for _, n := range []int{-1, -2, -12, -13, -Room(mtu), -Room(mtu) - 1, -65535, -786420, -786421, math.MinInt32, -1 << 32, -1<<32 + 5, math.MinInt + 1, math.MinInt} {
			expectCount(t, mtu, n, 0, api.ErrArg)
		}
	}
}

// 19.1: for each mtu, 65535 parts are taken and one byte more is ErrLong, also where the number of parts has low bits like a small one's.
func TestCountErrLong(t *testing.T) {
	for mtu := 32; mtu <= 65507; mtu++ {
		most := 65535 * (mtu - 20)
		expectCount(t, mtu, most-(mtu-20), 65534, api.OK)
		expectCount(t, mtu, most-(mtu-20)+1, 65535, api.OK)
		expectCount(t, mtu, most, 65535, api.OK)
		expectCount(t, mtu, most+1, 0, api.ErrLong)
	}
	for _, mtu := range inside() {
		room := mtu - 20
		for _, count := range []int{65536, 65537, 65538, 1 << 17, 1<<17 + 1, 1 << 31, 1<<31 + 1, 1 << 32, 1<<32 + 1, 1<<32 + 3, 1 << 46} {
			expectCount(t, mtu, count*room-1, 0, api.ErrLong)
			expectCount(t, mtu, count*room, 0, api.ErrLong)
			expectCount(t, mtu, count*room+1, 0, api.ErrLong)
		}
		for _, n := range []int{1 << 33, 1<<33 + 1, 1 << 48, 1 << 62, 1<<62 + 5, math.MaxInt - 65507, math.MaxInt - room, math.MaxInt - 12, math.MaxInt - 1, math.MaxInt} {
			expectCount(t, mtu, n, 0, api.ErrLong)
		}
	}
}

// 19.1: each n that is not great, for each mtu that is small, and numbers without any plain order.
func TestCountFollowsWords(t *testing.T) {
	for mtu := 28; mtu < 80; mtu++ {
		for n := -3; n < 300; n++ {
			checkCount(t, mtu, n)
		}
	}
	m := mix(19)
	for range 200000 {
		mtu, n := m.below(1<<(1+m.below(17))), int(m.next()>>(1+m.below(63)))
		checkCount(t, mtu, n)
		checkCount(t, mtu, n%(65536*65536))
		checkCount(t, -mtu, -n)
	}
}

// 19.1: the parts that Count counts hold n bytes, and one part fewer does not.
func TestCountIsLeast(t *testing.T) {
	m := mix(191)
	for range 50000 {
		mtu := 32 + m.below(65507-31)
		n := m.below(65535*Room(mtu) + 1)
		count, err := checkCount(t, mtu, n)
		if err != api.OK || count*Room(mtu) < n || count > 1 && (count-1)*Room(mtu) >= n {
			t.Fatalf("Count(%d, %d) = %d, %d", mtu, n, count, err)
		}
	}
}

// 19.2: datagrams that are written out, as chapter 18 encodes them.
func TestWrittenOut(t *testing.T) {
	g := api.Gram{Kind: 2, Version: 3, Epoch: 0x04050607, ID: 0x08090a0b, Index: 9, Count: 9, Body: []byte("abcdefghijklmnopqrstuvwxy")}
	parts, err := checkSplit(t, 32, g)
	want := []string{
		"\xa7\x4e\x02\x03\x04\x05\x06\x07\x08\x09\x0a\x0b\x00\x00\x00\x03abcdefghijkl",
		"\xa7\x4e\x02\x03\x04\x05\x06\x07\x08\x09\x0a\x0b\x00\x01\x00\x03mnopqrstuvwx",
		"\xa7\x4e\x02\x03\x04\x05\x06\x07\x08\x09\x0a\x0b\x00\x02\x00\x03y",
	}
	if err != api.OK || len(parts) != 3 {
		t.Fatalf("Split = %s, %d", show(parts), err)
	}
	for i, b := range parts {
		if string(b[:len(b)-4]) != want[i] {
			t.Errorf("part %d is %q, want %q", i, b, want[i])
		}
	}
	none, err := checkSplit(t, 32, api.Gram{Kind: 1})
	if err != api.OK || len(none) != 1 || string(none[0]) != "\xa7\x4e\x01\x00\x00\x00\x00\x00\x00\x00\x00\x00\x00\x00\x00\x01\xf4\x71\xe3\x5d" {
		t.Errorf("Split without a Body = %q, %d", none, err)
	}
}

// 19.2, 19.3: bodies of each length, with each mtu that is small.
func TestSplitEachLength(t *testing.T) {
	m := mix(192)
	body := m.bytes(110)
	for mtu := 28; mtu < 70; mtu++ {
		for n := range body {
			checkSplit(t, mtu, api.Gram{Kind: uint8(1 + n%2), Version: uint8(mtu), Epoch: 5, ID: uint32(n), Body: body[:n]})
		}
	}
}

// 19.2, 19.3: bodies whose lengths are at the edges of some parts, with each mtu of the list.
func TestSplitEdges(t *testing.T) {
	m := mix(193)
	body := m.bytes(3*65487 + 2)
	for _, mtu := range inside() {
		for _, count := range []int{0, 1, 2, 3} {
			for n := count*Room(mtu) - 1; n <= count*Room(mtu)+1; n++ {
				if n >= 0 {
					checkSplit(t, mtu, api.Gram{Kind: 1, Version: 2, Epoch: 3, ID: 4, Body: body[:n]})
				}
			}
		}
	}
}

// 19.2: each Kind; all but two are ErrKind, whether there is a Body or not.
func TestKinds(t *testing.T) {
	for kind := range 256 {
		want := api.ErrKind
		if kind == 1 || kind == 2 {
			want = api.OK
		}
		for _, n := range []int{0, 1, 12, 13, 40} {
			expectSplit(t, 32, api.Gram{Kind: uint8(kind), Version: 1, ID: 3, Body: make([]byte, n)}, want)
			expectSplit(t, 65507, api.Gram{Kind: uint8(kind), Index: 1, Count: 2, Body: make([]byte, n)}, want)
		}
	}
}

// 19.2, R2: the errors of Count come first: ErrArg for an mtu out of the range and ErrLong for a Body that is too long, also with an unknown Kind.
func TestErrorsOfCountFirst(t *testing.T) {
	long := make([]byte, 786421)
	for _, kind := range []uint8{0, 1, 2, 3, 255} {
		for _, mtu := range outside() {
			expectSplit(t, mtu, api.Gram{Kind: kind}, api.ErrArg)
			expectSplit(t, mtu, api.Gram{Kind: kind, Count: 1, Body: []byte("abcdefghijklm")}, api.ErrArg)
			expectSplit(t, mtu, api.Gram{Kind: kind, Body: long}, api.ErrArg)
		}
		expectSplit(t, 32, api.Gram{Kind: kind, Body: long}, api.ErrLong)
		expectSplit(t, 32, api.Gram{Kind: kind, Index: 1, Count: 2, Body: long}, api.ErrLong)
	}
	for _, kind := range []uint8{0, 3, 255} {
		expectSplit(t, 32, api.Gram{Kind: kind, Body: long[:786420]}, api.ErrKind)
		expectSplit(t, 33, api.Gram{Kind: kind, Body: long}, api.ErrKind)
	}
}

// 19.2, 19.3: 65535 parts, so that each Index is there, and one byte more than they hold.
func TestMostParts(t *testing.T) {
	m := mix(194)
	for _, mtu := range []int{32, 33, 36} {
		body := m.bytes(65535*Room(mtu) + 1)
		g := api.Gram{Kind: 2, Version: 255, Epoch: math.MaxUint32, ID: 1 << 31, Body: body[:len(body)-1]}
		if parts, err := checkSplit(t, mtu, g); err != api.OK || len(parts) != 65535 || len(parts[65534]) != mtu {
			t.Fatalf("Split into 65535 parts = %d, %d", len(parts), err)
		}
		g.Body = body[:len(body)-Room(mtu)]
		if parts, err := checkSplit(t, mtu, g); err != api.OK || len(parts) != 65535 || len(parts[65534]) != 21 {
			t.Fatalf("Split into 65535 parts, the last one with one byte = %d, %d", len(parts), err)
		}
		g.Body = body[:len(body)-Room(mtu)-1]
		if parts, err := checkSplit(t, mtu, g); err != api.OK || len(parts) != 65534 {
			t.Fatalf("Split into 65534 parts = %d, %d", len(parts), err)
		}
		g.Body = body
		expectSplit(t, mtu, g, api.ErrLong)
	}
}

// 19.2: the Index and the Count are ignored, also those with which no datagram is valid.
func TestIndexAndCountIgnored(t *testing.T) {
	for _, body := range []string{"", "abc", "abcdefghijklm", "abcdefghijklmnopqrstuvwxyzabcdefghijklm"} {
		want, err := checkSplit(t, 32, api.Gram{Kind: 1, Version: 1, Epoch: 2, ID: 3, Body: []byte(body)})
		if err != api.OK {
			t.Fatalf("Split = %d", err)
		}
		for _, index := range []uint16{0, 1, 2, 3, 4, 255, 256, 65534, 65535} {
			for _, count := range []uint16{0, 1, 2, 3, 4, 255, 256, 65534, 65535} {
				g := api.Gram{Kind: 1, Version: 1, Epoch: 2, ID: 3, Index: index, Count: count, Body: []byte(body)}
				if parts, err := checkSplit(t, 32, g); err != api.OK || !sameParts(parts, want) {
					t.Fatalf("Split of %s = %s, %d, want %s", show(g), show(parts), err, show(want))
				}
				g.Kind = 7
				expectSplit(t, 32, g, api.ErrKind)
			}
		}
	}
}

// 19.2: each field is that of g in each part, with others beside it that must not be mixed up with it.
func TestFields(t *testing.T) {
	body := []byte("abcdefghijklmnopqrstuvwxyz")
	for bit := range 32 {
		checkSplit(t, 32, api.Gram{Kind: 1, Version: 1, Epoch: 1 << bit, ID: 3, Body: body})
		checkSplit(t, 32, api.Gram{Kind: 2, Version: 2, Epoch: 3, ID: 1 << bit, Body: body})
		checkSplit(t, 32, api.Gram{Kind: 2, Epoch: 1<<bit - 1, ID: ^uint32(1 << bit), Body: body})
	}
	for version := range 256 {
		checkSplit(t, 32, api.Gram{Kind: 1, Version: uint8(version), Epoch: math.MaxUint32, ID: math.MaxUint32, Body: body})
	}
}

// 19.2, 19.3: datagrams without any plain order, with an mtu within the range or beside it.
func TestMixed(t *testing.T) {
	m := mix(195)
	for range 8000 {
		g := api.Gram{
			Kind: uint8(m.below(4)), Version: uint8(m.below(256)), Epoch: uint32(m.next()), ID: uint32(m.next()),
			Index: uint16(m.next()), Count: uint16(m.next()), Body: m.bytes(m.below(1 << (1 + m.below(9)))),
		}
		checkSplit(t, 28+m.below(1<<(1+m.below(8))), g)
	}
}

// 19.2, R3: a Body that is nil is equal to an empty one: there is one part, with nothing in it.
func TestEmptyBodies(t *testing.T) {
	for _, mtu := range inside() {
		for _, body := range [][]byte{nil, {}, []byte("abc")[:0]} {
			parts, err := checkSplit(t, mtu, api.Gram{Kind: 1, ID: 7, Body: body})
			if err != api.OK || len(parts) != 1 || len(parts[0]) != 20 {
				t.Errorf("Split(%d) of an empty Body = %s, %d", mtu, show(parts), err)
			}
		}
	}
}

// spoil writes over the bytes, and over what they could grow into.
func spoil(b []byte) {
	b = b[:cap(b)]
	for i := range b {
		b[i] ^= 85
	}
}

// 19.2, R4: the parts share memory with neither the Body, nor each other, nor those of another call, also behind their ends.
func TestNewMemory(t *testing.T) {
	for _, n := range []int{0, 1, 12, 13, 24, 25, 60} {
		m := mix(196)
		g := api.Gram{Kind: 1, Version: 2, Epoch: 3, ID: 4, Body: m.bytes(n)}
		want, _ := splitByWords(32, g)
		kept := copied(g)
		other, _ := Split(32, g)
		for i := range want {
			parts, _ := Split(32, g)
			spoil(parts[i])
			_ = append(parts[i], "zzzzzzzzzzzzzzzzzzzzzzzzzzzzzzzzzzzz"...)
			parts[i] = want[i]
			if !sameParts(parts, want) || !sameParts(other, want) || !gram.Same(g, kept) {
				t.Fatalf("part %d of %d bytes shares memory", i, n)
			}
		}
		rows, _ := Split(32, g)
		clear(rows[:cap(rows)])
		spoil(g.Body)
		if !sameParts(other, want) {
			t.Fatalf("the parts of %d bytes change with the Body or with those of another call", n)
		}
	}
}

// 19.2, R4: the bytes beside a Body, also in its spare capacity, are neither read nor changed.
func TestSpareBytesAreLeft(t *testing.T) {
	all := []byte("ahead of it, abcdefghijklmnopqrstuvwxyz, and behind it as well")
	kept := slices.Clone(all)
	for from := range all {
		for to := from; to <= len(all); to++ {
			checkSplit(t, 33, api.Gram{Kind: 2, ID: 9, Body: all[from:to]})
			if !bytes.Equal(all, kept) {
				t.Fatalf("the bytes beside those from %d to %d were changed", from, to)
			}
		}
	}
}

// 19.2, R5: no call leaves anything to the next one, whether it has an error or not.
func TestCallsLeaveNothing(t *testing.T) {
	g := api.Gram{Kind: 1, Version: 2, Epoch: 3, ID: 4, Body: []byte("abcdefghijklmnopqrstuvwxyz")}
	for range 3 {
		checkSplit(t, 32, g)
		expectSplit(t, 31, g, api.ErrArg)
		expectSplit(t, 32, api.Gram{Kind: 3, Body: g.Body}, api.ErrKind)
		checkSplit(t, 40, api.Gram{Kind: 2})
	}
}

// 19.2, R1: a great Body is refused without any work on it, or divided into parts of the greatest size.
func TestGreatInputs(t *testing.T) {
	body := make([]byte, 1<<26)
	for _, mtu := range []int{32, 100, 1043} {
		if parts, err := Split(mtu, api.Gram{Kind: 1, Body: body}); err != api.ErrLong || len(parts) != 0 {
			t.Errorf("Split(%d) of 2^26 bytes = %d parts, %d", mtu, len(parts), err)
		}
	}
	if parts, err := Split(31, api.Gram{Kind: 1, Body: body}); err != api.ErrArg || len(parts) != 0 {
		t.Errorf("Split(31) of 2^26 bytes = %d parts, %d", len(parts), err)
	}
	g := api.Gram{Kind: 1, Version: 2, Epoch: 3, ID: 4, Body: body[:1<<24]}
	parts, err := Split(65507, g)
	if err != api.OK || len(parts) != 257 {
		t.Fatalf("Split(65507) of 2^24 bytes = %d parts, %d", len(parts), err)
	}
	checkConsequences(t, 65507, g, parts)
}
