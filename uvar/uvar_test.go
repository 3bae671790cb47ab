package uvar

import (
	"bytes"
	"math"
	"math/big"
	"slices"
	"testing"

	"annulet/api"
)

// run is count times the byte c, followed by the bytes of tail.
func run(count int, c byte, tail ...byte) []byte {
	return append(bytes.Repeat([]byte{c}, count), tail...)
}

var encodings = []struct {
	n uint64
	b []byte
}{
	{0, []byte{0}},
	{1, []byte{1}},
	{127, []byte{127}},
	{128, []byte{128, 1}},
	{129, []byte{129, 1}},
	{255, []byte{255, 1}},
	{256, []byte{128, 2}},
	{300, []byte{172, 2}},
	{16383, []byte{255, 127}},
	{16384, []byte{128, 128, 1}},
	{1<<32 - 1, []byte{255, 255, 255, 255, 15}},
	{1 << 32, []byte{128, 128, 128, 128, 16}},
	{1<<56 - 1, run(7, 255, 127)},
	{1 << 56, run(8, 128, 1)},
	{1<<63 - 1, run(8, 255, 127)},
	{1 << 63, run(9, 128, 1)},
	{1<<63 + 1, run(1, 129, run(8, 128, 1)...)},
	{math.MaxUint64, run(9, 255, 1)},
}

// numbers holds both sides of every power of 2.
func numbers() []uint64 {
	l := []uint64{0, math.MaxUint64, 300, 0x0123456789abcdef, 0xfedcba9876543210}
	for i := range 64 {
		p := uint64(1) << i
		l = append(l, p-1, p, p+1)
	}
	return l
}

// encode follows the words of 1.1 with numbers of any size.
func encode(n *big.Int) []byte {
	var b []byte
	rest := new(big.Int).Set(n)
	group := new(big.Int)
	for {
		rest.DivMod(rest, big.NewInt(128), group)
		if rest.Sign() == 0 {
			return append(b, byte(group.Int64()))
		}
		b = append(b, byte(group.Int64()+128))
	}
}

// decode follows the words of 1.2, check by check.
func decode(b []byte) (uint64, int, api.Errno) {
	last := slices.IndexFunc(b, func(c byte) bool { return c < 128 })
	if len(b) >= 10 && (last < 0 || last >= 10) {
		return 0, 0, api.ErrForm
	}
	if last < 0 {
		return 0, 0, api.ErrShort
	}
	n := new(big.Int)
	for i := last; i >= 0; i-- {
		n.Mul(n, big.NewInt(128))
		n.Add(n, big.NewInt(int64(b[i]%128)))
	}
	if n.BitLen() > 64 || last > 0 && b[last] == 0 {
		return 0, 0, api.ErrForm
	}
	return n.Uint64(), last + 1, api.OK
}

// sequences gives bytes of every length up to 12 to the function: all of one and two bytes, and longer ones with edges at the end.
func sequences(give func(b []byte)) {
	give(nil)
	give([]byte{})
	for c := range 256 {
		give([]byte{byte(c)})
		for d := range 256 {
			give([]byte{byte(c), byte(d)})
		}
	}
	edges := []byte{0, 1, 2, 3, 63, 64, 126, 127, 128, 129, 254, 255}
	for size := range 10 {
		for _, fill := range []byte{128, 129, 170, 255} {
			for _, c := range edges {
				for _, d := range edges {
					give(run(size+1, fill, c, d))
				}
			}
		}
	}
}

func TestPut(t *testing.T) { // 1.1
	for _, e := range encodings {
		if b := Put(nil, e.n); !bytes.Equal(b, e.b) {
			t.Errorf("Put(nil, %d) = %v, want %v", e.n, b, e.b)
		}
	}
	for _, n := range numbers() {
		want := encode(new(big.Int).SetUint64(n))
		if b := Put([]byte{}, n); !bytes.Equal(b, want) {
			t.Errorf("Put of %d = %v, want %v", n, b, want)
		}
	}
}

func TestPutKeepsWhatIsBefore(t *testing.T) { // 1.1, R4
	for _, e := range encodings {
		for _, spare := range []int{0, 1, 5, 20} {
			for _, before := range [][]byte{{}, {0}, {128}, {255, 0, 128}} {
				b := append(make([]byte, 0, len(before)+spare), before...)
				want := slices.Concat(before, e.b)
				if got := Put(b, e.n); !bytes.Equal(got, want) {
					t.Errorf("Put(%v, %d) with %d bytes to spare = %v, want %v", before, e.n, spare, got, want)
				}
				if !bytes.Equal(b, before) {
					t.Errorf("Put(%v, %d) changed its argument to %v", before, e.n, b)
				}
			}
		}
	}
}

func TestSize(t *testing.T) { // 1.1
	for _, e := range encodings {
		if s := Size(e.n); s != len(e.b) {
			t.Errorf("Size(%d) = %d, want %d", e.n, s, len(e.b))
		}
	}
	for _, n := range numbers() {
		want := len(encode(new(big.Int).SetUint64(n)))
		if s := Size(n); s != want {
			t.Errorf("Size(%d) = %d, want %d", n, s, want)
		}
	}
}

func TestGet(t *testing.T) { // 1.2
	tails := [][]byte{nil, {0}, {1}, {127}, {128}, {255}, {172, 2}, run(12, 128), run(12, 255)}
	for _, e := range encodings {
		for _, tail := range tails {
			b := slices.Concat(e.b, tail)
			n, size, err := Get(b)
			if n != e.n || size != len(e.b) || err != api.OK {
				t.Errorf("Get(%v) = %d, %d, %d, want %d, %d, 0", b, n, size, err, e.n, len(e.b))
			}
		}
	}
}

func TestGetRefuses(t *testing.T) { // 1.2, R2
	cases := []struct {
		name string
		b    []byte
		want api.Errno
	}{
		{"nil", nil, api.ErrShort},
		{"empty", []byte{}, api.ErrShort},
		{"one byte of an encoding", []byte{128}, api.ErrShort},
		{"one full byte of an encoding", []byte{255}, api.ErrShort},
		{"two bytes of an encoding", []byte{172, 128}, api.ErrShort},
		{"nine bytes of an encoding", run(9, 128), api.ErrShort},
		{"nine full bytes of an encoding", run(9, 255), api.ErrShort},
		{"ten bytes without an end", run(10, 128), api.ErrForm},
		{"ten full bytes without an end", run(10, 255), api.ErrForm},
		{"ten bytes, the last of which is barely too great", run(9, 129, 128), api.ErrForm},
		{"an end after ten bytes", run(10, 128, 1), api.ErrForm},
		{"a 0 after ten bytes", run(10, 255, 0), api.ErrForm},
		{"twenty bytes without an end", run(20, 200), api.ErrForm},
		{"2^64", run(9, 128, 2), api.ErrForm},
		{"2^64 + 2^63", run(9, 128, 3), api.ErrForm},
		{"2^65 - 1", run(9, 255, 3), api.ErrForm},
		{"2^69", run(9, 128, 64), api.ErrForm},
		{"2^70 - 1", run(9, 255, 127), api.ErrForm},
		{"0 in two bytes", []byte{128, 0}, api.ErrForm},
		{"127 in two bytes", []byte{255, 0}, api.ErrForm},
		{"300 in three bytes", []byte{172, 130, 0}, api.ErrForm},
		{"0 in nine bytes", run(8, 128, 0), api.ErrForm},
		{"0 in ten bytes", run(9, 128, 0), api.ErrForm},
		{"2^63 - 1 in ten bytes", run(9, 255, 0), api.ErrForm},
		{"0 in two bytes, and more behind", []byte{128, 0, 1}, api.ErrForm},
	}
	for _, c := range cases {
		n, size, err := Get(c.b)
		if n != 0 || size != 0 || err != c.want {
			t.Errorf("%s: Get(%v) = %d, %d, %d, want 0, 0, %d", c.name, c.b, n, size, err, c.want)
		}
	}
}

func TestGetFollowsTheChapter(t *testing.T) { // 1.2
	sequences(func(b []byte) {
		kept := slices.Clone(b)
		n, size, err := Get(b)
		wantN, wantSize, wantErr := decode(kept)
		if n != wantN || size != wantSize || err != wantErr {
			t.Errorf("Get(%v) = %d, %d, %d, want %d, %d, %d", kept, n, size, err, wantN, wantSize, wantErr)
		}
		if !bytes.Equal(b, kept) {
			t.Errorf("Get(%v) changed its argument to %v", kept, b)
		}
	})
}

var zigzags = []struct {
	n int64
	u uint64
}{
	{0, 0},
	{-1, 1},
	{1, 2},
	{-2, 3},
	{2, 4},
	{-64, 127},
	{64, 128},
	{-1 << 31, 1<<32 - 1},
	{1 << 31, 1 << 32},
	{-1 << 62, 1<<63 - 1},
	{1 << 62, 1 << 63},
	{math.MinInt64 + 1, math.MaxUint64 - 2},
	{math.MaxInt64, math.MaxUint64 - 1},
	{math.MinInt64, math.MaxUint64},
}

func TestZigAndZag(t *testing.T) { // 1.3
	for _, z := range zigzags {
		if u := Zig(z.n); u != z.u {
			t.Errorf("Zig(%d) = %d, want %d", z.n, u, z.u)
		}
		if n := Zag(z.u); n != z.n {
			t.Errorf("Zag(%d) = %d, want %d", z.u, n, z.n)
		}
	}
}

func TestZigFollowsTheChapter(t *testing.T) { // 1.3
	for _, bits := range numbers() {
		n := int64(bits)
		want := new(big.Int).Mul(big.NewInt(2), big.NewInt(n))
		if n < 0 {
			want.Neg(want)
			want.Sub(want, big.NewInt(1))
		}
		if u := Zig(n); u != want.Uint64() {
			t.Errorf("Zig(%d) = %d, want %d", n, u, want)
		}
		if back := Zag(Zig(n)); back != n {
			t.Errorf("Zag(Zig(%d)) = %d", n, back)
		}
		if back := Zig(Zag(bits)); back != bits {
			t.Errorf("Zig(Zag(%d)) = %d", bits, back)
		}
	}
}

func TestPutAll(t *testing.T) { // 1.4
	var l []uint64
	var want []byte
	for _, e := range encodings {
		l = append(l, e.n)
		want = append(want, e.b...)
	}
	kept := slices.Clone(l)
	if b := PutAll(l); !bytes.Equal(b, want) {
		t.Errorf("PutAll(%v) = %v, want %v", l, b, want)
	}
	if !slices.Equal(l, kept) {
		t.Errorf("PutAll changed its argument to %v", l)
	}
	if b := PutAll([]uint64{300, 0, 0, 1}); !bytes.Equal(b, []byte{172, 2, 0, 0, 1}) {
		t.Errorf("PutAll of 300, 0, 0, 1 = %v", b)
	}
	for _, empty := range [][]uint64{nil, {}} {
		if b := PutAll(empty); len(b) != 0 {
			t.Errorf("PutAll of no numbers = %v", b)
		}
	}
}

func TestGetAll(t *testing.T) { // 1.4
	cases := []struct {
		b    []byte
		want []uint64
	}{
		{nil, nil},
		{[]byte{}, nil},
		{[]byte{0}, []uint64{0}},
		{[]byte{0, 0, 0}, []uint64{0, 0, 0}},
		{[]byte{172, 2}, []uint64{300}},
		{[]byte{172, 2, 0, 1, 128, 1}, []uint64{300, 0, 1, 128}},
		{slices.Concat(run(9, 255, 1), run(8, 255, 127), run(9, 128, 1)), []uint64{math.MaxUint64, 1<<63 - 1, 1 << 63}},
	}
	for _, c := range cases {
		kept := slices.Clone(c.b)
		l, size, err := GetAll(c.b)
		if !slices.Equal(l, c.want) || size != len(c.b) || err != api.OK {
			t.Errorf("GetAll(%v) = %v, %d, %d, want %v, %d, 0", c.b, l, size, err, c.want, len(c.b))
		}
		if !bytes.Equal(c.b, kept) {
			t.Errorf("GetAll(%v) changed its argument to %v", kept, c.b)
		}
	}
}

func TestGetAllRefuses(t *testing.T) { // 1.4, R2
	faults := []struct {
		b    []byte
		want api.Errno
	}{
		{[]byte{128}, api.ErrShort},
		{run(9, 255), api.ErrShort},
		{run(10, 128), api.ErrForm},
		{run(10, 255, 1), api.ErrForm},
		{run(9, 255, 2), api.ErrForm},
		{[]byte{128, 0}, api.ErrForm},
		{[]byte{128, 0, 5, 6}, api.ErrForm},
		{[]byte{128, 0, 128}, api.ErrForm},
	}
	for _, f := range faults {
		for _, before := range [][]uint64{nil, {0}, {300}, {1, 128, 0, 1 << 63, math.MaxUint64}} {
			good := PutAll(before)
			b := slices.Concat(good, f.b)
			l, at, err := GetAll(b)
			if len(l) != 0 || at != len(good) || err != f.want {
				t.Errorf("GetAll(%v) = %v, %d, %d, want no numbers, %d, %d", b, l, at, err, len(good), f.want)
			}
		}
	}
}

func TestBytesGetBack(t *testing.T) { // 1.5
	for _, n := range numbers() {
		b := Put(nil, n)
		got, size, err := Get(b)
		if got != n || size != len(b) || err != api.OK {
			t.Errorf("Get(Put(nil, %d)) = %d, %d, %d", n, got, size, err)
		}
		for end := range len(b) {
			if _, _, err := Get(b[:end]); err != api.ErrShort {
				t.Errorf("Get(%v) = %d, want ErrShort", b[:end], err)
			}
		}
	}
	sequences(func(b []byte) {
		n, size, err := Get(b)
		if err != api.OK {
			return
		}
		if again := Put(nil, n); !bytes.Equal(again, b[:size]) {
			t.Errorf("Get(%v) = %d, whose encoding is %v", b, n, again)
		}
	})
}

func TestListsGetBack(t *testing.T) { // 1.4, 1.5
	l := numbers()
	b := PutAll(l)
	got, size, err := GetAll(b)
	if !slices.Equal(got, l) || size != len(b) || err != api.OK {
		t.Errorf("GetAll(PutAll(l)) = %v, %d, %d, want %v, %d, 0", got, size, err, l, len(b))
	}
	clear(b)
	if !slices.Equal(got, l) {
		t.Error("the numbers of GetAll change with its argument")
	}
	sequences(func(b []byte) {
		l, _, err := GetAll(b)
		if err != api.OK {
			return
		}
		if again := PutAll(l); !bytes.Equal(again, b) {
			t.Errorf("GetAll(%v) = %v, whose encodings are %v", b, l, again)
		}
	})
}
