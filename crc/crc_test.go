package crc

import (
	"bytes"
	"fmt"
	"math"
	"slices"
	"testing"
)

// bitsOf lists the bits of b as the chapter's words order them.
func bitsOf(b []byte) []int {
	l := make([]int, 8*len(b))
	for i := range l {
		l[i] = int(b[i/8]) >> (i % 8) & 1
	}
	return l
}

// bytesOf is the inverse of bitsOf.
func bytesOf(l []int) []byte {
	b := make([]byte, len(l)/8)
	for i, bit := range l {
		b[i/8] += byte(bit << (i % 8))
	}
	return b
}

// stepBit follows the words of the chapter's 'A step'.
func stepBit(register uint32, bit int) uint32 {
	if bit == 1 {
		register ^= 1
	}
	out := register % 2
	register /= 2
	if out == 1 {
		register ^= 0x82f63b78
	}
	return register
}

// step follows the words of 2.1.
func step(register uint32, b []byte) uint32 {
	for _, bit := range bitsOf(b) {
		register = stepBit(register, bit)
	}
	return register
}

// period is a number of bytes 0 that leaves every register as it is: the polynomial is x + 1 times a primitive one of degree 31.
const period = 1<<31 - 1

// join follows the words of 2.2, with the steps that cancel each other left out.
func join(a, b uint32, n int) uint32 {
	return step(a, make([]byte, max(n, 0)%period)) ^ b
}

// flip follows the words of 2.3; places are counted from at, as at + i may be no int.
func flip(b []byte, at int, mask uint32) []byte {
	l := bitsOf(b)
	for place := range l {
		before := at < math.MinInt+len(l) // then at + 31 is far below 0, and place - at may be no int
		if !before && place-at >= 0 && place-at < 32 && mask>>(place-at)&1 == 1 {
			l[place] = 1 - l[place]
		}
	}
	return bytesOf(l)
}

// mixed yields count numbers without any plain order, the same ones each time.
func mixed(count int) []uint32 {
	l := make([]uint32, count)
	x := uint64(88172645463325252)
	for i := range l {
		x ^= x << 13
		x ^= x >> 7
		x ^= x << 17
		l[i] = uint32(x >> 20)
	}
	return l
}

// mixedBytes yields size bytes of that kind.
func mixedBytes(size int) []byte {
	b := make([]byte, size)
	for i, n := range mixed(size) {
		b[i] = byte(n)
	}
	return b
}

// counting yields size bytes 0, 1, 2 and so on.
func counting(size int) []byte {
	b := make([]byte, size)
	for i := range b {
		b[i] = byte(i)
	}
	return b
}

// sequences yields bytes of many lengths, with bytes 0 and 255 alone among them.
func sequences() [][]byte {
	l := [][]byte{nil, {}}
	for c := range 256 {
		l = append(l, []byte{byte(c)})
	}
	for _, size := range []int{2, 3, 4, 5, 7, 8, 9, 16, 31, 32, 33, 64, 100, 257, 1000} {
		l = append(l, make([]byte, size), bytes.Repeat([]byte{255}, size), mixedBytes(size), counting(size))
	}
	return l
}

// registers holds each single bit, each bit left out, and others.
func registers() []uint32 {
	l := append([]uint32{0, math.MaxUint32, 0x82f63b78, 0x04c11db7, 0xdeadbeef}, mixed(20)...)
	for i := range 32 {
		l = append(l, 1<<i, ^(uint32(1) << i))
	}
	return l
}

func TestSum(t *testing.T) { // 2.1
	reversed := counting(32)
	slices.Reverse(reversed)
	cases := []struct {
		name string
		b    []byte
		want uint32
	}{
		{"nil", nil, 0},
		{"no bytes", []byte{}, 0},
		{"the chapter's example", []byte("123456789"), 0xe3069283},
		{"a byte 0", []byte{0}, 0x527d5351},
		{"a letter", []byte("a"), 0xc1d04330},
		{"32 bytes 0", make([]byte, 32), 0x8a9136aa},
		{"32 bytes 255", bytes.Repeat([]byte{255}, 32), 0x62a8ab43},
		{"32 bytes that increase", counting(32), 0x46dd794e},
		{"32 bytes that decrease", reversed, 0x113fdb5c},
	}
	for _, c := range cases {
		if got := Sum(c.b); got != c.want {
			t.Errorf("Sum of %s = %08x, want %08x", c.name, got, c.want)
		}
	}
}

func TestSumFollowsTheChapter(t *testing.T) { // 2.1
	for _, b := range sequences() {
		if got, want := Sum(b), ^step(math.MaxUint32, b); got != want {
			t.Errorf("Sum(%v) = %08x, want %08x", b, got, want)
		}
	}
}

func TestStep(t *testing.T) { // 2.1
	cases := []struct {
		state uint32
		b     []byte
		want  uint32
	}{
		{0, nil, 0},
		{5, nil, 5},
		{math.MaxUint32, []byte{}, math.MaxUint32},
		{0, []byte{0}, 0},
		{0, []byte{128}, 0x82f63b78},
		{128, []byte{0}, 0x82f63b78},
		{128, []byte{128}, 0},
		{256, []byte{0}, 1},
		{1 << 31, []byte{0}, 1 << 23},
		{1 << 31, []byte{128}, 1<<23 ^ 0x82f63b78},
		{math.MaxUint32, []byte("123456789"), ^uint32(0xe3069283)},
	}
	for _, c := range cases {
		if got := Step(c.state, c.b); got != c.want {
			t.Errorf("Step(%08x, %v) = %08x, want %08x", c.state, c.b, got, c.want)
		}
	}
}

func TestStepFollowsTheChapter(t *testing.T) { // 2.1
	for _, b := range sequences() {
		for _, state := range registers() {
			if got, want := Step(state, b), step(state, b); got != want {
				t.Errorf("Step(%08x, %v) = %08x, want %08x", state, b, got, want)
			}
		}
	}
}

func TestStepGoesOn(t *testing.T) { // 2.1
	b := mixedBytes(40)
	for _, state := range registers() {
		whole := Step(state, b)
		for cut := range len(b) + 1 {
			if got := Step(Step(state, b[:cut]), b[cut:]); got != whole {
				t.Errorf("Step from %08x, cut at %d, = %08x, want %08x", state, cut, got, whole)
			}
		}
	}
}

func TestSumsLeaveTheirArgument(t *testing.T) { // 2.1, R4
	for _, b := range sequences() {
		kept := slices.Clone(b)
		first := Sum(b)
		Step(7, b)
		if !bytes.Equal(b, kept) {
			t.Errorf("the bytes %v were changed to %v", kept, b)
		}
		if again := Sum(b); again != first {
			t.Errorf("Sum(%v) = %08x, and then %08x", b, first, again)
		}
	}
}

func TestJoin(t *testing.T) { // 2.2
	cases := []struct {
		a, b uint32
		n    int
		want uint32
	}{
		{5, 6, 0, 3},
		{5, 6, -1, 3},
		{5, 6, -8, 3},
		{5, 6, math.MinInt, 3},
		{5, 6, math.MinInt + 1, 3},
		{0, 0, 0, 0},
		{0, 6, 1, 6},
		{0, 6, math.MaxInt, 6},
		{math.MaxUint32, math.MaxUint32, 0, 0},
		{256, 0, 1, 1},
		{256, 6, 1, 7},
		{1 << 31, 0, 1, 1 << 23},
		{1 << 31, 0, 3, 1 << 7},
		{1 << 31, 0, 4, 0x82f63b78},
		{128, 0x82f63b78, 1, 0},
	}
	for _, c := range cases {
		if got := Join(c.a, c.b, c.n); got != c.want {
			t.Errorf("Join(%08x, %08x, %d) = %08x, want %08x", c.a, c.b, c.n, got, c.want)
		}
	}
}

func TestJoinFollowsTheChapter(t *testing.T) { // 2.2
	sizes := []int{-1000, -2, -1, 255, 256, 257, 511, 512, 1000, 1023, 1024, 4095}
	for n := range 70 {
		sizes = append(sizes, n)
	}
	for _, n := range sizes {
		for i, a := range registers() {
			b := mixed(i + 1)[i]
			if got, want := Join(a, b, n), join(a, b, n); got != want {
				t.Errorf("Join(%08x, %08x, %d) = %08x, want %08x", a, b, n, got, want)
			}
		}
	}
	for _, n := range []int{65507, 65535, 65536, 1<<20 - 1, 1 << 20, 1<<20 + 1} {
		for _, a := range []uint32{1, 0xdeadbeef, math.MaxUint32} {
			if got, want := Join(a, 9, n), join(a, 9, n); got != want {
				t.Errorf("Join(%08x, 9, %d) = %08x, want %08x", a, n, got, want)
			}
		}
	}
}

func TestJoinOfManyBytes(t *testing.T) { // 2.2
	// the greatest int is a multiple of the period too, but for one byte or none
	sizes := []int{period, math.MaxInt}
	for more := range 6 {
		sizes = append(sizes, (math.MaxInt/period-1)*period+more)
	}
	for _, n := range sizes {
		for _, a := range registers() {
			if got, want := Join(a, 9, n), join(a, 9, n); got != want {
				t.Errorf("Join(%08x, 9, %d) = %08x, want %08x", a, n, got, want)
			}
		}
	}
}

func TestJoinGoesOn(t *testing.T) { // 2.2
	var sizes []int
	for n := math.MaxInt; n > 0; n /= 2 {
		sizes = append(sizes, n, n/2+1, n/3+1)
	}
	for _, n := range sizes {
		for _, a := range []uint32{1, 1 << 31, 0xdeadbeef, math.MaxUint32} {
			for _, first := range []int{0, 1, n / 5, n / 2, n} {
				got := Join(Join(a, 0, first), 9, n-first)
				if want := Join(a, 9, n); got != want {
					t.Errorf("Join of %08x over %d bytes and then %d = %08x, want %08x", a, first, n-first, got, want)
				}
			}
			if got, want := Join(a, 0, n), Step(Join(a, 0, n-1), []byte{0}); got != want {
				t.Errorf("Join(%08x, 0, %d) = %08x, want %08x", a, n, got, want)
			}
		}
	}
}

func TestFlip(t *testing.T) { // 2.3
	cases := []struct {
		name string
		b    []byte
		at   int
		mask uint32
		want []byte
	}{
		{"the chapter's example", []byte{0, 0}, 7, 3, []byte{128, 1}},
		{"the example undone", []byte{128, 1}, 7, 3, []byte{0, 0}},
		{"a mask of 0", []byte{1, 2, 3}, 5, 0, []byte{1, 2, 3}},
		{"the first bit", []byte{0, 0}, 0, 1, []byte{1, 0}},
		{"the last bit", []byte{0, 0}, 15, 1, []byte{0, 128}},
		{"the last bit, from the mask's last", []byte{0, 0}, 15 - 31, 1 << 31, []byte{0, 128}},
		{"the first bit, from the mask's last", []byte{0, 0}, -31, 1 << 31, []byte{1, 0}},
		{"just ahead of the first bit", []byte{0, 0}, -32, math.MaxUint32, []byte{0, 0}},
		{"just behind the last bit", []byte{0, 0}, 16, math.MaxUint32, []byte{0, 0}},
		{"one bit ahead of the first", []byte{0, 0}, -1, 3, []byte{1, 0}},
		{"one bit behind the last", []byte{0, 0}, 15, 3, []byte{0, 128}},
		{"32 bits on whole bytes", []byte{0, 0, 0, 0, 0, 0}, 8, math.MaxUint32, []byte{0, 255, 255, 255, 255, 0}},
		{"32 bits in five bytes", []byte{0, 0, 0, 0, 0, 0}, 1, math.MaxUint32, []byte{254, 255, 255, 255, 1, 0}},
		{"32 bits in five bytes, from the last bit of one", []byte{255, 255, 255, 255, 255}, 7, math.MaxUint32, []byte{127, 0, 0, 0, 128}},
		{"fewer bits than the mask", []byte{0x0f}, 0, math.MaxUint32, []byte{0xf0}},
		{"bits on both sides that are not there", []byte{0x0f}, -8, math.MaxUint32, []byte{0xf0}},
		{"the least int", []byte{1, 2}, math.MinInt, math.MaxUint32, []byte{1, 2}},
		{"the greatest int", []byte{1, 2}, math.MaxInt, math.MaxUint32, []byte{1, 2}},
		{"bytes of which the least int is a multiple", make([]byte, 8), math.MinInt, 1, make([]byte, 8)},
		{"far ahead", []byte{1, 2}, -1000, math.MaxUint32, []byte{1, 2}},
		{"far behind", []byte{1, 2}, 1000, math.MaxUint32, []byte{1, 2}},
		{"nil", nil, 0, math.MaxUint32, nil},
		{"no bytes", []byte{}, 0, math.MaxUint32, nil},
		{"nil, ahead", nil, -5, math.MaxUint32, nil},
		{"no bytes, from the least int", []byte{}, math.MinInt, 1, nil},
		{"no bytes, from the greatest int", []byte{}, math.MaxInt, 1, nil},
	}
	for _, c := range cases {
		if got := Flip(c.b, c.at, c.mask); !bytes.Equal(got, c.want) {
			t.Errorf("%s: Flip(%v, %d, %08x) = %v, want %v", c.name, c.b, c.at, c.mask, got, c.want)
		}
	}
}

// masks holds no bits, all bits, single bits, pairs and runs of bits, and others.
func masks() []uint32 {
	l := append([]uint32{0, math.MaxUint32, 0x80000001, 0x55555555, 0xaaaaaaaa}, mixed(50)...)
	for i := range 32 {
		for j := range i + 1 {
			l = append(l, 1<<i|1<<j, uint32(1)<<i-uint32(1)<<j)
		}
	}
	return l
}

func TestFlipFollowsTheChapter(t *testing.T) { // 2.3
	for size := range 8 {
		b := mixedBytes(size)
		places := []int{math.MinInt, math.MinInt + 1, math.MinInt + 31, math.MinInt + 32, math.MaxInt - 32, math.MaxInt - 31, math.MaxInt - 1, math.MaxInt}
		for at := -40; at <= 8*size+40; at++ {
			places = append(places, at)
		}
		for _, at := range places {
			for _, mask := range masks()[:200] {
				if got, want := Flip(b, at, mask), flip(b, at, mask); !bytes.Equal(got, want) {
					t.Fatalf("Flip(%v, %d, %08x) = %v, want %v", b, at, mask, got, want)
				}
			}
		}
	}
}

func TestFlipLeavesItsArgument(t *testing.T) { // 2.3, R4
	whole := mixedBytes(20)
	kept := slices.Clone(whole)
	b := whole[4:12] // with bytes ahead of it and spare capacity behind it
	for at := -40; at <= 8*len(b)+40; at++ {
		for _, mask := range []uint32{0, 1, 1 << 31, math.MaxUint32} {
			got := Flip(b, at, mask)
			want := slices.Clone(got)
			if !bytes.Equal(whole, kept) {
				t.Fatalf("Flip at %d with %08x changed its argument to %v", at, mask, whole)
			}
			clear(b)
			if !bytes.Equal(got, want) {
				t.Fatalf("the result of Flip at %d with %08x changes with its argument", at, mask)
			}
			copy(whole, kept)
			_ = append(got, 1, 2, 3)
			clear(got)
			if !bytes.Equal(whole, kept) {
				t.Fatalf("the argument of Flip at %d with %08x changes with its result", at, mask)
			}
		}
	}
}

func TestSumsAreJoined(t *testing.T) { // 2.4
	for _, a := range sequences() {
		for _, b := range sequences() {
			if len(a) == 1 && len(b) == 1 && a[0]%16 != 3 {
				continue // enough of these
			}
			want := Sum(slices.Concat(a, b))
			if got := Join(Sum(a), Sum(b), len(b)); got != want {
				t.Errorf("Join of the sums of %v and %v = %08x, want %08x", a, b, got, want)
			}
		}
	}
	long := mixedBytes(70000)
	for _, cut := range []int{0, 1, 20, 4464, 65507, 69999, 70000} {
		if got, want := Join(Sum(long[:cut]), Sum(long[cut:]), len(long)-cut), Sum(long); got != want {
			t.Errorf("Join of the sums of %d and %d bytes = %08x, want %08x", cut, len(long)-cut, got, want)
		}
	}
}

// checkFlips holds the sums of b and of what Flip makes of it against each other.
func checkFlips(b []byte, places []int, masks []uint32) error {
	sum := Sum(b)
	for _, at := range places {
		for _, mask := range masks {
			changed := Flip(b, at, mask)
			if (Sum(changed) == sum) != bytes.Equal(changed, b) {
				return fmt.Errorf("%d bytes, flipped at %d with %08x, to %v: the sums %08x and %08x", len(b), at, mask, changed, sum, Sum(changed))
			}
		}
	}
	return nil
}

func TestFlipsChangeTheSum(t *testing.T) { // 2.4
	masks := masks()
	for _, size := range []int{0, 1, 2, 3, 4, 5, 8, 13, 20} {
		var places []int
		for at := -33; at <= 8*size+1; at++ {
			places = append(places, at)
		}
		for _, b := range [][]byte{make([]byte, size), bytes.Repeat([]byte{255}, size), mixedBytes(size)} {
			if err := checkFlips(b, places, masks); err != nil {
				t.Error(err)
			}
		}
	}
	if err := checkFlips(mixedBytes(9), []int{-3, 0, 5, 24, 40, 60}, mixed(50000)); err != nil {
		t.Error(err)
	}
	if err := checkFlips(mixedBytes(1500), []int{-1, 0, 1, 4001, 8000, 11968, 11999, 12000}, masks[:300]); err != nil {
		t.Error(err)
	}
}
