package buf

import (
	"bytes"
	"fmt"
	"math"
	"math/big"
	"slices"
	"strings"
	"testing"

	"annulet/api"
)

const top = math.MaxUint64

// run is count times the byte c, followed by the bytes of tail.
func run(count int, c byte, tail ...byte) []byte {
	return append(bytes.Repeat([]byte{c}, count), tail...)
}

// groups follows the words of 1.1 with numbers of any size.
func groups(n *big.Int) []byte {
	var b []byte
	rest := new(big.Int).Set(n)
	group := new(big.Int)
	for {
		rest.DivMod(rest, big.NewInt(128), group)
		if rest.Sign() == 0 {
			return append(b, byte(group.Int64()))
		}
		b = append(b, byte(group.Int64()+128))
	}
}

// show keeps what a failed test prints short.
func show(b []byte) string {
	if len(b) > 40 {
		return fmt.Sprint(b[:40], " and more, ", len(b), " in all")
	}
	return fmt.Sprint(b)
}

// length is the encoding of a length.
func length(n uint64) []byte {
	return groups(new(big.Int).SetUint64(n))
}

// fixed follows the words of 6.1 with numbers of any size.
func fixed(n uint64, size int) []byte {
	var b []byte
	if size < 1 || size > 8 {
		return b
	}
	rest := new(big.Int).SetUint64(n)
	for range size {
		low := new(big.Int)
		rest.DivMod(rest, big.NewInt(256), low)
		b = append(b, byte(low.Int64()))
	}
	slices.Reverse(b)
	return b
}

// unfixed follows the words of 6.3 with numbers of any size.
func unfixed(b []byte) uint64 {
	return new(big.Int).SetBytes(b).Uint64()
}

// getUvar follows the words of 1.2, check by check.
func getUvar(b []byte) (uint64, int, api.Errno) {
	last := slices.IndexFunc(b, func(c byte) bool { return c < 128 })
	if len(b) >= 10 && (last < 0 || last >= 10) {
		return 0, 0, api.ErrForm
	}
	if last < 0 {
		return 0, 0, api.ErrShort
	}
	n := new(big.Int)
	for i := last; i >= 0; i-- {
		n.Mul(n, big.NewInt(128))
		n.Add(n, big.NewInt(int64(b[i]%128)))
	}
	if n.BitLen() > 64 || last > 0 && b[last] == 0 {
		return 0, 0, api.ErrForm
	}
	return n.Uint64(), last + 1, api.OK
}

// call is a call of a reader's method, with those of the arguments that it has.
type call struct {
	name string
	n    int
	most uint64
	e    api.Errno
}

// result is what a call returns: one of these, by the method.
type result struct {
	num   uint64
	flag  bool
	text  string // bytes as well
	count int
	err   api.Errno
}

func (r result) String() string {
	return fmt.Sprintf("number %d, flag %t, bytes %s, count %d, error %d", r.num, r.flag, show([]byte(r.text)), r.count, r.err)
}

func fix(size int) call     { return call{name: "Fix", n: size} }
func num(most uint64) call  { return call{name: "Uvar", most: most} }
func flag() call            { return call{name: "Flag"} }
func take(n int) call       { return call{name: "Take", n: n} }
func text(most int) call    { return call{name: "Text", n: most} }
func left() call            { return call{name: "Left"} }
func fail(e api.Errno) call { return call{name: "Fail", e: e} }
func errs() call            { return call{name: "Err"} }
func end() call             { return call{name: "End"} }

// make calls the method.
func (c call) make(r *Reader) result {
	switch c.name {
	case "Fix":
		return result{num: r.Fix(c.n)}
	case "Uvar":
		return result{num: r.Uvar(c.most)}
	case "Flag":
		return result{flag: r.Flag()}
	case "Take":
		return result{text: string(r.Take(c.n))}
	case "Text":
		return result{text: r.Text(c.n)}
	case "Left":
		return result{count: r.Left()}
	case "Fail":
		r.Fail(c.e)
		return result{}
	case "Err":
		return result{err: r.Err()}
	case "End":
		return result{err: r.End()}
	}
	panic("no method: " + c.name)
}

// readings are calls of the reading methods, each at the edges of its argument, for about size bytes.
func readings(size int) []call {
	l := []call{flag()}
	for _, n := range []int{math.MinInt, -1, 0, 1, 2, 3, 4, 5, 6, 7, 8, 9, size - 1, size, size + 1, math.MaxInt} {
		l = append(l, fix(n), take(n), text(n))
	}
	for _, most := range []uint64{0, 1, 127, 128, 300, uint64(size), 1 << 31, 1 << 32, 1<<63 - 1, 1 << 63, top - 1, top} {
		l = append(l, num(most))
	}
	return l
}

// book follows the words of 6.2 to 6.4: all bytes, how many of them have been read, and the error.
type book struct {
	all []byte
	at  int
	err api.Errno
}

// read follows the words of 6.3: how many bytes the field has, and what it says.
func (k *book) read(c call) (int, result, api.Errno) {
	rest := k.all[k.at:]
	switch c.name {
	case "Fix":
		if c.n < 1 || c.n > 8 {
			return 0, result{}, api.ErrArg
		}
		if len(rest) < c.n {
			return 0, result{}, api.ErrShort
		}
		return c.n, result{num: unfixed(rest[:c.n])}, api.OK
	case "Uvar":
		n, size, err := getUvar(rest)
		if err == api.OK && n > c.most {
			err = api.ErrLong
		}
		return size, result{num: n}, err
	case "Flag":
		if len(rest) == 0 {
			return 0, result{}, api.ErrShort
		}
		if rest[0] > 1 {
			return 0, result{}, api.ErrForm
		}
		return 1, result{flag: rest[0] == 1}, api.OK
	case "Take":
		if c.n < 0 {
			return 0, result{}, api.ErrArg
		}
		if len(rest) < c.n {
			return 0, result{}, api.ErrShort
		}
		return c.n, result{text: string(rest[:c.n])}, api.OK
	}
	return readText(rest, c.n)
}

// readText follows the words of 6.3 with numbers of any size.
func readText(rest []byte, most int) (int, result, api.Errno) {
	n, size, err := getUvar(rest)
	if err != api.OK {
		return 0, result{}, err
	}
	long := new(big.Int).SetUint64(n)
	if most < 0 || long.Cmp(big.NewInt(int64(most))) > 0 {
		return 0, result{}, api.ErrLong
	}
	if long.Cmp(big.NewInt(int64(len(rest)-size))) > 0 {
		return 0, result{}, api.ErrShort
	}
	stop := size + int(n)
	return stop, result{text: string(rest[size:stop])}, api.OK
}

// make does in the book what the method should.
func (k *book) make(c call) result {
	switch c.name {
	case "Left":
		if k.err != api.OK {
			return result{}
		}
		return result{count: len(k.all) - k.at}
	case "Fail":
		if k.err == api.OK {
			k.err = c.e
		}
		return result{}
	case "Err":
		return result{err: k.err}
	case "End":
		if k.err == api.OK && k.at < len(k.all) {
			return result{err: api.ErrMore}
		}
		return result{err: k.err}
	}
	if k.err != api.OK {
		return result{}
	}
	size, want, err := k.read(c)
	if err != api.OK {
		k.err = err
		return result{}
	}
	k.at += size
	return want
}

// asks are the calls that tell a reader's state.
func asks() []call { return []call{left(), errs(), end()} }

// follow makes the calls on a reader and in a book, and tells where they differ.
func follow(t *testing.T, b []byte, calls ...call) {
	t.Helper()
	r, k := Open(b), &book{all: slices.Clone(b)}
	for i, c := range calls {
		for _, one := range append([]call{c}, asks()...) {
			if got, want := one.make(r), k.make(one); got != want {
				t.Fatalf("%s: calls %v: %s = %v, want %v", show(b), calls[:i+1], one.name, got, want)
			}
		}
	}
}

// expect makes one call on a new reader of b, and holds result, error and bytes left against what is wanted.
func expect(t *testing.T, b []byte, c call, want result, wantErr api.Errno, wantLeft int) {
	t.Helper()
	r := Open(b)
	got := c.make(r)
	if got != want || r.Err() != wantErr || r.Left() != wantLeft {
		t.Errorf("%s: %+v = %v with error %d and %d left, want %v with %d and %d", show(b), c, got, r.Err(), r.Left(), want, wantErr, wantLeft)
	}
	if wantErr != api.OK && !bytes.Equal(r.rest, b) {
		t.Errorf("%s: %+v has the error %d and advanced the reader to %s", show(b), c, wantErr, show(r.rest))
	}
}

// numbers holds both sides of every power of 2.
func numbers() []uint64 {
	l := []uint64{0, top, 258, 0x0123456789abcdef, 0xfedcba9876543210, 0x8000000000000001}
	for i := range 64 {
		p := uint64(1) << i
		l = append(l, p-1, p, p+1)
	}
	return l
}

// sizes are the edges of a size.
func sizes() []int {
	return []int{math.MinInt, math.MinInt32, -8, -1, 0, 1, 2, 3, 4, 5, 6, 7, 8, 9, 16, 64, math.MaxInt32, math.MaxInt}
}

// befores are slices with and without spare capacity, whose spare bytes are not 0.
func befores() [][]byte {
	l := [][]byte{nil, {}}
	for _, before := range [][]byte{{}, {0}, {255, 0, 128}, run(100, 7)} {
		for _, spare := range []int{0, 1, 4, 8, 9, 300} {
			l = append(l, append(slices.Clone(before), run(spare, 99)...)[:len(before):len(before)+spare])
		}
	}
	return l
}

// 6.1: the example, sizes from 1 to 8, and numbers with more bytes than the size.
func TestFixExamples(t *testing.T) {
	for _, c := range []struct {
		n    uint64
		size int
		want []byte
	}{
		{258, 2, []byte{1, 2}},
		{258, 1, []byte{2}},
		{258, 3, []byte{0, 1, 2}},
		{258, 8, []byte{0, 0, 0, 0, 0, 0, 1, 2}},
		{0, 1, []byte{0}},
		{0, 4, []byte{0, 0, 0, 0}},
		{255, 1, []byte{255}},
		{256, 1, []byte{0}},
		{0x0102030405060708, 1, []byte{8}},
		{0x0102030405060708, 2, []byte{7, 8}},
		{0x0102030405060708, 3, []byte{6, 7, 8}},
		{0x0102030405060708, 4, []byte{5, 6, 7, 8}},
		{0x0102030405060708, 5, []byte{4, 5, 6, 7, 8}},
		{0x0102030405060708, 6, []byte{3, 4, 5, 6, 7, 8}},
		{0x0102030405060708, 7, []byte{2, 3, 4, 5, 6, 7, 8}},
		{0x0102030405060708, 8, []byte{1, 2, 3, 4, 5, 6, 7, 8}},
		{top, 8, run(8, 255)},
		{1 << 63, 8, run(1, 128, run(7, 0)...)},
		{258, 0, nil},
		{258, -1, nil},
		{258, -2, nil},
		{258, 9, nil},
		{258, 10, nil},
		{258, math.MinInt, nil},
		{258, math.MaxInt, nil},
	} {
		if got := Fix(nil, c.n, c.size); !bytes.Equal(got, c.want) {
			t.Errorf("Fix(nil, %d, %d) = %v, want %v", c.n, c.size, got, c.want)
		}
	}
}

// 6.1, R4: what is before stays, with and without spare capacity; b itself is left as it is.
func TestFixFollowsWords(t *testing.T) {
	for _, b := range befores() {
		for _, n := range numbers() {
			for _, size := range sizes() {
				kept := slices.Clone(b)
				want := slices.Concat(kept, fixed(n, size))
				if got := Fix(b, n, size); !bytes.Equal(got, want) {
					t.Fatalf("Fix(%v, %d, %d) = %v, want %v", kept, n, size, got, want)
				}
				if !bytes.Equal(b, kept) {
					t.Fatalf("Fix(%v, %d, %d) changed its argument to %v", kept, n, size, b)
				}
			}
		}
	}
}

// strs are strings at the edges of their length's encoding, and of bytes that are no UTF-8.
func strs() []string {
	l := []string{"", "a", "ab", "\x00", "\x80", "\xff\xfe", "\xc3", "\xed\xa0\x80", "é€\U0001f600", "\ufffd", "\x02ab", "a\x00b"}
	for _, n := range []int{126, 127, 128, 129, 255, 256, 300, 16383, 16384, 1 << 20} {
		l = append(l, strings.Repeat("x", n), strings.Repeat("\xff", n))
	}
	return l
}

// 6.1: the examples and the edges of the length.
func TestTextExamples(t *testing.T) {
	for _, c := range []struct {
		s    string
		want []byte
	}{
		{"ab", []byte{2, 97, 98}},
		{"", []byte{0}},
		{"\x00", []byte{1, 0}},
		{"\xff\xfe", []byte{2, 255, 254}},
		{"é", []byte{2, 195, 169}},
		{strings.Repeat("a", 127), run(1, 127, run(127, 97)...)},
		{strings.Repeat("a", 128), slices.Concat([]byte{128, 1}, run(128, 97))},
		{strings.Repeat("\xff", 300), slices.Concat([]byte{172, 2}, run(300, 255))},
		{strings.Repeat("a", 16384), slices.Concat([]byte{128, 128, 1}, run(16384, 97))},
	} {
		if got := Text(nil, c.s); !bytes.Equal(got, c.want) {
			t.Errorf("Text(nil, %.40q) = %s, want %s", c.s, show(got), show(c.want))
		}
	}
}

// 6.1, R4: what is before stays, with and without spare capacity; the arguments are left as they are.
func TestTextFollowsWords(t *testing.T) {
	for _, b := range befores() {
		for _, s := range strs() {
			kept, word := slices.Clone(b), strings.Clone(s)
			want := slices.Concat(kept, length(uint64(len(word))), []byte(word))
			if got := Text(b, s); !bytes.Equal(got, want) {
				t.Fatalf("Text(%s, %.40q) = %s, want %s", show(kept), word, show(got), show(want))
			}
			if !bytes.Equal(b, kept) || s != word {
				t.Fatalf("Text(%s, %.40q) changed its arguments to %s, %.40q", show(kept), word, show(b), s)
			}
		}
	}
}

// 6.2: no bytes, and a reader that begins with the first one.
func TestOpen(t *testing.T) {
	for _, b := range [][]byte{nil, {}} {
		r := Open(b)
		if r == nil || r.Left() != 0 || r.Err() != api.OK || r.End() != api.OK {
			t.Fatalf("Open(%#v) has %d left, the error %d and the end %d", b, r.Left(), r.Err(), r.End())
		}
		if got := r.Take(0); len(got) != 0 || r.End() != api.OK {
			t.Errorf("Open(%#v): Take(0) = %v, then End = %d", b, got, r.End())
		}
	}
	r := Open([]byte{1, 2, 3})
	if r.Left() != 3 || r.Err() != api.OK || r.End() != api.ErrMore {
		t.Errorf("Open of 1 2 3 has %d left, the error %d and the end %d", r.Left(), r.Err(), r.End())
	}
	if got := r.Take(3); !bytes.Equal(got, []byte{1, 2, 3}) {
		t.Errorf("Open of 1 2 3: Take(3) = %v", got)
	}
}

// 6.2, R4: the reader has a copy: neither the caller's changes nor its appends are seen, at any time.
func TestOpenCopies(t *testing.T) {
	b := append(make([]byte, 0, 50), 2, 97, 98, 1, 1, 2, 172, 2, 9, 8, 7)
	kept := slices.Clone(b)
	r := Open(b)
	spoil := func() { copy(b[:cap(b)], run(cap(b), 255)) }
	spoil()
	if s := r.Text(5); s != "ab" {
		t.Errorf("Text(5) = %q", s)
	}
	spoil()
	if !r.Flag() {
		t.Error("Flag = false")
	}
	if n := r.Fix(2); n != 258 {
		t.Errorf("Fix(2) = %d", n)
	}
	spoil()
	if n := r.Uvar(300); n != 300 {
		t.Errorf("Uvar(300) = %d", n)
	}
	if got := r.Take(3); !bytes.Equal(got, []byte{9, 8, 7}) || r.End() != api.OK {
		t.Errorf("Take(3) = %v, then End = %d", got, r.End())
	}
	b = b[:len(kept)]
	copy(b, kept)
	for _, c := range readings(len(b)) {
		r := Open(b)
		c.make(r)
		c.make(r)
		if !bytes.Equal(b, kept) {
			t.Fatalf("%+v changed the caller's bytes to %v", c, b)
		}
	}
}

// 6.2, R5: two readers of the same bytes know nothing of each other.
func TestReadersAreApart(t *testing.T) {
	b := []byte{1, 2, 3}
	first, second := Open(b), Open(b)
	first.Take(2)
	first.Fail(api.ErrSum)
	if second.Left() != 3 || second.Err() != api.OK || second.Fix(3) != 0x010203 {
		t.Errorf("a reader sees what another one of the same bytes does: %d left, error %d", second.Left(), second.Err())
	}
}

// 6.3: sizes outside 1 to 8 ahead of too few bytes, fewer bytes than the size, just as many, and more.
func TestReaderFix(t *testing.T) {
	b := []byte{1, 2, 3, 4, 5, 6, 7, 8, 9}
	for size, want := range []uint64{1: 1, 2: 0x0102, 3: 0x010203, 4: 0x01020304, 5: 0x0102030405, 6: 0x010203040506, 7: 0x01020304050607, 8: 0x0102030405060708} {
		if size == 0 {
			continue
		}
		expect(t, b, fix(size), result{num: want}, api.OK, 9-size)
		expect(t, b[:size], fix(size), result{num: want}, api.OK, 0)
		expect(t, b[:size-1], fix(size), result{}, api.ErrShort, 0)
		expect(t, nil, fix(size), result{}, api.ErrShort, 0)
	}
	for _, size := range []int{math.MinInt, -8, -1, 0, 9, 10, 255, math.MaxInt} {
		expect(t, b, fix(size), result{}, api.ErrArg, 0)
		expect(t, nil, fix(size), result{}, api.ErrArg, 0)
	}
	expect(t, run(8, 255), fix(8), result{num: top}, api.OK, 0)
	expect(t, run(4, 255), fix(4), result{num: 1<<32 - 1}, api.OK, 0)
	expect(t, run(1, 128, run(7, 0)...), fix(8), result{num: 1 << 63}, api.OK, 0)
	expect(t, []byte{0, 0, 1}, fix(3), result{num: 1}, api.OK, 0)
}

// faults are bytes that no number begins, with the errors of Get.
var faults = []struct {
	b    []byte
	want api.Errno
}{
	{nil, api.ErrShort},
	{[]byte{128}, api.ErrShort},
	{[]byte{172, 130}, api.ErrShort},
	{run(9, 255), api.ErrShort},
	{run(10, 128), api.ErrForm},
	{run(10, 255, 1), api.ErrForm},
	{run(9, 128, 2), api.ErrForm},
	{run(9, 255, 127), api.ErrForm},
	{[]byte{128, 0}, api.ErrForm},
	{[]byte{129, 0, 97}, api.ErrForm},
	{run(9, 128, 0), api.ErrForm},
}

// 6.3: each error of Get ahead of ErrLong, a number equal to most and one greater, most 0 and 2^64 - 1.
func TestReaderUvar(t *testing.T) {
	for _, f := range faults {
		for _, most := range []uint64{0, 1, 300, top} {
			expect(t, f.b, num(most), result{}, f.want, 0)
		}
	}
	for _, n := range numbers() {
		b := append(length(n), 5, 6)
		expect(t, b, num(n), result{num: n}, api.OK, 2)
		expect(t, b, num(top), result{num: n}, api.OK, 2)
		if n < top {
			expect(t, b, num(n+1), result{num: n}, api.OK, 2)
		}
		if n > 0 {
			expect(t, b, num(n-1), result{}, api.ErrLong, 0)
			expect(t, b, num(0), result{}, api.ErrLong, 0)
		}
	}
	expect(t, []byte{172, 2}, num(300), result{num: 300}, api.OK, 0)
	expect(t, []byte{172, 2}, num(299), result{}, api.ErrLong, 0)
}

// 6.3: no byte left, and each byte; only one of them is read.
func TestReaderFlag(t *testing.T) {
	expect(t, nil, flag(), result{}, api.ErrShort, 0)
	expect(t, []byte{}, flag(), result{}, api.ErrShort, 0)
	for _, tail := range [][]byte{nil, {0}, {1}, {255}} {
		expect(t, run(1, 0, tail...), flag(), result{}, api.OK, len(tail))
		expect(t, run(1, 1, tail...), flag(), result{flag: true}, api.OK, len(tail))
		for c := 2; c < 256; c++ {
			expect(t, run(1, byte(c), tail...), flag(), result{}, api.ErrForm, 0)
		}
	}
}

// 6.3: n negative, 0, as many as are left, one more, and the greatest int.
func TestReaderTake(t *testing.T) {
	for _, b := range [][]byte{nil, {}, {0}, {128, 0}, {5, 6, 7}, run(200, 255, 1)} {
		for n := range len(b) + 1 {
			expect(t, b, take(n), result{text: string(b[:n])}, api.OK, len(b)-n)
		}
		for _, n := range []int{len(b) + 1, len(b) + 2, math.MaxInt32, 1 << 32, math.MaxInt - 1, math.MaxInt} {
			expect(t, b, take(n), result{}, api.ErrShort, 0)
		}
		for _, n := range []int{-1, -2, -len(b) - 1, math.MinInt32, math.MinInt} {
			expect(t, b, take(n), result{}, api.ErrArg, 0)
		}
	}
}

// 6.3, R4: the caller may change what it was given, and append to it.
func TestTakeCopies(t *testing.T) {
	b := []byte{1, 2, 3, 4, 5, 6, 7, 8}
	r := Open(b)
	first := r.Take(2)
	copy(first[:cap(first)], run(cap(first), 255))
	none := append(r.Take(0), 255, 255)
	second := r.Take(3)
	_ = append(second, 255, 255, 255)
	if !bytes.Equal(second, []byte{3, 4, 5}) || len(none) != 2 {
		t.Errorf("Take(3) behind a change of what was given = %v", second)
	}
	if got := r.Take(3); !bytes.Equal(got, []byte{6, 7, 8}) {
		t.Errorf("the last Take(3) = %v", got)
	}
	if !bytes.Equal(b, []byte{1, 2, 3, 4, 5, 6, 7, 8}) {
		t.Errorf("the caller's bytes are %v", b)
	}
}

// 6.3: each error of Get ahead of most, most negative, a length equal to most and one greater, and fewer bytes than the length.
func TestReaderText(t *testing.T) {
	for _, f := range faults {
		for _, most := range []int{math.MinInt, -1, 0, 1, math.MaxInt} {
			expect(t, f.b, text(most), result{}, f.want, 0)
		}
	}
	for _, s := range strs() {
		b := slices.Concat(length(uint64(len(s))), []byte(s))
		for _, most := range []int{len(s), len(s) + 1, math.MaxInt} {
			expect(t, b, text(most), result{text: s}, api.OK, 0)
			expect(t, append(slices.Clone(b), 7, 8), text(most), result{text: s}, api.OK, 2)
			if s != "" {
				expect(t, b[:len(b)-1], text(most), result{}, api.ErrShort, 0)
				expect(t, b[:len(b)-len(s)], text(most), result{}, api.ErrShort, 0)
			}
		}
		for _, most := range []int{len(s) - 1, -1, -2, math.MinInt32, math.MinInt} {
			expect(t, b, text(most), result{}, api.ErrLong, 0)
			expect(t, b[:len(b)-len(s)], text(most), result{}, api.ErrLong, 0)
		}
	}
}

// 6.3: lengths that no bytes follow up to, and that are no int of 32 or 64 bits.
func TestReaderTextOfGreatLengths(t *testing.T) {
	for _, n := range []uint64{1<<31 - 1, 1 << 31, 1<<31 + 1, 1<<32 - 1, 1 << 32, 1<<32 + 2, 1<<63 - 2, 1<<63 - 1, 1 << 63, 1<<63 + 1, 1<<63 + 2, top - 1, top} {
		b := append(length(n), "ab"...)
		for _, most := range []int{math.MinInt, -1, 0, 2, 1<<31 - 2, math.MaxInt32, 1 << 31, 1 << 32, math.MaxInt - 1, math.MaxInt} {
			want := api.ErrLong
			if most >= 0 && n <= uint64(most) {
				want = api.ErrShort
			}
			expect(t, b, text(most), result{}, want, 0)
		}
	}
}

// 6.1, 6.3, 6.4: the chapter's example.
func TestReaderExample(t *testing.T) {
	r := Open([]byte{2, 97, 98, 1})
	if s := r.Text(5); s != "ab" {
		t.Errorf("Text(5) = %q", s)
	}
	if r.End() != api.ErrMore || r.Left() != 1 {
		t.Errorf("End = %d with %d left", r.End(), r.Left())
	}
	if !r.Flag() {
		t.Error("Flag = false")
	}
	if r.End() != api.OK || r.Err() != api.OK || r.Left() != 0 {
		t.Errorf("End = %d, Err = %d, Left = %d", r.End(), r.Err(), r.Left())
	}
}

// 6.1, 6.3: what is written one after the other is read back.
func TestFieldsGetBack(t *testing.T) {
	var b []byte
	for _, n := range numbers() {
		for size := 1; size <= 8; size++ {
			b = Fix(b, n, size)
		}
	}
	for _, s := range strs() {
		b = Text(b, s)
	}
	r := Open(b)
	for _, n := range numbers() {
		for size := 1; size <= 8; size++ {
			if got, want := r.Fix(size), unfixed(fixed(n, size)); got != want {
				t.Fatalf("Fix(%d) = %d, want %d", size, got, want)
			}
		}
	}
	for _, s := range strs() {
		if got := r.Text(len(s)); got != s {
			t.Fatalf("Text(%d) = %.40q, want %.40q", len(s), got, s)
		}
	}
	if r.End() != api.OK {
		t.Errorf("End = %d with %d left", r.End(), r.Left())
	}
}

// codes are errors, and numbers that no error has.
func codes() []api.Errno {
	l := []api.Errno{-1, 22, 1000, math.MinInt, math.MaxInt}
	for e := api.ErrArg; e <= api.ErrNumber; e++ {
		l = append(l, e)
	}
	return l
}

// 6.2, 6.4: behind a recorded error nothing is read, and the first error stays, whatever follows.
func TestBehindAnError(t *testing.T) {
	for _, b := range [][]byte{nil, {1, 1, 1, 1, 1, 1, 1, 1, 1}, run(10, 255), {2, 97, 98, 1}} {
		for _, e := range codes() {
			r := Open(b)
			r.Fail(e)
			for _, c := range readings(len(b)) {
				if got := c.make(r); got != (result{}) {
					t.Fatalf("%v: behind the error %d %+v = %v", b, e, c, got)
				}
				r.Fail(api.ErrSum)
				r.Fail(api.OK)
				if r.Err() != e || r.End() != e || r.Left() != 0 {
					t.Fatalf("%v: behind the error %d and %+v Err = %d, End = %d, Left = %d", b, e, c, r.Err(), r.End(), r.Left())
				}
				if !bytes.Equal(r.rest, b) {
					t.Fatalf("%v: behind the error %d %+v advanced the reader to %v", b, e, c, r.rest)
				}
			}
		}
	}
}

// 6.2, 6.3: each method's own errors stop the reader, also in the midst of the bytes.
func TestErrorsStop(t *testing.T) {
	for _, c := range []struct {
		b    []byte
		bad  call
		want api.Errno
	}{
		{[]byte{1, 1, 1}, fix(0), api.ErrArg},
		{[]byte{1, 1, 1}, fix(9), api.ErrArg},
		{[]byte{1, 1, 1}, fix(4), api.ErrShort},
		{[]byte{5, 1, 1}, num(4), api.ErrLong},
		{[]byte{128, 0, 1}, num(4), api.ErrForm},
		{[]byte{128}, num(4), api.ErrShort},
		{[]byte{2, 1, 1}, flag(), api.ErrForm},
		{nil, flag(), api.ErrShort},
		{[]byte{1, 1, 1}, take(-1), api.ErrArg},
		{[]byte{1, 1, 1}, take(4), api.ErrShort},
		{[]byte{128, 0, 1}, text(4), api.ErrForm},
		{[]byte{255}, text(4), api.ErrShort},
		{[]byte{2, 1, 1}, text(1), api.ErrLong},
		{[]byte{0, 1, 1}, text(-1), api.ErrLong},
		{[]byte{3, 1, 1}, text(3), api.ErrShort},
	} {
		r := Open(slices.Concat([]byte{9, 9}, c.b))
		r.Take(2)
		got := c.bad.make(r)
		if got != (result{}) || r.Err() != c.want || !bytes.Equal(r.rest, c.b) {
			t.Errorf("%v: %+v = %v, error %d, want %d; the reader is at %v", c.b, c.bad, got, r.Err(), c.want, r.rest)
		}
		for _, next := range readings(3) {
			if got := next.make(r); got != (result{}) || r.Err() != c.want || r.End() != c.want || r.Left() != 0 {
				t.Errorf("%v: behind %+v %+v = %v, error %d, end %d, left %d", c.b, c.bad, next, got, r.Err(), r.End(), r.Left())
			}
		}
	}
}

// 6.4: Fail(OK), Fail before and behind an error, with errors and with other numbers.
func TestFail(t *testing.T) {
	r := Open([]byte{1, 2})
	r.Fail(api.OK)
	if r.Err() != api.OK || r.Left() != 2 || r.End() != api.ErrMore || r.Fix(1) != 1 {
		t.Errorf("behind Fail(OK) Err = %d, Left = %d, End = %d", r.Err(), r.Left(), r.End())
	}
	for _, e := range codes() {
		for _, other := range codes() {
			r := Open([]byte{1, 2})
			r.Fail(e)
			r.Fail(other)
			r.Fail(api.OK)
			if r.Err() != e || r.End() != e || r.Left() != 0 || r.Fix(1) != 0 {
				t.Fatalf("behind Fail(%d) and Fail(%d) Err = %d, End = %d, Left = %d", e, other, r.Err(), r.End(), r.Left())
			}
		}
		r := Open([]byte{1, 2})
		r.Fix(3)
		r.Fail(e)
		if r.Err() != api.ErrShort || r.End() != api.ErrShort {
			t.Errorf("behind ErrShort and Fail(%d) Err = %d, End = %d", e, r.Err(), r.End())
		}
	}
}

// 6.4: Left, Err and End with and without bytes left; asking changes nothing, and End's ErrMore is not recorded.
func TestLeftErrAndEnd(t *testing.T) {
	r := Open([]byte{1, 0, 1})
	for at := range 3 {
		for range 2 {
			if r.Left() != 3-at || r.End() != api.ErrMore || r.Err() != api.OK {
				t.Fatalf("with %d left Left = %d, End = %d, Err = %d", 3-at, r.Left(), r.End(), r.Err())
			}
		}
		if got, want := r.Flag(), at != 1; got != want {
			t.Fatalf("Flag at %d = %t", at, got)
		}
	}
	for range 2 {
		if r.Left() != 0 || r.End() != api.OK || r.Err() != api.OK {
			t.Fatalf("at the end Left = %d, End = %d, Err = %d", r.Left(), r.End(), r.Err())
		}
	}
	if r.Flag() || r.Err() != api.ErrShort || r.End() != api.ErrShort {
		t.Errorf("behind the end Err = %d, End = %d", r.Err(), r.End())
	}
}

// 6.4, R1: a nil reader and a Reader that Open did not create, for every method, also behind a Fail.
func TestNoReader(t *testing.T) {
	var none *Reader
	var declared Reader
	for name, r := range map[string]*Reader{"nil": none, "declared": &declared, "new": new(Reader)} {
		for range 2 {
			for _, c := range append(readings(0), left(), fail(api.OK), fail(api.ErrSum), fail(-1)) {
				if got := c.make(r); got != (result{}) {
					t.Errorf("%s: %+v = %v", name, c, got)
				}
				if r.Err() != api.ErrState || r.End() != api.ErrState || r.Left() != 0 {
					t.Errorf("%s: behind %+v Err = %d, End = %d, Left = %d", name, c, r.Err(), r.End(), r.Left())
				}
				if got := r.Take(0); len(got) != 0 {
					t.Errorf("%s: Take(0) = %v", name, got)
				}
			}
		}
	}
}

// 6.2 to 6.4: every call at every edge, alone and behind another one, by the chapter's words.
func TestReaderFollowsWords(t *testing.T) {
	samples := [][]byte{nil, {0}, {1}, {2}, {127}, {128}, {255}, {0, 0, 0}, {2, 97, 98, 1}, {1, 128, 1, 0}, {172, 2, 1, 0, 5}, run(9, 1), run(12, 255), run(9, 128, 1, 7, 8)}
	for _, b := range samples {
		for _, first := range readings(len(b)) {
			for _, second := range readings(len(b)) {
				follow(t, b, first, second)
			}
		}
	}
	for a := range 256 {
		for b := range 256 {
			two := []byte{byte(a), byte(b)}
			for _, c := range []call{fix(1), fix(2), num(0), num(200), num(top), flag(), take(1), text(-1), text(0), text(1), text(math.MaxInt)} {
				follow(t, two, c, fix(1))
			}
		}
	}
}

// mix is a row of numbers without any plain order, the same ones each time.
type mix uint64

func (m *mix) below(n int) int {
	x := uint64(*m)
	x ^= x << 13
	x ^= x >> 7
	x ^= x << 17
	*m = mix(x)
	return int((x >> 20) % uint64(n))
}

// fewCalls are calls that often succeed, so that many of them in a row get far.
func fewCalls(m *mix) call {
	switch m.below(12) {
	case 0, 1:
		return fix(1 + m.below(8))
	case 2, 3:
		return num(uint64(m.below(1 << 30)))
	case 4:
		return flag()
	case 5, 6:
		return take(m.below(6))
	case 7, 8:
		return text(m.below(40))
	case 9:
		return fail(api.OK)
	case 10:
		if m.below(20) == 0 {
			return fail(api.Errno(m.below(30)))
		}
	}
	return end()
}

// 6.2 to 6.4: long rows of calls on many bytes, by the chapter's words.
func TestRowsOfCalls(t *testing.T) {
	m := mix(88172645463325252)
	for range 20000 {
		b := make([]byte, m.below(60))
		for i := range b {
			b[i] = []byte{0, 1, 2, 3, 5, 20, 97, 127, 128, 129, 172, 255}[m.below(12)]
		}
		calls := make([]call, 1+m.below(20))
		for i := range calls {
			calls[i] = fewCalls(&m)
		}
		follow(t, b, calls...)
	}
}

// R5: a copy of a reader's value goes its own way.
func TestCopiedReader(t *testing.T) {
	r := Open([]byte{1, 2, 3, 4})
	r.Fix(1)
	other := *r
	other.Take(2)
	other.Fail(api.ErrSum)
	if r.Left() != 3 || r.Err() != api.OK || r.Fix(3) != 0x020304 {
		t.Errorf("the reader sees what its copy does: %d left, error %d", r.Left(), r.Err())
	}
}
