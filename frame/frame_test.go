package frame

import (
	"bytes"
	"fmt"
	"math"
	"math/big"
	"slices"
	"testing"

	"annulet/api"
)

// run is count times the byte c, followed by the bytes of tail.
func run(count int, c byte, tail ...byte) []byte {
	return append(bytes.Repeat([]byte{c}, count), tail...)
}

// show keeps what a failed test prints short.
func show(b []byte) string {
	if len(b) > 40 {
		return fmt.Sprint(b[:40], " and more, ", len(b), " in all")
	}
	return fmt.Sprint(b)
}

// length follows the words of 1.1 with numbers of any size.
func length(n uint64) []byte {
	var b []byte
	rest := new(big.Int).SetUint64(n)
	group := new(big.Int)
	for {
		rest.DivMod(rest, big.NewInt(128), group)
		if rest.Sign() == 0 {
			return append(b, byte(group.Int64()))
		}
		b = append(b, byte(group.Int64()+128))
	}
}

// framed follows the words of 15.1 for all bodies, one frame after the other.
func framed(bodies ...[]byte) []byte {
	var b []byte
	for _, body := range bodies {
		b = slices.Concat(b, length(uint64(len(body))), body)
	}
	return b
}

// getUvar follows the words of 1.2, check by check.
func getUvar(b []byte) (*big.Int, int, api.Errno) {
	last := slices.IndexFunc(b, func(c byte) bool { return c < 128 })
	if len(b) >= 10 && (last < 0 || last >= 10) {
		return nil, 0, api.ErrForm
	}
	if last < 0 {
		return nil, 0, api.ErrShort
	}
	n := new(big.Int)
	for i := last; i >= 0; i-- {
		n.Mul(n, big.NewInt(128))
		n.Add(n, big.NewInt(int64(b[i]%128)))
	}
	if n.BitLen() > 64 || last > 0 && b[last] == 0 {
		return nil, 0, api.ErrForm
	}
	return n, last + 1, api.OK
}

// result is what Next returns.
type result struct {
	body []byte
	size int
	err  api.Errno
}

func (r result) String() string {
	return fmt.Sprintf("%s, %d, error %d", show(r.body), r.size, r.err)
}

func (r result) same(other result) bool {
	return bytes.Equal(r.body, other.body) && r.size == other.size && r.err == other.err
}

func next(b []byte, most int) result {
	body, size, err := Next(b, most)
	return result{body, size, err}
}

// nextByWords follows the words of 15.2 with numbers of any size.
func nextByWords(b []byte, most int) result {
	n, size, err := getUvar(b)
	if err != api.OK {
		return result{err: err}
	}
	if most < 0 || n.Cmp(big.NewInt(int64(most))) > 0 {
		return result{err: api.ErrLong}
	}
	if n.Cmp(big.NewInt(int64(len(b)-size))) > 0 {
		return result{err: api.ErrShort}
	}
	end := size + int(n.Int64())
	return result{b[size:end], end, api.OK}
}

// allByWords follows the words of 15.3.
func allByWords(b []byte, most int) ([][]byte, int, api.Errno) {
	var bodies [][]byte
	at := 0
	for at != len(b) {
		r := nextByWords(b[at:], most)
		if r.err != api.OK {
			return bodies, at, r.err
		}
		bodies = append(bodies, r.body)
		at += r.size
	}
	return bodies, at, api.OK
}

// sameBodies tells whether both are the same row; no body is equal to an empty one (R3).
func sameBodies(a, b [][]byte) bool {
	return slices.EqualFunc(a, b, bytes.Equal)
}

// checkNext holds Next to the words, and to R2 and R4.
func checkNext(t *testing.T, b []byte, most int) {
	t.Helper()
	kept := slices.Clone(b)
	got, want := next(b, most), nextByWords(kept, most)
	if !got.same(want) {
		t.Fatalf("Next(%s, %d) = %v, want %v", show(kept), most, got, want)
	}
	if !bytes.Equal(b, kept) {
		t.Fatalf("Next(%s, %d) changed its argument to %s", show(kept), most, show(b))
	}
}

// checkAll holds All to the words, and to R4.
func checkAll(t *testing.T, b []byte, most int) {
	t.Helper()
	kept := slices.Clone(b)
	got, at, err := All(b, most)
	want, wantAt, wantErr := allByWords(kept, most)
	if !sameBodies(got, want) || at != wantAt || err != wantErr {
		t.Fatalf("All(%s, %d) = %d bodies, %d, %d, want %d bodies, %d, %d", show(kept), most, len(got), at, err, len(want), wantAt, wantErr)
	}
	if !bytes.Equal(b, kept) {
		t.Fatalf("All(%s, %d) changed its argument to %s", show(kept), most, show(b))
	}
}

// mosts are the edges of most, for a length.
func mosts(n int) []int {
	return []int{math.MinInt, math.MinInt + 1, math.MinInt32, -n - 1, -n, -2, -1, 0, 1, 2, n - 1, n, n + 1, 127, 128, 129, 255, 256, api.MaxFrame, math.MaxInt32, math.MaxInt32 + 1, math.MaxUint32, math.MaxUint32 + 1, math.MaxInt - 1, math.MaxInt}
}

// bodies are those at the edges of the length's encoding, and of bytes that look like lengths.
func bodies() [][]byte {
	l := [][]byte{nil, {}, []byte("a"), []byte("ab"), {0}, {1}, {128}, {255}, {1, 97}, {0, 0, 0}, run(10, 255), {128, 0}}
	for _, n := range []int{126, 127, 128, 129, 255, 256, 300, 16382, 16383, 16384, 16385} {
		l = append(l, run(n, 97), run(n-1, 0, 255))
	}
	return l
}

// befores are slices with and without spare capacity, whose spare bytes are not 0.
func befores() [][]byte {
	l := [][]byte{nil, {}}
	for _, before := range [][]byte{{}, {0}, {1, 97}, {255, 0, 128}, run(100, 7)} {
		for _, spare := range []int{0, 1, 2, 3, 4, 128, 129, 130, 131, 16384, 16387, 20000} {
			l = append(l, slices.Concat(before, run(spare, 99))[:len(before):len(before)+spare])
		}
	}
	return l
}

// faults are bytes that uvar's Get refuses, with its error.
var faults = []struct {
	name string
	b    []byte
	want api.Errno
}{
	{"one byte of a length", []byte{128}, api.ErrShort},
	{"one full byte of a length", []byte{255}, api.ErrShort},
	{"two bytes of a length", []byte{172, 128}, api.ErrShort},
	{"nine bytes of a length", run(9, 128), api.ErrShort},
	{"nine full bytes of a length", run(9, 255), api.ErrShort},
	{"ten bytes without an end", run(10, 128), api.ErrForm},
	{"ten full bytes without an end", run(10, 255), api.ErrForm},
	{"an end behind ten bytes", run(10, 128, 1), api.ErrForm},
	{"a 0 behind ten bytes", run(10, 255, 0), api.ErrForm},
	{"many bytes without an end", run(50, 200), api.ErrForm},
	{"2^64", run(9, 128, 2), api.ErrForm},
	{"2^65 - 1", run(9, 255, 3), api.ErrForm},
	{"2^70 - 1", run(9, 255, 127), api.ErrForm},
	{"0 in two bytes", []byte{128, 0}, api.ErrForm},
	{"1 in two bytes, and its body", []byte{129, 0, 97}, api.ErrForm},
	{"127 in two bytes", []byte{255, 0}, api.ErrForm},
	{"300 in three bytes", []byte{172, 130, 0}, api.ErrForm},
	{"0 in ten bytes", run(9, 128, 0), api.ErrForm},
	{"2^63 - 1 in ten bytes", run(9, 255, 0), api.ErrForm},
}

// 15.1: the example, no body, and the edges of the length.
func TestPutExamples(t *testing.T) {
	for _, c := range []struct {
		b, body, want []byte
	}{
		{nil, []byte("a"), []byte{1, 97}},
		{nil, []byte{97}, []byte{1, 97}},
		{nil, nil, []byte{0}},
		{nil, []byte{}, []byte{0}},
		{[]byte{}, nil, []byte{0}},
		{[]byte{5}, nil, []byte{5, 0}},
		{[]byte{5}, []byte{}, []byte{5, 0}},
		{[]byte{5, 128}, []byte("ab"), []byte{5, 128, 2, 97, 98}},
		{[]byte{1, 97}, []byte{0}, []byte{1, 97, 1, 0}},
		{nil, run(126, 9), run(1, 126, run(126, 9)...)},
		{nil, run(127, 9), run(1, 127, run(127, 9)...)},
		{nil, run(128, 9), slices.Concat([]byte{128, 1}, run(128, 9))},
		{nil, run(300, 9), slices.Concat([]byte{172, 2}, run(300, 9))},
		{nil, run(16383, 9), slices.Concat([]byte{255, 127}, run(16383, 9))},
		{nil, run(16384, 9), slices.Concat([]byte{128, 128, 1}, run(16384, 9))},
		{[]byte{7}, run(16384, 255), slices.Concat([]byte{7, 128, 128, 1}, run(16384, 255))},
	} {
		if got := Put(c.b, c.body); !bytes.Equal(got, c.want) {
			t.Errorf("Put(%s, %s) = %s, want %s", show(c.b), show(c.body), show(got), show(c.want))
		}
	}
}

// 15.1, R4: what is in front stays, with and without spare capacity; the arguments are left as they are.
func TestPutFollowsWords(t *testing.T) {
	for _, body := range bodies() {
		for _, b := range befores() {
			before, keptBody := slices.Clone(b), slices.Clone(body)
			want := slices.Concat(before, framed(keptBody))
			if got := Put(b, body); !bytes.Equal(got, want) {
				t.Fatalf("Put(%s, %s) with %d bytes to spare = %s, want %s", show(before), show(body), cap(b)-len(b), show(got), show(want))
			}
			if !bytes.Equal(b, before) || !bytes.Equal(body, keptBody) {
				t.Fatalf("Put(%s, %s) changed its arguments to %s and %s", show(before), show(keptBody), show(b), show(body))
			}
		}
	}
}

// 15.1, R4: the result shares no memory with body, and none with b if that has no spare capacity.
func TestPutMakesNewMemory(t *testing.T) {
	for _, size := range []int{1, 2, 127, 128, 16384} {
		for _, b := range befores() {
			body := run(size, 97)
			got := Put(b, body)
			want := slices.Clone(got)
			for i := range body {
				body[i] = 5
			}
			if !bytes.Equal(got, want) {
				t.Fatalf("what Put(%s, ..) returns for %d bytes changes with the body", show(b), size)
			}
			clear(got[len(b):])
			if !bytes.Equal(body, run(size, 5)) {
				t.Fatalf("the body of %d bytes changes with what Put(%s, ..) returns", size, show(b))
			}
		}
	}
	for _, b := range [][]byte{{1}, {3, 4, 5}, run(64, 6)} {
		full := slices.Clip(slices.Clone(b))
		clear(Put(full, []byte("ab")))
		if !bytes.Equal(full, b) {
			t.Errorf("%s without spare capacity changes with what Put returns", show(b))
		}
	}
}

// 15.1: a body that lies in the spare capacity of b, or in b, gets into the frame as it was.
func TestPutOfItsOwnMemory(t *testing.T) {
	for _, spare := range []int{1, 2, 10, 127, 128, 129, 130, 300, 17000} {
		for front := range 4 {
			for from := range min(5, spare) {
				for _, size := range []int{0, 1, 2, 5, 126, 127, 128, 200, 16384} {
					if from+size > spare {
						continue
					}
					all := make([]byte, front+spare)
					for i := range all {
						all[i] = byte(i%251 + 1)
					}
					b, body := all[:front], all[front+from:front+from+size]
					want := slices.Concat(b, framed(body))
					if got := Put(b, body); !bytes.Equal(got, want) {
						t.Fatalf("Put of %d bytes with a body of %d bytes that lies %d bytes behind them = %s, want %s", front, size, from, show(got), show(want))
					}
				}
			}
		}
	}
	b := []byte{3, 4, 5, 6, 7, 8}[:3]
	if got := Put(b, b); !bytes.Equal(got, []byte{3, 4, 5, 3, 3, 4, 5}) || !bytes.Equal(b, []byte{3, 4, 5}) {
		t.Errorf("Put(b, b) = %v, and b is %v", got, b)
	}
}

// 15.2: the examples, and an ordinary frame.
func TestNextExamples(t *testing.T) {
	for _, c := range []struct {
		b    []byte
		most int
		want result
	}{
		{[]byte{2, 97}, 9, result{err: api.ErrShort}},
		{[]byte{9, 1}, 8, result{err: api.ErrLong}},
		{[]byte{1, 97}, 8, result{[]byte("a"), 2, api.OK}},
		{[]byte{1, 97, 5}, 8, result{[]byte("a"), 2, api.OK}},
		{[]byte{2, 97, 98}, 2, result{[]byte("ab"), 3, api.OK}},
		{[]byte{2, 97, 98}, 1, result{err: api.ErrLong}},
		{[]byte{0}, 0, result{nil, 1, api.OK}},
		{[]byte{0, 0, 0}, 8, result{nil, 1, api.OK}},
		{[]byte{0}, -1, result{err: api.ErrLong}},
		{[]byte{0}, math.MinInt, result{err: api.ErrLong}},
		{[]byte{0}, math.MaxInt, result{nil, 1, api.OK}},
		{nil, 8, result{err: api.ErrShort}},
		{[]byte{}, 8, result{err: api.ErrShort}},
		{nil, 0, result{err: api.ErrShort}},
		{nil, -1, result{err: api.ErrShort}},
		{nil, math.MinInt, result{err: api.ErrShort}},
		{slices.Concat([]byte{128, 1}, run(128, 9)), 128, result{run(128, 9), 130, api.OK}},
		{slices.Concat([]byte{128, 1}, run(128, 9)), 127, result{err: api.ErrLong}},
		{slices.Concat([]byte{128, 1}, run(127, 9)), 128, result{err: api.ErrShort}},
		{slices.Concat([]byte{128, 128, 1}, run(16384, 9)), 16384, result{run(16384, 9), 16387, api.OK}},
		{slices.Concat([]byte{128, 128, 1}, run(16384, 9)), 16383, result{err: api.ErrLong}},
	} {
		if got := next(c.b, c.most); !got.same(c.want) {
			t.Errorf("Next(%s, %d) = %v, want %v", show(c.b), c.most, got, c.want)
		}
	}
}

// 15.2, R2: what uvar's Get refuses is refused with its error, whatever most is and whatever follows what is refused with ErrForm.
func TestNextRefusesLengths(t *testing.T) {
	for _, f := range faults {
		for _, most := range mosts(len(f.b)) {
			if got := next(f.b, most); !got.same(result{err: f.want}) {
				t.Errorf("%s: Next(%s, %d) = %v, want error %d", f.name, show(f.b), most, got, f.want)
			}
			if f.want != api.ErrForm {
				continue
			}
			for _, tail := range [][]byte{{0}, {1}, {255}, run(300, 97)} {
				b := slices.Concat(f.b, tail)
				if got := next(b, most); !got.same(result{err: api.ErrForm}) {
					t.Errorf("%s: Next(%s, %d) = %v, want error %d", f.name, show(b), most, got, api.ErrForm)
				}
			}
		}
	}
}

// 15.2: lengths equal to most, one less and one greater, with none, one and all but one of the bytes, all of them, and more.
func TestNextByLengths(t *testing.T) {
	for _, n := range []int{0, 1, 2, 3, 8, 126, 127, 128, 129, 255, 256, 300, 16383, 16384, 70000} {
		body := run(max(n-1, 0), 97, 98)[:n]
		for _, follow := range []int{0, 1, 2, n - 2, n - 1, n, n + 1, n + 2, n + 300} {
			if follow < 0 {
				continue
			}
			b := slices.Concat(length(uint64(n)), run(follow, 97))
			copy(b[len(b)-follow:], body)
			for _, most := range mosts(n) {
				want := result{err: api.ErrShort}
				if n > most {
					want = result{err: api.ErrLong}
				} else if follow >= n {
					want = result{body, len(b) - follow + n, api.OK}
				}
				if got := next(b, most); !got.same(want) {
					t.Fatalf("Next of the length %d and %d bytes, with most = %d, = %v, want %v", n, follow, most, got, want)
				}
				checkNext(t, b, most)
			}
		}
	}
}

// 15.2, R1: the greatest lengths, which are negative as an int, or seem small if their upper bits are lost, never yield a body.
func TestNextOfGreatLengths(t *testing.T) {
	for _, n := range []uint64{math.MaxInt32 - 1, math.MaxInt32, math.MaxInt32 + 1, math.MaxUint32, math.MaxUint32 + 1, math.MaxUint32 + 2, 1<<62 + 1, math.MaxInt64 - 1, math.MaxInt64, math.MaxInt64 + 1, math.MaxInt64 + 2, math.MaxUint64 - 1, math.MaxUint64} {
		for _, follow := range []int{0, 1, 2, 9, 10, 11, 300} {
			b := slices.Concat(length(n), run(follow, 1))
			for _, most := range append(mosts(follow), int(n-1), int(n), int(n+1)) {
				want := api.ErrShort
				if most < 0 || n > uint64(most) {
					want = api.ErrLong
				}
				if got := next(b, most); !got.same(result{err: want}) {
					t.Fatalf("Next of the length %d and %d bytes, with most = %d, = %v, want error %d", n, follow, most, got, want)
				}
			}
		}
	}
}

// 15.2, 15.3, R1: all of up to two bytes, and all rows of bytes that matter, with all edges of most, by the chapter's words.
func TestNextAndAllFollowWords(t *testing.T) {
	check := func(b []byte) {
		for _, most := range mosts(len(b)) {
			checkNext(t, b, most)
			checkAll(t, b, most)
		}
	}
	check(nil)
	check([]byte{})
	for c := range 256 {
		check([]byte{byte(c)})
		for d := range 256 {
			b := []byte{byte(c), byte(d)}
			for _, most := range []int{-1, 0, 1, 2, 128, math.MaxInt} {
				checkNext(t, b, most)
				checkAll(t, b, most)
			}
		}
	}
	rows(nil, 5, check)
	for size := range 10 {
		for _, fill := range []byte{128, 129, 255} {
			for _, c := range []byte{0, 1, 2, 127, 128, 255} {
				for _, d := range []byte{0, 1, 127, 128} {
					check(run(size+1, fill, c, d))
				}
			}
		}
	}
}

// rows gives the function all rows of the bytes that matter, of up to so many bytes behind those in front.
func rows(front []byte, more int, give func(b []byte)) {
	if more == 0 {
		return
	}
	for _, c := range []byte{0, 1, 2, 3, 127, 128, 129, 255} {
		b := append(slices.Clone(front), c)
		give(b)
		rows(b, more-1, give)
	}
}

// mix is a row of numbers without any plain order, the same ones each time.
type mix uint64

func (m *mix) below(n int) int {
	x := uint64(*m)
	x ^= x << 13
	x ^= x >> 7
	x ^= x << 17
	*m = mix(x)
	return int((x >> 20) % uint64(n))
}

// 15.2, 15.3, R1: long rows of bytes, most of which begin with frames, by the chapter's words.
func TestLongRowsFollowWords(t *testing.T) {
	m := mix(88172645463325252)
	for range 20000 {
		var b []byte
		for range m.below(8) {
			b = append(b, framed(run(m.below(200), byte(m.below(256))))...)
		}
		for range m.below(12) {
			b = append(b, []byte{0, 1, 2, 5, 20, 97, 127, 128, 129, 172, 255}[m.below(11)])
		}
		for range m.below(3) {
			if len(b) > 0 {
				b[m.below(len(b))] = byte(m.below(256))
			}
		}
		for _, most := range []int{-1, 0, m.below(250), 250, api.MaxFrame, math.MaxInt} {
			checkNext(t, b, most)
			checkAll(t, b, most)
		}
	}
}

// 15.3: the example, no bytes, one frame and several ones, empty bodies among them.
func TestAllExamples(t *testing.T) {
	one, two, none := []byte("a"), []byte("bc"), []byte{}
	for _, c := range []struct {
		b    []byte
		most int
		want [][]byte
		at   int
		err  api.Errno
	}{
		{[]byte{1, 97, 0, 3}, 8, [][]byte{one, none}, 3, api.ErrShort},
		{nil, 8, nil, 0, api.OK},
		{[]byte{}, 8, nil, 0, api.OK},
		{nil, 0, nil, 0, api.OK},
		{nil, -1, nil, 0, api.OK},
		{nil, math.MinInt, nil, 0, api.OK},
		{[]byte{0}, 8, [][]byte{none}, 1, api.OK},
		{[]byte{0}, 0, [][]byte{none}, 1, api.OK},
		{[]byte{0}, -1, nil, 0, api.ErrLong},
		{[]byte{1, 97}, 8, [][]byte{one}, 2, api.OK},
		{[]byte{1, 97}, 1, [][]byte{one}, 2, api.OK},
		{[]byte{1, 97}, 0, nil, 0, api.ErrLong},
		{[]byte{0, 0, 0}, 8, [][]byte{none, none, none}, 3, api.OK},
		{[]byte{0, 1, 97, 0, 2, 98, 99, 0}, 2, [][]byte{none, one, none, two, none}, 8, api.OK},
		{[]byte{0, 1, 97, 0, 2, 98, 99, 0}, 1, [][]byte{none, one, none}, 4, api.ErrLong},
		{[]byte{0, 1, 97, 0, 2, 98, 99, 0}, 0, [][]byte{none}, 1, api.ErrLong},
		{[]byte{1, 97, 2, 98, 99, 9, 1}, 8, [][]byte{one, two}, 5, api.ErrLong},
		{[]byte{1, 97, 2, 98, 99, 8, 1}, 8, [][]byte{one, two}, 5, api.ErrShort},
		{[]byte{1, 97, 2, 98, 99, 128, 0}, 8, [][]byte{one, two}, 5, api.ErrForm},
		{[]byte{1, 97, 2, 98, 99, 128}, 8, [][]byte{one, two}, 5, api.ErrShort},
		{[]byte{3, 97}, 8, nil, 0, api.ErrShort},
		{[]byte{128, 0, 1, 97}, 8, nil, 0, api.ErrForm},
	} {
		got, at, err := All(c.b, c.most)
		if !sameBodies(got, c.want) || at != c.at || err != c.err {
			t.Errorf("All(%v, %d) = %v, %d, %d, want %v, %d, %d", c.b, c.most, got, at, err, c.want, c.at, c.err)
		}
	}
}

// fronts are rows of bodies: none, one and several.
func fronts() [][][]byte {
	return [][][]byte{
		nil,
		{{}},
		{[]byte("a")},
		{run(128, 255)},
		{{}, {}, {}},
		{[]byte("a"), {}, []byte("bc")},
		{{}, run(127, 1), run(128, 2), {}, run(300, 128), {0}},
		{run(16383, 3), run(16384, 4), {}},
	}
}

// 15.3: each of Next's errors behind none, one and several frames, with the bodies and the number of bytes up to there.
func TestAllRefuses(t *testing.T) {
	const most = 20000
	for _, front := range fronts() {
		good := framed(front...)
		check := func(bad []byte, want api.Errno) {
			t.Helper()
			b := slices.Concat(good, bad)
			got, at, err := All(b, most)
			if !sameBodies(got, front) || at != len(good) || err != want {
				t.Errorf("All of %d frames and %s = %d bodies, %d, %d, want all, %d, %d", len(front), show(bad), len(got), at, err, len(good), want)
			}
		}
		for _, f := range faults {
			check(f.b, f.want)
		}
		for _, n := range []uint64{most + 1, api.MaxFrame, math.MaxInt64, math.MaxInt64 + 1, math.MaxUint64} {
			for _, tail := range [][]byte{nil, {0}, run(most+1, 0)} {
				check(slices.Concat(length(n), tail), api.ErrLong)
			}
		}
		for _, n := range []int{1, 2, 127, 128, most - 1, most} {
			for _, follow := range []int{0, 1, n - 1} {
				if follow < n {
					check(slices.Concat(length(uint64(n)), run(follow, 0)), api.ErrShort)
				}
			}
		}
	}
}

// 15.3: frames that are cut off behind each of their bytes yield those that are whole, and ErrShort for the rest.
func TestAllOfCutFrames(t *testing.T) {
	front := [][]byte{{}, []byte("a"), {}, {128, 0}, run(127, 1), run(128, 2), run(300, 128), {}, {0}}
	b := framed(front...)
	whole, size := 0, 0
	for end := range len(b) + 1 {
		if whole < len(front) && end == size+len(framed(front[whole])) {
			whole, size = whole+1, end
		}
		want := api.ErrShort
		if end == size {
			want = api.OK
		}
		got, at, err := All(b[:end], 300)
		if !sameBodies(got, front[:whole]) || at != size || err != want {
			t.Errorf("All of the first %d bytes = %d bodies, %d, %d, want %d, %d, %d", end, len(got), at, err, whole, size, want)
		}
	}
	if whole != len(front) {
		t.Errorf("only %d of %d frames were whole", whole, len(front))
	}
}

// 15.1 to 15.3: what Put wrote, frame by frame, Next and All read back, and what they read is written so again.
func TestFramesGetBack(t *testing.T) {
	l := bodies()
	var b []byte
	for _, body := range l {
		b = Put(b, body)
	}
	if !bytes.Equal(b, framed(l...)) {
		t.Fatalf("the frames are %s, want %s", show(b), show(framed(l...)))
	}
	got, at, err := All(b, 16385)
	if !sameBodies(got, l) || at != len(b) || err != api.OK {
		t.Fatalf("All = %d bodies, %d, %d, want %d, %d, 0", len(got), at, err, len(l), len(b))
	}
	rest := b
	for _, body := range l {
		got := next(rest, 16385)
		if !got.same(result{body, len(framed(body)), api.OK}) {
			t.Fatalf("Next(%s, 16385) = %v, want the body %s", show(rest), got, show(body))
		}
		if again := Put(nil, got.body); !bytes.Equal(again, rest[:got.size]) {
			t.Fatalf("Put(nil, %s) = %s, want %s", show(got.body), show(again), show(rest[:got.size]))
		}
		rest = rest[got.size:]
	}
}

// fill writes over a body, and over what it could grow into.
func fill(body []byte, c byte) {
	body = body[:cap(body)]
	for i := range body {
		body[i] = c
	}
}

// 15.2, R4: the body is new memory, also for those who append to it, and b may be changed behind the call.
func TestNextMakesNewMemory(t *testing.T) {
	for _, body := range bodies() {
		b := append(framed(body), "behind"...)
		kept := slices.Clone(b)
		got, other := next(b, math.MaxInt), next(b, math.MaxInt)
		fill(got.body, 5)
		if !bytes.Equal(b, kept) || !bytes.Equal(other.body, body) {
			t.Fatalf("what Next returns for %s shares memory", show(kept))
		}
		clear(b)
		if !bytes.Equal(other.body, body) {
			t.Fatalf("what Next returns for %s changes with its argument", show(kept))
		}
	}
}

// 15.3, R4: each body is new memory, none shares it with another one, also for those who append to it, and b may be changed behind the call.
func TestAllMakesNewMemory(t *testing.T) {
	for _, front := range fronts() {
		for _, tail := range [][]byte{nil, {3, 97, 98}, {128, 0}} {
			b := slices.Concat(framed(front...), tail)
			kept := slices.Clone(b)
			got, _, _ := All(b, math.MaxInt)
			want := slices.Clone(front)
			clear(b)
			if !sameBodies(got, want) {
				t.Fatalf("the bodies of %s change with the argument of All", show(kept))
			}
			copy(b, kept)
			for i := range got {
				fill(got[i], 5)
				want[i] = run(len(got[i]), 5)
				if !bytes.Equal(b, kept) || !sameBodies(got, want) {
					t.Fatalf("body %d of %s shares memory", i, show(kept))
				}
			}
			if again, _, _ := All(b, math.MaxInt); !sameBodies(again, front) {
				t.Fatalf("All(%s, ..) hangs on what was done with the bodies of an earlier call", show(kept))
			}
		}
	}
}

// 15.2, 15.3, R4: the bytes behind b, in its spare capacity, are neither read nor changed.
func TestSpareBytesAreLeft(t *testing.T) {
	all := framed([]byte("ab"), []byte("cd"), run(200, 1))
	kept := slices.Clone(all)
	for end := range len(all) + 1 {
		b := all[:end]
		want := slices.Clone(b)
		if got := next(b, 300); !got.same(nextByWords(want, 300)) {
			t.Fatalf("Next of the first %d bytes = %v, want %v", end, got, nextByWords(want, 300))
		}
		checkAll(t, b, 300)
		if !bytes.Equal(all, kept) {
			t.Fatalf("the bytes behind the first %d were changed", end)
		}
	}
}

// 15.1 to 15.3, R1: many frames, and a long one.
func TestGreatInputs(t *testing.T) {
	long := run(1<<22, 128)
	b := Put(Put(nil, long), []byte("a"))
	if !bytes.Equal(b, framed(long, []byte("a"))) {
		t.Fatalf("Put of %d bytes = %s", len(long), show(b))
	}
	checkNext(t, b, len(long))
	checkNext(t, b, len(long)-1)
	checkAll(t, b, len(long))
	checkAll(t, b[:len(b)-1], len(long))
	checkAll(t, make([]byte, 1<<20), 0)
	checkAll(t, run(1<<20, 1), 1)
	checkAll(t, run(1<<20, 128), math.MaxInt)
	var many []byte
	for range 1 << 16 {
		many = Put(many, []byte("abc"))
	}
	if got, at, err := All(many, 3); len(got) != 1<<16 || at != len(many) || at != 4<<16 || err != api.OK {
		t.Errorf("All of many frames = %d bodies, %d, %d", len(got), at, err)
	}
}
