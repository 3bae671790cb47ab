package parts

import (
	"bytes"
	"fmt"
	"math"
	"testing"

	"annulet/api"
)

// mix is a row of numbers without any plain order, the same ones each time.
type mix uint64

func (m *mix) next() uint64 {
	x := uint64(*m)
	x ^= x << 13
	x ^= x >> 7
	x ^= x << 17
	*m = mix(x)
	return x
}

func (m *mix) below(n int) int {
	return int((m.next() >> 20) % uint64(n))
}

// byWords is a collection by the words of the chapter: a row of bodies, with a mark at each that is present.
type byWords struct {
	bodies [][]byte
	there  []bool
}

func newByWords(count int) *byWords {
	return &byWords{bodies: make([][]byte, count), there: make([]bool, count)}
}

func (w *byWords) add(index int, body []byte) api.Errno {
	if index < 0 {
		return 1
	}
	if index >= len(w.there) {
		return 1
	}
	if w.there[index] {
		return 12
	}
	w.there[index] = true
	w.bodies[index] = []byte(string(body))
	return 0
}

func (w *byWords) has(index int) bool {
	return index >= 0 && index < len(w.there) && w.there[index]
}

func (w *byWords) missing() int {
	n := 0
	for _, ok := range w.there {
		if !ok {
			n++
		}
	}
	return n
}

func (w *byWords) size() int {
	return len(bytes.Join(w.bodies, nil))
}

func (w *byWords) whole() ([]byte, bool) {
	if w.missing() > 0 {
		return nil, false
	}
	return bytes.Join(w.bodies, nil), true
}

// made returns a collection that must be there.
func made(t *testing.T, count int) *Parts {
	t.Helper()
	p, e := New(count)
	if e != api.OK || p == nil {
		t.Fatalf("New(%d) = %v, %d", count, p, e)
	}
	return p
}

// want tells where p answers otherwise than the words do.
func want(t *testing.T, p *Parts, w *byWords) {
	t.Helper()
	for _, i := range edges(len(w.there)) {
		if got := p.Has(i); got != w.has(i) {
			t.Fatalf("Has(%d) = %v", i, got)
		}
	}
	if got := p.Missing(); got != w.missing() {
		t.Fatalf("Missing = %d, want %d", got, w.missing())
	}
	if got := p.Size(); got != w.size() {
		t.Fatalf("Size = %d, want %d", got, w.size())
	}
	got, ok := p.Whole()
	all, yes := w.whole()
	if ok != yes || !bytes.Equal(got, all) {
		t.Fatalf("Whole = %q, %v, want %q, %v", got, ok, all, yes)
	}
}

// edges are all indices of a small collection and those about the ends of what an int can be.
func edges(count int) []int {
	l := []int{math.MinInt, math.MinInt + 1, -65536, -2, -1, count, count + 1, 65535, 65536, 1 << 32, math.MaxInt - 1, math.MaxInt}
	for i := range min(count, 40) {
		l = append(l, i)
	}
	return l
}

// 21.1: a count from 1 to 65535 gets a collection of which no part is present; any other count gets ErrArg and nothing else.
func TestNew(t *testing.T) {
	for _, count := range []int{1, 2, 3, 255, 256, 65534, 65535} {
		p := made(t, count)
		want(t, p, newByWords(count))
		if got := p.Missing(); got != count {
			t.Errorf("New(%d): Missing = %d", count, got)
		}
		if p.Has(count-1) || p.Has(count/2) {
			t.Errorf("New(%d): a part is present", count)
		}
	}
	for _, count := range []int{0, -1, -2, -65535, 65536, 65537, 65536 + 65535, 1 << 32, 1<<32 + 1, math.MinInt, math.MinInt + 1, math.MaxInt} {
		if p, e := New(count); p != nil || e != api.ErrArg {
			t.Errorf("New(%d) = %v, %d", count, p, e)
		}
	}
}

// 21.2, 21.3: the chapter's example, with what all methods answer between its steps.
func TestExample(t *testing.T) {
	p := made(t, 2)
	if e := p.Add(1, []byte("b")); e != api.OK {
		t.Fatalf("Add(1) = %d", e)
	}
	if s, ok := p.Whole(); ok || len(s) != 0 {
		t.Errorf("Whole = %q, %v", s, ok)
	}
	if p.Has(0) || !p.Has(1) || p.Missing() != 1 || p.Size() != 1 {
		t.Errorf("Has = %v, %v; Missing = %d; Size = %d", p.Has(0), p.Has(1), p.Missing(), p.Size())
	}
	if e := p.Add(0, []byte("a")); e != api.OK {
		t.Fatalf("Add(0) = %d", e)
	}
	if s, ok := p.Whole(); !ok || string(s) != "ab" {
		t.Errorf("Whole = %q, %v", s, ok)
	}
	if !p.Has(0) || !p.Has(1) || p.Missing() != 0 || p.Size() != 2 {
		t.Errorf("Has = %v, %v; Missing = %d; Size = %d", p.Has(0), p.Has(1), p.Missing(), p.Size())
	}
}

// 21.2: an index that is no part's gets ErrArg, one that is present ErrTwice, whatever the body is; neither changes anything.
func TestAddRefuses(t *testing.T) {
	bodies := [][]byte{nil, {}, []byte("b"), []byte("bb"), []byte("other"), make([]byte, 70000)}
	for _, count := range []int{1, 2, 3, 65535} {
		p, w := made(t, count), newByWords(count)
		p.Add(count-1, []byte("b"))
		w.add(count-1, []byte("b"))
		for _, body := range bodies {
			for _, i := range []int{-1, -2, -count, math.MinInt, count, count + 1, 65536 + count - 1, 1<<32 + count - 1, math.MaxInt} {
				if e := p.Add(i, body); e != api.ErrArg {
					t.Errorf("of %d parts, Add(%d) = %d", count, i, e)
				}
			}
			if e := p.Add(count-1, body); e != api.ErrTwice {
				t.Errorf("of %d parts, Add(%d) with %d bytes = %d", count, count-1, len(body), e)
			}
		}
		want(t, p, w)
	}
}

// 21.2, 21.3: a part without bytes, nil or not, is present like any other, and is refused the second time.
func TestEmptyParts(t *testing.T) {
	p := made(t, 3)
	for i, body := range [][]byte{nil, {}, nil} {
		if p.Has(i) {
			t.Errorf("Has(%d) ahead of Add", i)
		}
		if e := p.Add(i, body); e != api.OK {
			t.Errorf("Add(%d) = %d", i, e)
		}
		if e := p.Add(i, []byte("x")); e != api.ErrTwice {
			t.Errorf("the second Add(%d) = %d", i, e)
		}
		if !p.Has(i) || p.Missing() != 2-i || p.Size() != 0 {
			t.Errorf("after %d: Has = %v, Missing = %d, Size = %d", i, p.Has(i), p.Missing(), p.Size())
		}
		if s, ok := p.Whole(); ok != (i == 2) || len(s) != 0 {
			t.Errorf("after %d: Whole = %q, %v", i, s, ok)
		}
	}
	one := made(t, 1)
	one.Add(0, nil)
	if s, ok := one.Whole(); !ok || len(s) != 0 || one.Missing() != 0 {
		t.Errorf("Whole = %q, %v; Missing = %d", s, ok, one.Missing())
	}
}

// 21.2, 21.3: whatever is added, in whatever order, and however often, all methods answer as the words do.
func TestRandomRows(t *testing.T) {
	m := mix(21)
	for row := range 400 {
		count := 1 + m.below(12)
		p, w := made(t, count), newByWords(count)
		for range 3 * count {
			i := m.below(count+4) - 2
			body := make([]byte, m.below(5))
			for k := range body {
				body[k] = byte(m.next() >> 30)
			}
			if got, e := p.Add(i, body), w.add(i, body); got != e {
				t.Fatalf("row %d: of %d parts, Add(%d) = %d, want %d", row, count, i, got, e)
			}
			want(t, p, w)
		}
	}
}

// order returns the numbers below n, mixed.
func order(m *mix, n int) []int {
	l := make([]int, n)
	for i := range l {
		l[i] = i
	}
	for i := n - 1; i > 0; i-- {
		k := m.below(i + 1)
		l[i], l[k] = l[k], l[i]
	}
	return l
}

// 21.3: the order in which the parts arrive is not to be seen in Whole, which is there with the last of them and not before.
func TestAnyOrder(t *testing.T) {
	m := mix(213)
	for _, count := range []int{1, 2, 3, 10, 100, 1000, 65535} {
		p := made(t, count)
		var all []byte
		for i := range count {
			all = fmt.Append(all, i, ";")
		}
		for k, i := range order(&m, count) {
			if k > count-4 {
				if s, ok := p.Whole(); ok || len(s) != 0 {
					t.Fatalf("of %d parts, with %d: Whole has %d bytes, %v", count, k, len(s), ok)
				}
			}
			if e := p.Add(i, fmt.Append(nil, i, ";")); e != api.OK {
				t.Fatalf("of %d parts, Add(%d) = %d", count, i, e)
			}
			if p.Missing() != count-k-1 {
				t.Fatalf("of %d parts, with %d: Missing = %d", count, k+1, p.Missing())
			}
		}
		if s, ok := p.Whole(); !ok || !bytes.Equal(s, all) || p.Size() != len(all) {
			t.Errorf("of %d parts: Whole has %d bytes, %v; Size = %d, want %d", count, len(s), ok, p.Size(), len(all))
		}
	}
}

// 21.2, 21.3: a body that is changed after Add, or a result of Whole that is changed, changes nothing that is kept (R4); Add leaves body as it was.
func TestNewMemory(t *testing.T) {
	p := made(t, 2)
	room := []byte("abcd")
	p.Add(0, room[:2])
	p.Add(1, room[2:])
	if string(room) != "abcd" {
		t.Errorf("Add left %q", room)
	}
	copy(room, "wxyz")
	first, _ := p.Whole()
	if string(first) != "abcd" {
		t.Errorf("Whole = %q", first)
	}
	copy(first, "wxyz")
	_ = append(first[:1], "wxyz"...)
	if again, ok := p.Whole(); !ok || string(again) != "abcd" {
		t.Errorf("Whole = %q, %v", again, ok)
	}
	one := made(t, 1)
	one.Add(0, room)
	whole, _ := one.Whole()
	whole[0] = '!'
	if again, _ := one.Whole(); string(again) != "wxyz" || string(room) != "wxyz" {
		t.Errorf("Whole = %q, of %q", again, room)
	}
}

// 21.1, 21.2: two collections do not touch each other (R5).
func TestApart(t *testing.T) {
	a, b := made(t, 2), made(t, 2)
	a.Add(0, []byte("a"))
	if b.Has(0) || b.Missing() != 2 || b.Size() != 0 {
		t.Errorf("Has = %v, Missing = %d, Size = %d", b.Has(0), b.Missing(), b.Size())
	}
	if e := b.Add(0, []byte("b")); e != api.OK {
		t.Errorf("Add = %d", e)
	}
}

// 21.3: asking changes nothing, and Whole can be asked for again and again.
func TestAskingChangesNothing(t *testing.T) {
	p, w := made(t, 2), newByWords(2)
	for _, i := range []int{1, 0} {
		for range 3 {
			want(t, p, w)
		}
		p.Add(i, []byte{byte(i), 7})
		w.add(i, []byte{byte(i), 7})
	}
	for range 3 {
		want(t, p, w)
	}
}

// 21.3: for nil Parts, and for Parts that New did not create, Add returns ErrState ahead of any other error, and the others zero values, before and after.
func TestNotMade(t *testing.T) {
	var none *Parts
	for name, p := range map[string]*Parts{"nil": none, "zero": {}, "new": new(Parts)} {
		for range 2 {
			for _, i := range []int{math.MinInt, -1, 0, 1, math.MaxInt} {
				if p.Has(i) {
					t.Errorf("%s: Has(%d)", name, i)
				}
				if e := p.Add(i, []byte("a")); e != api.ErrState {
					t.Errorf("%s: Add(%d) = %d", name, i, e)
				}
				if e := p.Add(i, nil); e != api.ErrState {
					t.Errorf("%s: Add(%d, nil) = %d", name, i, e)
				}
			}
			if n := p.Missing(); n != 0 {
				t.Errorf("%s: Missing = %d", name, n)
			}
			if n := p.Size(); n != 0 {
				t.Errorf("%s: Size = %d", name, n)
			}
			if s, ok := p.Whole(); ok || len(s) != 0 {
				t.Errorf("%s: Whole = %q, %v", name, s, ok)
			}
		}
	}
}
