package seen

import (
	"math"
	"slices"
	"testing"

	"annulet/api"
)

const top = math.MaxUint32

// mix is a row of numbers without any plain order, the same ones each time.
type mix uint64

func (m *mix) next() uint64 {
	x := uint64(*m)
	x ^= x << 13
	x ^= x >> 7
	x ^= x << 17
	*m = mix(x)
	return x
}

func (m *mix) below(n int) int {
	return int((m.next() >> 20) % uint64(n))
}

// windowByWords lists by the words of 'A record' which of the numbers Top - 0 to Top - 63 were delivered.
func windowByWords(s api.Seen) [64]bool {
	var l [64]bool
	bits := s.Bits
	for k := range l {
		l[k] = bits%2 == 1
		bits /= 2
	}
	l[0] = true
	return l
}

// freshByWords follows the words of 20.1 with numbers that do not wrap around.
func freshByWords(s api.Seen, epoch, id uint32) api.Errno {
	if !s.Any {
		return 0
	}
	if int64(epoch) > int64(s.Epoch) {
		return 0
	}
	if int64(epoch) < int64(s.Epoch) {
		return 11
	}
	below := int64(s.Top) - int64(id)
	if below < 0 {
		return 0
	}
	if below >= 64 {
		return 11
	}
	if windowByWords(s)[below] {
		return 12
	}
	return 0
}

// bitsByWords are the Bits that a list of them stands for.
func bitsByWords(l []bool) uint64 {
	bits := uint64(0)
	for k := len(l) - 1; k >= 0; k-- {
		bits *= 2
		if l[k] {
			bits++
		}
	}
	return bits
}

// markByWords follows the words of 20.2, bit by bit.
func markByWords(s api.Seen, epoch, id uint32) api.Seen {
	if freshByWords(s, epoch, id) != 0 {
		return s
	}
	if !s.Any || epoch > s.Epoch {
		return api.Seen{Any: true, Epoch: epoch, Top: id, Bits: 1}
	}
	l := windowByWords(s)
	if id > s.Top {
		var shifted [64]bool
		for k := range l {
			if to := int64(k) + int64(id) - int64(s.Top); to < 64 {
				shifted[to] = l[k]
			}
		}
		shifted[0] = true
		return api.Seen{Any: true, Epoch: epoch, Top: id, Bits: bitsByWords(shifted[:])}
	}
	l[0] = s.Bits%2 == 1
	l[s.Top-id] = true
	return api.Seen{Any: true, Epoch: epoch, Top: s.Top, Bits: bitsByWords(l[:])}
}

// check holds all three functions to the words; it returns the record that Mark returns.
func check(t *testing.T, s api.Seen, epoch, id uint32) api.Seen {
	t.Helper()
	err := Fresh(s, epoch, id)
	if want := freshByWords(s, epoch, id); err != want {
		t.Fatalf("Fresh(%+v, %d, %d) = %d, want %d", s, epoch, id, err, want)
	}
	if has := Has(s, epoch, id); has != (err == 12) {
		t.Fatalf("Has(%+v, %d, %d) = %t, and Fresh returns %d", s, epoch, id, has, err)
	}
	marked := Mark(s, epoch, id)
	if want := markByWords(s, epoch, id); marked != want {
		t.Fatalf("Mark(%+v, %d, %d) = %+v, want %+v", s, epoch, id, marked, want)
	}
	if err := Fresh(marked, epoch, id); err == api.OK {
		t.Fatalf("Mark(%+v, %d, %d) = %+v, in which it is fresh", s, epoch, id, marked)
	}
	return marked
}

// rows are Bits of many kinds: none, all, each alone, each left out, runs from both ends, and some without order.
func rows() []uint64 {
	m := mix(20)
	l := []uint64{0, math.MaxUint64, 0x5555555555555555, 0xaaaaaaaaaaaaaaaa}
	for k := range 64 {
		l = append(l, 1<<k, ^(uint64(1) << k), uint64(1)<<k-1, -(uint64(1) << k))
	}
	for range 20 {
		l = append(l, m.next())
	}
	return l
}

// tops are numbers at the edges: near 0, where a part of the window is below it, around the powers of 2, and near the last one.
func tops() []uint32 {
	l := []uint32{0, 1, 2, 5, 31, 32, 61, 62, 63, 64, 65, 66, 70, 71, 126, 127, 128, 129, 1000}
	for _, n := range []uint32{1 << 8, 1 << 16, 1 << 31} {
		l = append(l, n-64, n-1, n, n+1, n+63)
	}
	return append(l, top-128, top-65, top-64, top-63, top-62, top-1, top)
}

// idsAround are numbers at the window's edges of a record with this Top, within it, and far from it, wrapped around as well.
func idsAround(at uint32) []uint32 {
	l := []uint32{0, 1, 63, 64, 1<<31 - 1, 1 << 31, 1<<31 + 1, top - 64, top - 63, top - 1, top, at + 1<<31, at + 1<<31 - 1, at + 1<<16}
	for d := range uint32(68) {
		l = append(l, at-d, at+d)
	}
	for _, d := range []uint32{126, 127, 128, 129, 191, 192, 255, 256, 257, 256 + 63, 1 << 16, 1<<16 + 5} {
		l = append(l, at-d, at+d)
	}
	return l
}

// 20.1, 20.2, 20.3: the chapter's examples.
func TestExamples(t *testing.T) {
	s := api.Seen{Any: true, Epoch: 1, Top: 70, Bits: 1}
	for _, c := range []struct {
		id   uint32
		want api.Errno
	}{{6, api.ErrOld}, {7, api.OK}, {70, api.ErrTwice}} {
		if err := Fresh(s, 1, c.id); err != c.want {
			t.Errorf("Fresh of %d = %d, want %d", c.id, err, c.want)
		}
	}
	marked := Mark(s, 1, 71)
	if want := (api.Seen{Any: true, Epoch: 1, Top: 71, Bits: 3}); marked != want {
		t.Errorf("Mark of 71 = %+v, want %+v", marked, want)
	}
	for _, r := range []api.Seen{s, marked} {
		if !Has(r, 1, 70) || Has(r, 1, 69) {
			t.Errorf("in %+v, Has of 70 = %t, and of 69 = %t", r, Has(r, 1, 70), Has(r, 1, 69))
		}
	}
}

// 20.1, 20.3: results that are written out.
func TestFreshWrittenOut(t *testing.T) {
	some := api.Seen{Any: true, Epoch: 5, Top: 100, Bits: 1<<63 | 1<<10 | 1}
	for _, c := range []struct {
		s         api.Seen
		epoch, id uint32
		want      api.Errno
	}{
		{api.Seen{}, 0, 0, api.OK},
		{api.Seen{}, 7, top, api.OK},
		{api.Seen{Epoch: 9, Top: 9, Bits: math.MaxUint64}, 9, 9, api.OK}, // without Any nothing was delivered
		{api.Seen{Epoch: 9, Top: 9, Bits: math.MaxUint64}, 8, 9, api.OK},
		{api.Seen{Epoch: 9, Top: 90, Bits: math.MaxUint64}, 9, 3, api.OK},
		{some, 6, 100, api.OK}, // an epoch of its own
		{some, 6, 0, api.OK},
		{some, top, 100, api.OK},
		{some, 4, 100, api.ErrOld},
		{some, 4, 101, api.ErrOld},
		{some, 0, top, api.ErrOld},
		{some, 5, 101, api.OK},
		{some, 5, top, api.OK},
		{some, 5, 100, api.ErrTwice},
		{some, 5, 99, api.OK},
		{some, 5, 91, api.OK},
		{some, 5, 90, api.ErrTwice},
		{some, 5, 89, api.OK},
		{some, 5, 38, api.OK},
		{some, 5, 37, api.ErrTwice}, // the window's last bit
		{some, 5, 36, api.ErrOld},
		{some, 5, 35, api.ErrOld},
		{some, 5, 0, api.ErrOld},
		{api.Seen{Any: true, Epoch: 5, Top: 100}, 5, 100, api.ErrTwice}, // the bit of Top always counts as 1
		{api.Seen{Any: true, Epoch: 5, Top: 100}, 5, 37, api.OK},
		{api.Seen{Any: true, Epoch: 5, Top: 100}, 5, 36, api.ErrOld},
		{api.Seen{Any: true}, 0, 0, api.ErrTwice},
		{api.Seen{Any: true, Bits: math.MaxUint64}, 0, 1, api.OK},
		{api.Seen{Any: true, Bits: math.MaxUint64}, 0, top, api.OK}, // bits below 0 are no great numbers
		{api.Seen{Any: true, Bits: math.MaxUint64}, 0, top - 62, api.OK},
		{api.Seen{Any: true, Top: 3, Bits: math.MaxUint64}, 0, 0, api.ErrTwice},
		{api.Seen{Any: true, Top: 3, Bits: 1<<3 | 1}, 0, 0, api.ErrTwice},
		{api.Seen{Any: true, Top: 3, Bits: ^uint64(1 << 3)}, 0, 0, api.OK},
		{api.Seen{Any: true, Top: 63, Bits: 1}, 0, 0, api.OK},
		{api.Seen{Any: true, Top: 64, Bits: 1}, 0, 0, api.ErrOld},
		{api.Seen{Any: true, Top: top, Bits: 1}, 0, 0, api.ErrOld}, // not the number behind the last one
		{api.Seen{Any: true, Top: top, Bits: 1}, 0, top, api.ErrTwice},
		{api.Seen{Any: true, Top: top, Bits: 1}, 0, top - 63, api.OK},
		{api.Seen{Any: true, Top: top, Bits: 1}, 0, top - 64, api.ErrOld},
		{api.Seen{Any: true, Epoch: top, Top: 9, Bits: 1}, 0, 10, api.ErrOld},
		{api.Seen{Any: true, Epoch: top, Top: 9, Bits: 1}, top, 10, api.OK},
		{api.Seen{Any: true, Epoch: top - 1, Top: 9, Bits: 1}, top, 9, api.OK},
		{api.Seen{Any: true, Epoch: 1 << 31, Top: 9, Bits: 1}, 1<<31 - 1, 10, api.ErrOld},
		{api.Seen{Any: true, Epoch: 1, Top: 9, Bits: 1}, 1<<31 + 2, 9, api.OK},
	} {
		if err := Fresh(c.s, c.epoch, c.id); err != c.want {
			t.Errorf("Fresh(%+v, %d, %d) = %d, want %d", c.s, c.epoch, c.id, err, c.want)
		}
		if has := Has(c.s, c.epoch, c.id); has != (c.want == api.ErrTwice) {
			t.Errorf("Has(%+v, %d, %d) = %t", c.s, c.epoch, c.id, has)
		}
		check(t, c.s, c.epoch, c.id)
	}
}

// 20.2: records that are written out.
func TestMarkWrittenOut(t *testing.T) {
	for _, c := range []struct {
		s         api.Seen
		epoch, id uint32
		want      api.Seen
	}{
		{api.Seen{}, 0, 0, api.Seen{Any: true, Bits: 1}},
		{api.Seen{}, 3, 8, api.Seen{Any: true, Epoch: 3, Top: 8, Bits: 1}},
		{api.Seen{Epoch: 9, Top: 9, Bits: 255}, 3, 8, api.Seen{Any: true, Epoch: 3, Top: 8, Bits: 1}},
		{api.Seen{Epoch: 9, Top: 9, Bits: 255}, 9, 10, api.Seen{Any: true, Epoch: 9, Top: 10, Bits: 1}},
		{api.Seen{Any: true, Epoch: 3, Top: 8, Bits: 255}, 4, 9, api.Seen{Any: true, Epoch: 4, Top: 9, Bits: 1}},
		{api.Seen{Any: true, Epoch: 3, Top: 8, Bits: 255}, 4, 2, api.Seen{Any: true, Epoch: 4, Top: 2, Bits: 1}},
		{api.Seen{Any: true, Epoch: 3, Top: 8, Bits: 255}, top, 8, api.Seen{Any: true, Epoch: top, Top: 8, Bits: 1}},
		{api.Seen{Any: true, Epoch: 3, Top: 8, Bits: 1}, 3, 10, api.Seen{Any: true, Epoch: 3, Top: 10, Bits: 5}},
		{api.Seen{Any: true, Epoch: 3, Top: 8, Bits: 5}, 3, 11, api.Seen{Any: true, Epoch: 3, Top: 11, Bits: 41}},
		{api.Seen{Any: true, Epoch: 3, Top: 8, Bits: 4}, 3, 11, api.Seen{Any: true, Epoch: 3, Top: 11, Bits: 41}}, // Top had been delivered
		{api.Seen{Any: true, Epoch: 3, Top: 8}, 3, 9, api.Seen{Any: true, Epoch: 3, Top: 9, Bits: 3}},
		{api.Seen{Any: true, Top: 8, Bits: 1}, 0, 71, api.Seen{Any: true, Top: 71, Bits: 1<<63 | 1}},
		{api.Seen{Any: true, Top: 8}, 0, 71, api.Seen{Any: true, Top: 71, Bits: 1<<63 | 1}},
		{api.Seen{Any: true, Top: 8, Bits: 1}, 0, 72, api.Seen{Any: true, Top: 72, Bits: 1}},
		{api.Seen{Any: true, Top: 8, Bits: 3}, 0, 71, api.Seen{Any: true, Top: 71, Bits: 1<<63 | 1}},
		{api.Seen{Any: true, Top: 80, Bits: math.MaxUint64}, 0, 81, api.Seen{Any: true, Top: 81, Bits: math.MaxUint64}},
		{api.Seen{Any: true, Top: 80, Bits: math.MaxUint64}, 0, 84, api.Seen{Any: true, Top: 84, Bits: math.MaxUint64 - 14}},
		{api.Seen{Any: true, Top: 80, Bits: math.MaxUint64}, 0, 80 + 256, api.Seen{Any: true, Top: 336, Bits: 1}},
		{api.Seen{Any: true, Top: 80, Bits: math.MaxUint64}, 0, top, api.Seen{Any: true, Top: top, Bits: 1}},
		{api.Seen{Any: true, Bits: 1}, 0, top, api.Seen{Any: true, Top: top, Bits: 1}},
		{api.Seen{Any: true, Top: 80, Bits: 1}, 0, 79, api.Seen{Any: true, Top: 80, Bits: 3}},
		{api.Seen{Any: true, Top: 80, Bits: 1}, 0, 17, api.Seen{Any: true, Top: 80, Bits: 1<<63 | 1}},
		{api.Seen{Any: true, Top: 80, Bits: 8}, 0, 79, api.Seen{Any: true, Top: 80, Bits: 10}}, // bit 0 keeps its value
		{api.Seen{Any: true, Top: 80}, 0, 17, api.Seen{Any: true, Top: 80, Bits: 1 << 63}},
		{api.Seen{Any: true, Top: 5, Bits: 1<<9 | 1}, 0, 3, api.Seen{Any: true, Top: 5, Bits: 1<<9 | 5}}, // a bit below 0 stays
		{api.Seen{Any: true, Top: 5, Bits: 1<<9 | 1}, 0, 6, api.Seen{Any: true, Top: 6, Bits: 1<<10 | 3}},
	} {
		if marked := Mark(c.s, c.epoch, c.id); marked != c.want {
			t.Errorf("Mark(%+v, %d, %d) = %+v, want %+v", c.s, c.epoch, c.id, marked, c.want)
		}
		check(t, c.s, c.epoch, c.id)
	}
}

// 20.2: numbers that Fresh refuses leave the record as it is, whatever its bit 0 is.
func TestMarkRefused(t *testing.T) {
	for _, bits := range []uint64{0, 1, 2, 3, 1 << 63, 1<<63 | 1, math.MaxUint64 - 1, math.MaxUint64} {
		s := api.Seen{Any: true, Epoch: 5, Top: 100, Bits: bits}
		for _, c := range []struct{ epoch, id uint32 }{{4, 100}, {4, 101}, {0, 0}, {5, 100}, {5, 36}, {5, 0}} {
			if marked := Mark(s, c.epoch, c.id); marked != s {
				t.Errorf("Mark(%+v, %d, %d) = %+v", s, c.epoch, c.id, marked)
			}
		}
		for k := range uint32(64) {
			if marked := Mark(s, 5, 100-k); bits>>k&1 == 1 && marked != s {
				t.Errorf("Mark(%+v, 5, %d) = %+v", s, 100-k, marked)
			}
		}
	}
}

// 20.1, 20.2, 20.3: records with all these Tops and Bits, and numbers of their own epoch all around.
func TestOwnEpoch(t *testing.T) {
	for i, at := range tops() {
		for _, bits := range rows() {
			s := api.Seen{Any: true, Epoch: uint32(i), Top: at, Bits: bits}
			for _, id := range idsAround(at) {
				check(t, s, uint32(i), id)
			}
		}
	}
}

// 20.1, 20.2, 20.3: epochs ahead of the record's own and behind it, with each number, and records without Any.
func TestOtherEpochs(t *testing.T) {
	epochs := []uint32{0, 1, 2, 63, 64, 65, 1<<31 - 1, 1 << 31, 1<<31 + 1, top - 1, top}
	for _, own := range epochs {
		for _, epoch := range append([]uint32{own - 64, own - 1, own + 1, own + 64, own + 1<<31}, epochs...) {
			for _, at := range tops() {
				for _, known := range []bool{false, true} {
					s := api.Seen{Any: known, Epoch: own, Top: at, Bits: math.MaxUint64}
					for _, id := range []uint32{0, at - 64, at - 63, at - 1, at, at + 1, at + 64, top} {
						check(t, s, epoch, id)
					}
				}
			}
		}
	}
}

// 20.1, 20.2, 20.3: records and numbers without any plain order.
func TestFollowsWords(t *testing.T) {
	m := mix(201)
	for range 300000 {
		s := api.Seen{Any: m.below(8) > 0, Epoch: uint32(m.below(4)), Top: uint32(m.next() >> (32 + m.below(32))), Bits: m.next() & m.next()}
		check(t, s, uint32(m.below(5)), s.Top+uint32(m.below(200))-100)
		check(t, s, s.Epoch, uint32(m.next()>>20))
	}
}

// number is one of an epoch.
type number struct{ epoch, id uint32 }

// history keeps all numbers that were marked in a record that was empty first.
type history struct {
	record api.Seen
	marked []number
}

// last is the greatest marked number of the greatest epoch.
func (h *history) last() number {
	return slices.MaxFunc(h.marked, func(a, b number) int {
		if a.epoch != b.epoch {
			return int(int64(a.epoch) - int64(b.epoch))
		}
		return int(int64(a.id) - int64(b.id))
	})
}

// mark holds Mark to the words, and the record to what was marked.
func (h *history) mark(t *testing.T, n number) {
	t.Helper()
	h.record = check(t, h.record, n.epoch, n.id)
	h.marked = append(h.marked, n)
	for _, before := range h.marked {
		if err := Fresh(h.record, before.epoch, before.id); err == api.OK {
			t.Fatalf("%+v was marked and is fresh in %+v", before, h.record)
		}
	}
	h.checkLast(t)
}

// checkLast holds the record to the second sentence of 20.4.
func (h *history) checkLast(t *testing.T) {
	t.Helper()
	last := h.last()
	for bit := range 32 {
		if id := last.id + 1<<bit; id > last.id && Fresh(h.record, last.epoch, id) != api.OK {
			t.Fatalf("%d is greater than %+v and is not fresh in %+v", id, last, h.record)
		}
	}
	if last.id < top && Fresh(h.record, last.epoch, top) != api.OK {
		t.Fatalf("the last number is greater than %+v and is not fresh in %+v", last, h.record)
	}
}

// checkWindow holds the record to the marked numbers alone: what of the window was marked is there, and nothing else.
func (h *history) checkWindow(t *testing.T) {
	t.Helper()
	last := h.last()
	for d := range uint32(64) {
		if d > last.id {
			break
		}
		want := slices.Contains(h.marked, number{last.epoch, last.id - d})
		if has := Has(h.record, last.epoch, last.id-d); has != want {
			t.Fatalf("Has(%+v, %d, %d) = %t, want %t", h.record, last.epoch, last.id-d, has, want)
		}
		if err := Fresh(h.record, last.epoch, last.id-d); (err == api.OK) == want {
			t.Fatalf("Fresh(%+v, %d, %d) = %d", h.record, last.epoch, last.id-d, err)
		}
	}
}

// 20.4: numbers that come mostly upwards, with some that come late, twice, too late, or far ahead, in epochs that change now and then.
func TestHistories(t *testing.T) {
	m := mix(204)
	for range 300 {
		var h history
		epoch, id := uint32(m.below(3)), uint32(m.below(100))
		for range 120 {
			switch m.below(30) {
			case 0:
				epoch++
			case 1:
				id += uint32(m.below(200))
			}
			id += uint32(m.below(3))
			late := min(uint32(m.below(1+m.below(90))), id)
			h.mark(t, number{epoch - min(uint32(m.below(40)/39), epoch), id - late})
			h.checkWindow(t)
		}
	}
}

// 20.4: the last numbers of the last epoch; no number is greater than the last one.
func TestHistoriesAtTheEnd(t *testing.T) {
	m := mix(2040)
	for range 100 {
		var h history
		for range 150 {
			h.mark(t, number{top - uint32(m.below(8)/7), top - uint32(m.below(100))})
			h.checkWindow(t)
		}
		if err := Fresh(h.record, h.last().epoch, 0); err == api.OK {
			t.Fatalf("0 is fresh in %+v", h.record)
		}
	}
}

// 20.4: each of 200 numbers once, in order, in reverse, and in steps that lead through all of them.
func TestOrders(t *testing.T) {
	for _, step := range []int{1, 199, 3, 61, 63, 67, 101} {
		var h history
		for i := range 200 {
			h.mark(t, number{1, uint32(i * step % 200)})
			h.checkWindow(t)
		}
	}
}

// 20.4: also in a record that was not empty, each marked number stays refused.
func TestFromAnyRecord(t *testing.T) {
	m := mix(2041)
	for range 2000 {
		s := api.Seen{Any: m.below(4) > 0, Epoch: uint32(m.below(3)), Top: uint32(m.below(300)), Bits: m.next() & m.next()}
		var marked []number
		for range 40 {
			n := number{uint32(m.below(3)), uint32(m.below(400))}
			s = check(t, s, n.epoch, n.id)
			marked = append(marked, n)
			for _, before := range marked {
				if Fresh(s, before.epoch, before.id) == api.OK {
					t.Fatalf("%+v was marked and is fresh in %+v", before, s)
				}
			}
		}
	}
}

// R4, R5: a record is a value: what was made of it before changes no later result.
func TestResultsStayTheSame(t *testing.T) {
	m := mix(2042)
	for range 20000 {
		s := api.Seen{Any: m.below(4) > 0, Epoch: 1, Top: uint32(m.below(200)), Bits: m.next()}
		kept := s
		epoch, id := uint32(m.below(3)), uint32(m.below(300))
		err, marked := Fresh(s, epoch, id), Mark(s, epoch, id)
		Mark(marked, epoch+1, id)
		if s != kept || Fresh(s, epoch, id) != err || Mark(s, epoch, id) != marked {
			t.Fatalf("Fresh or Mark of %+v, %d, %d differs from call to call", kept, epoch, id)
		}
	}
}
