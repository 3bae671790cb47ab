package asm

import (
	"bytes"
	"fmt"
	"math"
	"slices"
	"testing"

	"annulet/api"
	"annulet/gram"
	"annulet/room"
	"annulet/split"
)

// mix is a row of numbers without any plain order, the same ones each time.
type mix uint64

func (m *mix) next() uint64 {
	x := uint64(*m)
	x ^= x << 13
	x ^= x >> 7
	x ^= x << 17
	*m = mix(x)
	return x
}

func (m *mix) below(n int) int {
	return int((m.next() >> 20) % uint64(n))
}

// number is what a message is known by, once it is delivered.
type number struct {
	from      uint16
	epoch, id uint32
}

// byWords is a reassembler by the words of the chapter: a table of layer 22, and beside it each number that was delivered, from which the records are told anew each time.
type byWords struct {
	table     *room.Table
	delivered []number
}

// record returns what chapter 20 calls a record, of one sender's numbers.
func (w *byWords) record(from uint16) api.Seen {
	var s api.Seen
	for _, n := range w.delivered {
		if n.from == from && (!s.Any || n.epoch > s.Epoch || n.epoch == s.Epoch && n.id > s.Top) {
			s = api.Seen{Any: true, Epoch: n.epoch, Top: n.id}
		}
	}
	for k := int64(0); k < 64; k++ {
		for _, n := range w.delivered {
			if n.from == from && n.epoch == s.Epoch && int64(n.id) == int64(s.Top)-k {
				s.Bits |= 1 << k
			}
		}
	}
	return s
}

func (w *byWords) take(from uint16, g api.Gram) ([]byte, bool, api.Errno) {
	if g.Kind != 1 {
		return nil, false, 9
	}
	s := w.record(from)
	if s.Any && (g.Epoch < s.Epoch || g.Epoch == s.Epoch && int64(g.ID) <= int64(s.Top)-64) {
		return nil, false, 11
	}
	if slices.Contains(w.delivered, number{from, g.Epoch, g.ID}) {
		return nil, false, 12
	}
	b, ok, e := w.table.Put(from, g)
	if ok {
		w.delivered = append(w.delivered, number{from, g.Epoch, g.ID})
	}
	return b, ok, e
}

// made returns a reassembler that must be there.
func made(t *testing.T, open, size, expiry int) *Asm {
	t.Helper()
	a, e := New(api.Limits{Open: open, Bytes: size, Expiry: expiry})
	if e != api.OK || a == nil {
		t.Fatalf("New(%d, %d, %d) = %v, %d", open, size, expiry, a, e)
	}
	return a
}

// wantState tells where the open messages and the held bytes are others.
func wantState(t *testing.T, a *Asm, open, held int) {
	t.Helper()
	if a.Open() != open || a.Held() != held {
		t.Errorf("Open = %d, Held = %d, want %d, %d", a.Open(), a.Held(), open, held)
	}
}

// wantMemory tells where the record of a sender is another one.
func wantMemory(t *testing.T, a *Asm, from uint16, want api.Seen) {
	t.Helper()
	if s := a.Memory(from); s != want {
		t.Errorf("Memory(%d) = %v, want %v", from, s, want)
	}
}

// wantTake tells where Take answers otherwise; whole is "-" if the message shall not be complete.
func wantTake(t *testing.T, a *Asm, from uint16, g api.Gram, whole string, fault api.Errno) {
	t.Helper()
	b, ok, e := a.Take(from, g)
	all := whole != "-"
	if !all {
		whole = ""
	}
	if string(b) != whole || ok != all || e != fault {
		t.Errorf("Take(%d, %v) = %q, %v, %d, want %q, %v, %d", from, g, b, ok, e, whole, all, fault)
	}
}

// part is one of a message of two parts.
func part(epoch, id uint32, index uint16, body string) api.Gram {
	return api.Gram{Kind: api.GData, Version: 1, Epoch: epoch, ID: id, Index: index, Count: 2, Body: []byte(body)}
}

// one is a message of one part.
func one(epoch, id uint32, body string) api.Gram {
	return api.Gram{Kind: api.GData, Version: 1, Epoch: epoch, ID: id, Count: 1, Body: []byte(body)}
}

// 23.1: limits that room accepts get a reassembler that has nothing open, holds nothing and knows nothing of any sender.
func TestNew(t *testing.T) {
	for _, open := range []int{1, 2, 16} {
		for _, size := range []int{1, 2, 65536} {
			for _, expiry := range []int{1, 2, 32} {
				a := made(t, open, size, expiry)
				wantState(t, a, 0, 0)
				for from := range 65536 {
					if s := a.Memory(uint16(from)); s != (api.Seen{}) {
						t.Fatalf("Memory(%d) = %v", from, s)
					}
				}
			}
		}
	}
}

// 23.1: limits that room refuses get room's error and no reassembler.
func TestNewRefuses(t *testing.T) {
	for k, most := range []int{16, 65536, 32} {
		for _, n := range []int{0, -1, most + 1, 1 << 32, 1<<32 + 1, math.MinInt, math.MaxInt} {
			for _, others := range []int{0, 1, 16} {
				l := []int{others, others, others}
				l[k] = n
				a, e := New(api.Limits{Open: l[0], Bytes: l[1], Expiry: l[2]})
				if a != nil || e != api.ErrArg {
					t.Errorf("New(%v) = %v, %d", l, a, e)
				}
			}
		}
	}
}

// 23.1: the table's limits are those that New was given, each of them.
func TestLimitsOfTheTable(t *testing.T) {
	for n := 1; n <= 16; n++ {
		a := made(t, n, 2*n, n)
		for id := range uint32(n + 3) {
			wantTake(t, a, 1, part(1, id, 0, "a"), "-", api.OK)
			wantState(t, a, min(int(id)+1, n), min(int(id)+1, n))
		}
		wantTake(t, a, 1, part(2, 0, 0, string(make([]byte, 2*n+1))), "-", api.ErrFull)
		wantState(t, a, n, n)
		for range n {
			a.Tick()
		}
		wantState(t, a, n, n)
		a.Tick()
		wantState(t, a, 0, 0)
		wantTake(t, a, 1, part(2, 0, 0, string(make([]byte, 2*n))), "-", api.OK)
		wantState(t, a, 1, 2*n)
	}
}

// 23.2, 23.3: the chapter's example, with what the other methods answer between its steps.
func TestExample(t *testing.T) {
	a := made(t, 2, 100, 2)
	first, second := part(1, 3, 0, "a"), part(1, 3, 1, "b")
	wantTake(t, a, 5, second, "-", api.OK)
	wantState(t, a, 1, 1)
	wantMemory(t, a, 5, api.Seen{})
	wantTake(t, a, 5, second, "-", api.ErrTwice)
	wantState(t, a, 1, 1)
	wantTake(t, a, 5, first, "ab", api.OK)
	wantState(t, a, 0, 0)
	wantMemory(t, a, 5, api.Seen{Any: true, Epoch: 1, Top: 3, Bits: 1})
	wantTake(t, a, 5, first, "-", api.ErrTwice)
	wantTake(t, a, 5, second, "-", api.ErrTwice)
	wantState(t, a, 0, 0)
	wantMemory(t, a, 5, api.Seen{Any: true, Epoch: 1, Top: 3, Bits: 1})
	wantMemory(t, a, 4, api.Seen{})
}

// 23.2: each Kind other than 1 gets ErrKind ahead of whatever else is wrong, and changes nothing.
func TestKind(t *testing.T) {
	a := made(t, 1, 3, 2)
	wantTake(t, a, 5, one(2, 100, "a"), "a", api.OK)
	wantTake(t, a, 5, part(2, 101, 0, "b"), "-", api.OK)
	other := part(2, 101, 1, "c")
	other.Version = 2
	rows := []api.Gram{
		one(1, 100, "a"), one(2, 36, "a"), one(2, 100, "a"), one(2, 102, "a"), one(2, 102, "long"),
		part(2, 101, 0, "b"), part(2, 101, 1, "c"), part(2, 101, 2, "c"), part(2, 101, 1, "long"), other, {},
	}
	for kind := range 256 {
		for _, g := range rows {
			g.Kind = uint8(kind)
			if kind != 1 {
				wantTake(t, a, 5, g, "-", api.ErrKind)
			}
		}
	}
	wantState(t, a, 1, 1)
	wantMemory(t, a, 5, api.Seen{Any: true, Epoch: 2, Top: 100, Bits: 1})
	wantTake(t, a, 5, part(2, 101, 1, "c"), "bc", api.OK)
}

// 23.2: the record's ErrOld and ErrTwice come ahead of the table's errors, and change nothing: a message that became too old stays open, even if a part would be too great for it.
func TestRecordAheadOfTable(t *testing.T) {
	a := made(t, 2, 3, 2)
	wantTake(t, a, 5, part(2, 36, 0, "a"), "-", api.OK)
	wantTake(t, a, 5, part(1, 7, 0, "b"), "-", api.OK)
	wantTake(t, a, 5, part(1, 7, 1, "c"), "bc", api.OK)
	wantTake(t, a, 5, part(1, 8, 0, "b"), "-", api.OK)
	wantTake(t, a, 6, one(2, 100, "d"), "d", api.OK)
	wantState(t, a, 1, 1)
	wantTake(t, a, 5, part(2, 36, 0, "a"), "-", api.OK)
	wantTake(t, a, 5, one(2, 100, "d"), "d", api.OK)
	wantState(t, a, 1, 1)
	for _, count := range []uint16{0, 1, 2, 3} {
		for _, index := range []uint16{0, 1, 2} {
			for _, body := range []string{"", "e", "long"} {
				for _, version := range []uint8{1, 2} {
					g := api.Gram{Kind: 1, Version: version, Index: index, Count: count, Body: []byte(body)}
					for _, n := range []number{{5, 2, 36}, {5, 2, 0}, {5, 1, 8}, {5, 1, 7}, {5, 1, 101}, {5, 0, math.MaxUint32}} {
						g.Epoch, g.ID = n.epoch, n.id
						wantTake(t, a, n.from, g, "-", api.ErrOld)
					}
					g.Epoch, g.ID = 2, 100
					wantTake(t, a, 5, g, "-", api.ErrTwice)
					wantTake(t, a, 6, g, "-", api.ErrTwice)
				}
			}
		}
	}
	wantState(t, a, 1, 1)
	wantMemory(t, a, 5, api.Seen{Any: true, Epoch: 2, Top: 100, Bits: 1})
	wantMemory(t, a, 6, api.Seen{Any: true, Epoch: 2, Top: 100, Bits: 1})
}

// 23.2: the table's errors are Take's, in the table's order, and leave the record as it was; only ErrFull discards the message.
func TestErrorsOfTheTable(t *testing.T) {
	a := made(t, 2, 3, 2)
	wantTake(t, a, 5, one(1, 1, "x"), "x", api.OK)
	wantTake(t, a, 5, part(1, 2, 0, "ab"), "-", api.OK)
	no, other, longer := part(1, 2, 2, "long"), part(1, 2, 0, "long"), part(1, 2, 0, "long")
	other.Version, longer.Count = 2, 3
	wantTake(t, a, 5, no, "-", api.ErrArg)
	no.Count = 0
	wantTake(t, a, 5, no, "-", api.ErrArg)
	wantTake(t, a, 5, other, "-", api.ErrForm)
	wantTake(t, a, 5, longer, "-", api.ErrForm)
	wantTake(t, a, 5, part(1, 2, 0, "long"), "-", api.ErrTwice)
	wantState(t, a, 1, 2)
	wantTake(t, a, 5, part(1, 2, 1, "cd"), "-", api.ErrFull)
	wantState(t, a, 0, 0)
	wantMemory(t, a, 5, api.Seen{Any: true, Epoch: 1, Top: 1, Bits: 1})
	wantTake(t, a, 5, one(1, 2, "long"), "-", api.ErrFull)
	wantTake(t, a, 5, part(1, 2, 1, "c"), "-", api.OK)
	wantTake(t, a, 5, part(1, 2, 0, "ab"), "abc", api.OK)
	wantMemory(t, a, 5, api.Seen{Any: true, Epoch: 1, Top: 2, Bits: 3})
}

// 23.2: only a complete message is recorded; one that is open, or was discarded, can still be delivered, and does not make others too old.
func TestOnlyCompleteOnes(t *testing.T) {
	a := made(t, 1, 100, 1)
	wantTake(t, a, 5, one(1, 1, "x"), "x", api.OK)
	for _, g := range []api.Gram{part(1, 65, 0, "a"), part(1, 1000, 0, "b"), part(2, 0, 1, "c"), part(math.MaxUint32, math.MaxUint32, 0, "d")} {
		wantTake(t, a, 5, g, "-", api.OK)
		wantMemory(t, a, 5, api.Seen{Any: true, Epoch: 1, Top: 1, Bits: 1})
	}
	a.Tick()
	a.Tick()
	wantState(t, a, 0, 0)
	wantTake(t, a, 5, one(1, 0, ""), "", api.OK)
	wantMemory(t, a, 5, api.Seen{Any: true, Epoch: 1, Top: 1, Bits: 3})
	wantTake(t, a, 5, part(1, 65, 1, "e"), "-", api.OK)
	wantTake(t, a, 5, part(1, 65, 0, "a"), "ae", api.OK)
	wantMemory(t, a, 5, api.Seen{Any: true, Epoch: 1, Top: 65, Bits: 1})
	wantTake(t, a, 5, one(1, 1, "x"), "-", api.ErrOld)
}

// 23.2: a message without bytes is delivered like any other one: true, and no bytes.
func TestNoBytes(t *testing.T) {
	a := made(t, 1, 1, 1)
	wantTake(t, a, 0, one(0, 0, ""), "", api.OK)
	wantMemory(t, a, 0, api.Seen{Any: true, Bits: 1})
	wantTake(t, a, 0, one(0, 0, ""), "-", api.ErrTwice)
	wantTake(t, a, 0, part(0, 1, 1, ""), "-", api.OK)
	wantTake(t, a, 0, part(0, 1, 0, ""), "", api.OK)
	wantMemory(t, a, 0, api.Seen{Any: true, Top: 1, Bits: 3})
}

// 23.2: the window of the numbers, at its edges, and at both ends of the numbers.
func TestWindow(t *testing.T) {
	for _, top := range []uint32{0, 1, 62, 63, 64, 65, 1000, math.MaxUint32 - 1, math.MaxUint32} {
		for back := range uint32(130) {
			if back > top {
				break
			}
			a := made(t, 1, 100, 1)
			wantTake(t, a, 5, one(1, top, "x"), "x", api.OK)
			id := top - back
			switch {
			case back == 0:
				wantTake(t, a, 5, one(1, id, "y"), "-", api.ErrTwice)
			case back >= 64:
				wantTake(t, a, 5, one(1, id, "y"), "-", api.ErrOld)
			default:
				wantTake(t, a, 5, one(1, id, "y"), "y", api.OK)
				wantTake(t, a, 5, one(1, id, "y"), "-", api.ErrTwice)
				wantMemory(t, a, 5, api.Seen{Any: true, Epoch: 1, Top: top, Bits: 1 | 1<<back})
			}
		}
	}
}

// 23.2: the first complete message of a greater epoch begins the record anew, and makes all earlier epochs too old, also those of open messages.
func TestEpochs(t *testing.T) {
	a := made(t, 4, 100, 2)
	wantTake(t, a, 5, one(3, 9, "a"), "a", api.OK)
	wantTake(t, a, 5, one(3, 8, "b"), "b", api.OK)
	wantTake(t, a, 5, part(3, 10, 0, "c"), "-", api.OK)
	wantTake(t, a, 5, part(4, 9, 0, "d"), "-", api.OK)
	wantTake(t, a, 5, one(3, 11, "e"), "e", api.OK)
	wantMemory(t, a, 5, api.Seen{Any: true, Epoch: 3, Top: 11, Bits: 13})
	wantTake(t, a, 5, part(4, 9, 1, "f"), "df", api.OK)
	wantMemory(t, a, 5, api.Seen{Any: true, Epoch: 4, Top: 9, Bits: 1})
	wantTake(t, a, 5, part(3, 10, 1, "g"), "-", api.ErrOld)
	wantTake(t, a, 5, one(3, 100, "h"), "-", api.ErrOld)
	wantState(t, a, 1, 1)
	wantTake(t, a, 5, one(4, 8, "i"), "i", api.OK)
	wantTake(t, a, 5, one(math.MaxUint32, 0, "j"), "j", api.OK)
	wantMemory(t, a, 5, api.Seen{Any: true, Epoch: math.MaxUint32, Bits: 1})
	wantTake(t, a, 5, one(0, 0, "k"), "-", api.ErrOld)
	wantTake(t, a, 5, one(4, 8, "i"), "-", api.ErrOld)
}

// 23.1, 23.2: each sender has a record of its own, whatever the others send.
func TestSenders(t *testing.T) {
	a := made(t, 1, 100, 1)
	for from := range 65536 {
		wantMemory(t, a, uint16(from), api.Seen{})
		wantTake(t, a, uint16(from), one(1, uint32(from), "a"), "a", api.OK)
	}
	for from := range 65536 {
		wantMemory(t, a, uint16(from), api.Seen{Any: true, Epoch: 1, Top: uint32(from), Bits: 1})
		wantTake(t, a, uint16(from), one(1, uint32(from), "a"), "-", api.ErrTwice)
	}
	wantTake(t, a, 0, one(9, 9, "b"), "b", api.OK)
	wantMemory(t, a, 1, api.Seen{Any: true, Epoch: 1, Top: 1, Bits: 1})
	wantTake(t, a, 1, one(1, 0, "c"), "c", api.OK)
}

// 23.3: ticks let open messages expire, as in the table; no record ever does.
func TestTick(t *testing.T) {
	a := made(t, 2, 100, 2)
	wantTake(t, a, 5, one(1, 1, "x"), "x", api.OK)
	wantTake(t, a, 5, part(1, 2, 0, "a"), "-", api.OK)
	a.Tick()
	wantTake(t, a, 5, part(1, 3, 0, "bc"), "-", api.OK)
	a.Tick()
	wantState(t, a, 2, 3)
	a.Tick()
	wantState(t, a, 1, 2)
	wantTake(t, a, 5, part(1, 2, 1, "d"), "-", api.OK)
	wantTake(t, a, 5, part(1, 3, 1, "e"), "bce", api.OK)
	for range 1000 {
		a.Tick()
	}
	wantState(t, a, 0, 0)
	wantMemory(t, a, 5, api.Seen{Any: true, Epoch: 1, Top: 3, Bits: 5})
	wantTake(t, a, 5, one(1, 1, "x"), "-", api.ErrTwice)
	wantTake(t, a, 5, part(1, 3, 0, "bc"), "-", api.ErrTwice)
}

// some returns a datagram of a few messages, so that many meet; now and then one that must be refused.
func some(m *mix, step int) (uint16, api.Gram) {
	g := api.Gram{Kind: api.GData, Version: uint8(m.below(12) / 11), Epoch: uint32((step/100 + m.below(2)) % 7), ID: uint32(step/2 + m.below(20))}
	if m.below(16) == 0 {
		g.Kind = uint8(m.below(4))
	}
	if m.below(8) == 0 {
		g.ID -= uint32(m.below(100))
	}
	g.Count = uint16(1 + (int(g.ID)+int(g.Epoch))%3)
	if m.below(12) == 0 {
		g.Count = uint16(m.below(5))
	}
	g.Index = uint16(m.below(max(1, int(g.Count))))
	if m.below(16) == 0 {
		g.Index++
	}
	g.Body = make([]byte, m.below(6))
	for k := range g.Body {
		g.Body[k] = byte(m.next() >> 30)
	}
	return uint16(m.below(2)), g
}

// 23.2, 23.3: whatever is taken and however much time passes, all methods answer as the words do.
func TestRandomRows(t *testing.T) {
	m := mix(23)
	met := map[api.Errno]int{}
	for row := range 200 {
		l := api.Limits{Open: 1 + m.below(16), Bytes: 2 + m.below(16), Expiry: 1 + m.below(32)}
		table, _ := room.New(l)
		a, w := made(t, l.Open, l.Bytes, l.Expiry), &byWords{table: table}
		for step := range 400 {
			if m.below(6) == 0 {
				a.Tick()
				w.table.Tick()
			}
			from, g := some(&m, step)
			b, ok, e := a.Take(from, g)
			all, yes, want := w.take(from, g)
			if !bytes.Equal(b, all) || ok != yes || e != want {
				t.Fatalf("row %d, step %d: with %v, Take(%d, %v) = %q, %v, %d, want %q, %v, %d", row, step, l, from, g, b, ok, e, all, yes, want)
			}
			if a.Open() != w.table.Open() || a.Held() != w.table.Held() {
				t.Fatalf("row %d, step %d: with %v, Open = %d, Held = %d, want %d, %d", row, step, l, a.Open(), a.Held(), w.table.Open(), w.table.Held())
			}
			for from := range uint16(3) {
				if a.Memory(from) != w.record(from) {
					t.Fatalf("row %d, step %d: with %v, Memory(%d) = %v, want %v", row, step, l, from, a.Memory(from), w.record(from))
				}
			}
			met[e]++
			if ok {
				met[-1]++
			}
		}
	}
	for _, e := range []api.Errno{api.OK, api.ErrArg, api.ErrForm, api.ErrTwice, api.ErrFull, api.ErrKind, api.ErrOld, -1} {
		if met[e] < 300 {
			t.Errorf("%d was answered %d times only", e, met[e])
		}
	}
}

// 23.4: no message is delivered twice, though every datagram that was ever sent comes again and again, also after its message was delivered, discarded or forgotten.
func TestNeverTwice(t *testing.T) {
	m := mix(234)
	for row := range 60 {
		a := made(t, 1+m.below(4), 8+m.below(30), 1+m.below(4))
		var sent []number
		var grams []api.Gram
		count := map[number]int{}
		for step := range 1500 {
			n := number{uint16(m.below(3)), uint32(step / 300), uint32(step/4 + m.below(90))}
			g := part(n.epoch, n.id, uint16(m.below(2)), fmt.Sprint(step%10))
			if n.id%3 == 0 {
				g.Index, g.Count = 0, 1
			}
			sent, grams = append(sent, n), append(grams, g)
			if m.below(2) == 0 { // delayed however long
				k := m.below(len(sent))
				n, g = sent[k], grams[k]
			}
			if _, ok, _ := a.Take(n.from, g); ok {
				count[n]++
			}
			if m.below(5) == 0 {
				a.Tick()
			}
		}
		for k := range sent {
			if _, ok, _ := a.Take(sent[k].from, grams[k]); ok {
				count[sent[k]]++
			}
		}
		for n, times := range count {
			if times != 1 {
				t.Fatalf("row %d: %v was delivered %d times", row, n, times)
			}
		}
		if len(count) < 100 {
			t.Errorf("row %d: only %d messages were delivered", row, len(count))
		}
	}
}

// parts returns the datagrams of a message as chapter 19 divides it.
func parts(t *testing.T, mtu int, body []byte) []api.Gram {
	t.Helper()
	cut, e := split.Split(mtu, api.Gram{Kind: api.GData, Version: 2, Epoch: 7, ID: 8, Body: body})
	if e != api.OK {
		t.Fatalf("Split = %d", e)
	}
	var l []api.Gram
	for _, b := range cut {
		g, e := gram.Get(b)
		if e != api.OK {
			t.Fatalf("Get = %d", e)
		}
		l = append(l, g)
	}
	return l
}

// wantArrive lets datagrams arrive at a new reassembler: the message is delivered with the first one that makes them complete, and at no other time.
func wantArrive(t *testing.T, limits api.Limits, grams []api.Gram, order []int, body []byte) {
	t.Helper()
	a := made(t, limits.Open, limits.Bytes, limits.Expiry)
	arrived := map[int]bool{}
	for at, k := range order {
		again := arrived[k]
		arrived[k] = true
		b, ok, e := a.Take(5, grams[k])
		if last := !again && len(arrived) == len(grams); ok != last || last && !bytes.Equal(b, body) || !last && len(b) > 0 {
			t.Fatalf("order %v, place %d: %d bytes, %v, %d", order, at, len(b), ok, e)
		}
		if again != (e == api.ErrTwice) || !again && e != api.OK {
			t.Fatalf("order %v, place %d: %d", order, at, e)
		}
	}
}

// 23.4: all orders in which the datagrams of short messages can arrive, any number of times each, with the least limits that are large enough.
func TestAllOrders(t *testing.T) {
	for size := range 49 {
		body := []byte("abcdefghijklmnopqrstuvwxyzABCDEFGHIJKLMNOPQRSTUVWXYZ")[:size]
		grams := parts(t, 32, body)
		limits := api.Limits{Open: 1, Bytes: max(1, size), Expiry: 1}
		orders := [][]int{nil}
		for length := 0; length < 6; length++ {
			var longer [][]int
			for _, order := range orders {
				for k := range grams {
					longer = append(longer, append(slices.Clone(order), k))
				}
			}
			orders = longer
			if size%12 > 1 && size%12 < 11 && length < 5 { // the edges get all lengths
				continue
			}
			for _, order := range orders {
				wantArrive(t, limits, grams, order, body)
			}
		}
	}
}

// 23.4: longer messages in mixed orders, with datagrams left out and repeated.
func TestMixedOrders(t *testing.T) {
	m := mix(4)
	for range 300 {
		body := make([]byte, m.below(2000))
		for k := range body {
			body[k] = byte(m.next() >> 30)
		}
		grams := parts(t, 32+m.below(200), body)
		order := make([]int, m.below(6*len(grams)))
		for k := range order {
			order[k] = m.below(len(grams))
		}
		wantArrive(t, api.Limits{Open: 16, Bytes: 65536, Expiry: 32}, grams, order, body)
	}
}

// 23.4: the longest message that any limits let in, the last part first.
func TestLongestMessage(t *testing.T) {
	body := make([]byte, 65536)
	for k := range body {
		body[k] = byte(k * k >> 4)
	}
	for _, mtu := range []int{32, 1000, 65507} {
		grams := parts(t, mtu, body)
		order := make([]int, len(grams))
		for k := range order {
			order[k] = len(grams) - 1 - k
		}
		wantArrive(t, api.Limits{Open: 1, Bytes: 65536, Expiry: 1}, grams, append(order, order...), body)
	}
}

// 23.2: bodies and results that are changed afterwards change nothing that is kept, and Take leaves the datagram as it was (R4).
func TestNewMemory(t *testing.T) {
	a := made(t, 2, 100, 2)
	space := []byte("abcd")
	first, second := part(1, 1, 0, ""), part(1, 1, 1, "")
	first.Body, second.Body = space[:2], space[2:]
	wantTake(t, a, 1, first, "-", api.OK)
	copy(space, "wx")
	whole, _, _ := a.Take(1, second)
	if string(whole) != "abcd" || string(space) != "wxcd" {
		t.Errorf("Take = %q, and left %q", whole, space)
	}
	whole, _, _ = a.Take(1, api.Gram{Kind: 1, Epoch: 1, ID: 2, Count: 1, Body: space})
	copy(whole, "!!!!")
	if string(space) != "wxcd" {
		t.Errorf("the result is the body itself: %q", space)
	}
}

// 23.1, 23.2: two reassemblers do not touch each other, and equal calls have equal results (R5).
func TestApart(t *testing.T) {
	a, b := made(t, 1, 9, 1), made(t, 1, 9, 1)
	for _, r := range []*Asm{a, b} {
		wantTake(t, r, 1, one(1, 1, "a"), "a", api.OK)
	}
	wantTake(t, a, 1, one(2, 1, "b"), "b", api.OK)
	wantTake(t, b, 1, part(1, 2, 0, "c"), "-", api.OK)
	wantState(t, a, 0, 0)
	a.Tick()
	a.Tick()
	wantState(t, b, 1, 1)
	wantMemory(t, b, 1, api.Seen{Any: true, Epoch: 1, Top: 1, Bits: 1})
	wantTake(t, b, 1, part(1, 2, 1, "d"), "cd", api.OK)
	wantMemory(t, a, 1, api.Seen{Any: true, Epoch: 2, Top: 1, Bits: 1})
}

// 23.3: for a nil Asm, and for one that New did not create, Take returns ErrState ahead of any other error, Tick has no effect, and the others return zero values.
func TestNotMade(t *testing.T) {
	var none *Asm
	for what, a := range map[string]*Asm{"nil": none, "zero": {}, "new": new(Asm)} {
		for range 2 {
			for _, g := range []api.Gram{{}, {Kind: 2, Count: 1}, one(1, 1, "a"), part(1, 2, 0, "b"), part(1, 2, 1, "c"), part(1, 2, 2, "d"), one(1, 1, string(make([]byte, 70000)))} {
				if b, ok, e := a.Take(1, g); len(b) > 0 || ok || e != api.ErrState {
					t.Errorf("%s: Take = %q, %v, %d", what, b, ok, e)
				}
			}
			if a.Open() != 0 || a.Held() != 0 || a.Memory(1) != (api.Seen{}) {
				t.Errorf("%s: Open = %d, Held = %d, Memory = %v", what, a.Open(), a.Held(), a.Memory(1))
			}
			for range 40 {
				a.Tick()
			}
		}
	}
}
