package room

import (
	"bytes"
	"fmt"
	"math"
	"slices"
	"testing"

	"annulet/api"
)

// mix is a row of numbers without any plain order, the same ones each time.
type mix uint64

func (m *mix) next() uint64 {
	x := uint64(*m)
	x ^= x << 13
	x ^= x >> 7
	x ^= x << 17
	*m = mix(x)
	return x
}

func (m *mix) below(n int) int {
	return int((m.next() >> 20) % uint64(n))
}

// byWords is a table by the words of the chapter: all datagrams that were accepted for an open message stand in one row, in the order of their acceptance, each with the tick at which it came.
type byWords struct {
	limits api.Limits
	now    int
	row    []accepted
}

type accepted struct {
	from uint16
	g    api.Gram
	at   int
}

func (a accepted) message() string {
	return fmt.Sprint("from ", a.from, " epoch ", a.g.Epoch, " id ", a.g.ID)
}

// names returns the open messages, the oldest first.
func (w *byWords) names() []string {
	var l []string
	for _, a := range w.row {
		if !slices.Contains(l, a.message()) {
			l = append(l, a.message())
		}
	}
	return l
}

// of returns what was accepted for one message.
func (w *byWords) of(message string) []accepted {
	var l []accepted
	for _, a := range w.row {
		if a.message() == message {
			l = append(l, a)
		}
	}
	return l
}

func (w *byWords) discard(message string) {
	var l []accepted
	for _, a := range w.row {
		if a.message() != message {
			l = append(l, a)
		}
	}
	w.row = l
}

func size(l []accepted) int {
	n := 0
	for _, a := range l {
		n += len(a.g.Body)
	}
	return n
}

func (w *byWords) put(from uint16, g api.Gram) ([]byte, bool, api.Errno) {
	if g.Count == 0 || g.Index >= g.Count {
		return nil, false, 1
	}
	new := accepted{from: from, g: g, at: w.now}
	new.g.Body = bytes.Clone(g.Body)
	present := w.of(new.message())
	if len(present) > 0 && (present[0].g.Count != g.Count || present[0].g.Version != g.Version) {
		return nil, false, 3
	}
	for _, a := range present {
		if a.g.Index == g.Index {
			return nil, false, 12
		}
	}
	if size(present)+len(g.Body) > w.limits.Bytes {
		w.discard(new.message())
		return nil, false, 10
	}
	if len(present) == 0 && len(w.names()) == w.limits.Open {
		w.discard(w.names()[0])
	}
	w.row = append(w.row, new)
	for size(w.row) > w.limits.Bytes {
		others := slices.DeleteFunc(w.names(), func(s string) bool { return s == new.message() })
		w.discard(others[0])
	}
	present = w.of(new.message())
	if len(present) < int(g.Count) {
		return nil, false, 0
	}
	var whole []byte
	for i := range int(g.Count) {
		for _, a := range present {
			if int(a.g.Index) == i {
				whole = append(whole, a.g.Body...)
			}
		}
	}
	w.discard(new.message())
	return whole, true, 0
}

func (w *byWords) tick() {
	w.now++
	for _, s := range w.names() {
		if w.now-w.of(s)[0].at > w.limits.Expiry {
			w.discard(s)
		}
	}
}

// made returns a table that must be there.
func made(t *testing.T, open, size, expiry int) *Table {
	t.Helper()
	r, e := New(api.Limits{Open: open, Bytes: size, Expiry: expiry})
	if e != api.OK || r == nil {
		t.Fatalf("New(%d, %d, %d) = %v, %d", open, size, expiry, r, e)
	}
	return r
}

// wantState tells where the open messages and the held bytes are others.
func wantState(t *testing.T, r *Table, open, held int) {
	t.Helper()
	if r.Open() != open || r.Held() != held {
		t.Errorf("Open = %d, Held = %d, want %d, %d", r.Open(), r.Held(), open, held)
	}
}

// wantPut tells where Put answers otherwise; whole is "-" if the message shall not be complete.
func wantPut(t *testing.T, r *Table, from uint16, g api.Gram, whole string, fault api.Errno) {
	t.Helper()
	b, ok, e := r.Put(from, g)
	all := whole != "-"
	if !all {
		whole = ""
	}
	if string(b) != whole || ok != all || e != fault {
		t.Errorf("Put(%d, %v) = %q, %v, %d, want %q, %v, %d", from, g, b, ok, e, whole, all, fault)
	}
}

// part is one of a message of two parts: index 0 with a text, or index 1.
func part(id uint32, index uint16, body string) api.Gram {
	return api.Gram{Kind: api.GData, Version: 1, Epoch: 1, ID: id, Index: index, Count: 2, Body: []byte(body)}
}

// 22.1: limits within the greatest ones get a table without open messages.
func TestNew(t *testing.T) {
	for _, open := range []int{1, 2, 15, 16} {
		for _, size := range []int{1, 2, 65535, 65536} {
			for _, expiry := range []int{1, 2, 31, 32} {
				wantState(t, made(t, open, size, expiry), 0, 0)
			}
		}
	}
}

// 22.1: a limit below 1 or above the greatest one gets ErrArg and no table, whichever of the three it is.
func TestNewRefuses(t *testing.T) {
	for k, most := range []int{16, 65536, 32} {
		for _, n := range []int{0, -1, -16, most + 1, most + 2, 1 << 32, 1<<32 + 1, math.MinInt, math.MinInt + 1, math.MaxInt} {
			for _, others := range []int{0, 1, 2, 16} {
				l := []int{others, others, others}
				l[k] = n
				r, e := New(api.Limits{Open: l[0], Bytes: l[1], Expiry: l[2]})
				if r != nil || e != api.ErrArg {
					t.Errorf("New(%v) = %v, %d", l, r, e)
				}
			}
		}
	}
}

// 22.2, 22.3: the chapter's example, with Open and Held between its steps.
func TestExample(t *testing.T) {
	r := made(t, 1, 100, 2)
	wantPut(t, r, 1, part(1, 0, "x"), "-", api.OK)
	wantState(t, r, 1, 1)
	wantPut(t, r, 1, part(2, 0, "yz"), "-", api.OK)
	wantState(t, r, 1, 2)
	wantPut(t, r, 1, part(1, 0, "a"), "-", api.OK)
	wantState(t, r, 1, 1)
	wantPut(t, r, 1, part(1, 1, "b"), "ab", api.OK)
	wantState(t, r, 0, 0)
}

// 22.2: a Count of 0, or an Index that is not less than it, gets ErrArg ahead of any other error, and changes nothing.
func TestNoSuchPart(t *testing.T) {
	r := made(t, 1, 3, 2)
	wantPut(t, r, 1, part(1, 0, "a"), "-", api.OK)
	for _, body := range []string{"", "b", "long one"} {
		for _, id := range []uint32{1, 2} {
			for _, p := range [][2]uint16{{0, 0}, {1, 0}, {65535, 0}, {1, 1}, {2, 2}, {3, 2}, {65535, 2}, {65535, 65535}} {
				for _, version := range []uint8{1, 2} {
					g := part(id, p[0], body)
					g.Count, g.Version = p[1], version
					wantPut(t, r, 1, g, "-", api.ErrArg)
				}
			}
		}
	}
	wantState(t, r, 1, 1)
	wantPut(t, r, 1, part(1, 1, "b"), "ab", api.OK)
}

// 22.2: another Count or another Version than that of the datagram that opened the message gets ErrForm, ahead of ErrTwice and ErrFull; nothing is discarded.
func TestOtherForm(t *testing.T) {
	for _, size := range []int{1, 2, 9} {
		r := made(t, 2, size, 2)
		wantPut(t, r, 1, part(1, 0, "a"), "-", api.OK)
		for _, count := range []uint16{1, 2, 3, 65535} {
			for _, version := range []uint8{0, 1, 2, 255} {
				for _, index := range []uint16{0, 1, 2, 65534} {
					for _, body := range []string{"", "long one  "} {
						g := part(1, index, body)
						g.Count, g.Version = count, version
						if index < count && (count != 2 || version != 1) {
							wantPut(t, r, 1, g, "-", api.ErrForm)
						}
					}
				}
			}
		}
		wantState(t, r, 1, 1)
		wantPut(t, r, 1, part(1, 1, ""), "a", api.OK)
	}
}

// 22.2: once a message is complete or discarded, another Count and Version can open it again.
func TestOtherFormLater(t *testing.T) {
	r := made(t, 1, 9, 1)
	wantPut(t, r, 1, part(1, 0, "a"), "-", api.OK)
	wantPut(t, r, 1, part(1, 1, "b"), "ab", api.OK)
	other := part(1, 2, "c")
	other.Count, other.Version = 3, 9
	wantPut(t, r, 1, other, "-", api.OK)
	wantPut(t, r, 1, part(1, 1, "b"), "-", api.ErrForm)
	r.Tick()
	r.Tick()
	wantPut(t, r, 1, part(1, 1, "b"), "-", api.OK)
	wantState(t, r, 1, 1)
}

// 22.2: the Kind belongs neither to what identifies a message nor to what its datagrams have in common.
func TestAnyKind(t *testing.T) {
	r := made(t, 1, 9, 1)
	for i, kind := range []uint8{0, api.GData, api.GHello, 255} {
		g := part(1, uint16(i), string(rune('a'+i)))
		g.Kind, g.Count = kind, 4
		wantPut(t, r, 1, g, []string{"-", "-", "-", "abcd"}[i], api.OK)
	}
}

// 22.2: a part that is present gets ErrTwice ahead of ErrFull, whatever its body is; nothing is discarded.
func TestTwice(t *testing.T) {
	for _, index := range []uint16{0, 1} {
		for _, body := range []string{"", "a"} {
			r := made(t, 1, 3, 2)
			wantPut(t, r, 1, part(1, index, body), "-", api.OK)
			for _, again := range []string{"", "a", "b", "abc", "long one"} {
				wantPut(t, r, 1, part(1, index, again), "-", api.ErrTwice)
			}
			wantState(t, r, 1, len(body))
			wantPut(t, r, 1, part(1, 1-index, ""), body, api.OK)
		}
	}
}

// 22.2: a part that makes its own message too great gets ErrFull; the message is discarded if it was open, and no other one ever is.
func TestTooGreat(t *testing.T) {
	r := made(t, 3, 5, 2)
	wantPut(t, r, 1, part(1, 0, "a"), "-", api.OK)
	wantPut(t, r, 1, part(2, 1, "bc"), "-", api.OK)
	wantPut(t, r, 1, part(3, 0, "123456"), "-", api.ErrFull)
	wantState(t, r, 2, 3)
	wantPut(t, r, 1, part(2, 0, "1234"), "-", api.ErrFull)
	wantState(t, r, 1, 1)
	wantPut(t, r, 1, part(2, 0, "12"), "-", api.OK)
	wantState(t, r, 2, 3)
	wantPut(t, r, 1, part(2, 1, "34"), "1234", api.OK)
	wantPut(t, r, 1, part(1, 1, "1234"), "a1234", api.OK)
	wantState(t, r, 0, 0)
}

// 22.2: a part that is refused with ErrFull discards no oldest message, though as many are open as can be.
func TestTooGreatWhenAllAreOpen(t *testing.T) {
	r := made(t, 1, 2, 2)
	wantPut(t, r, 1, part(1, 0, "a"), "-", api.OK)
	wantPut(t, r, 1, part(2, 0, "123"), "-", api.ErrFull)
	wantPut(t, r, 1, part(1, 1, "b"), "ab", api.OK)
	one := api.Gram{Count: 1, Body: []byte("123")}
	wantPut(t, r, 1, one, "-", api.ErrFull)
	one.Body = one.Body[:2]
	wantPut(t, r, 1, one, "12", api.OK)
}

// 22.2: the sender, the Epoch and the ID together identify a message; parts of two that differ in one of them never meet.
func TestNames(t *testing.T) {
	type who struct {
		from      uint16
		epoch, id uint32
	}
	all := []who{{1, 1, 1}, {2, 1, 1}, {1, 2, 1}, {1, 1, 2}, {0, 0, 0}, {65535, 1, 1}, {1, math.MaxUint32, 1}, {1, 1, math.MaxUint32}, {1, 1 << 16, 1}, {0, 1, 1 << 16}, {1, 257, 1}, {257, 1, 1}, {1, 1, 257}}
	r := made(t, 16, 100, 2)
	put := func(w who, index uint16, body, whole string) {
		t.Helper()
		wantPut(t, r, w.from, api.Gram{Epoch: w.epoch, ID: w.id, Index: index, Count: 2, Body: []byte(body)}, whole, api.OK)
	}
	for i, w := range all {
		put(w, 1, fmt.Sprint(i, "."), "-")
	}
	wantState(t, r, len(all), 10*2+3*3)
	for i, w := range all {
		put(w, 0, "of ", fmt.Sprint("of ", i, "."))
	}
	wantState(t, r, 0, 0)
}

// 22.2: when as many messages are open as can be, a new one discards the one that was opened first, whenever its parts came.
func TestOldestGoes(t *testing.T) {
	for open := 1; open <= 16; open++ {
		r := made(t, open, 100, 2)
		three := func(id uint32, index uint16) api.Gram {
			return api.Gram{ID: id, Index: index, Count: 3, Body: []byte{'0' + byte(index)}}
		}
		for id := range open {
			wantPut(t, r, 1, three(uint32(id), 0), "-", api.OK)
		}
		wantPut(t, r, 1, three(0, 1), "-", api.OK)
		wantState(t, r, open, open+1)
		wantPut(t, r, 1, three(100, 0), "-", api.OK)
		wantState(t, r, open, open)
		for id := 1; id < open; id++ {
			wantPut(t, r, 1, three(uint32(id), 2), "-", api.OK)
			wantPut(t, r, 1, three(uint32(id), 1), "012", api.OK)
		}
		wantState(t, r, 1, 1)
		wantPut(t, r, 1, three(100, 1), "-", api.OK)
		wantPut(t, r, 1, three(100, 2), "012", api.OK)
	}
}

// 22.2: a message of one part is opened too, and so discards the oldest one when as many are open as can be; a part of an open one discards none.
func TestMessageOfOnePart(t *testing.T) {
	r := made(t, 2, 100, 2)
	one := api.Gram{ID: 9, Count: 1, Body: []byte("one")}
	wantPut(t, r, 1, one, "one", api.OK)
	wantPut(t, r, 1, part(1, 0, "a"), "-", api.OK)
	wantPut(t, r, 1, one, "one", api.OK)
	wantState(t, r, 1, 1)
	wantPut(t, r, 1, part(2, 0, "bb"), "-", api.OK)
	wantState(t, r, 2, 3)
	wantPut(t, r, 1, one, "one", api.OK)
	wantState(t, r, 1, 2)
	wantPut(t, r, 1, part(2, 1, "c"), "bbc", api.OK)
	one.Body = nil
	wantPut(t, r, 1, one, "", api.OK)
	wantState(t, r, 0, 0)
}

// 22.2: when all messages together have too many bytes, the oldest others go, one by one and no more of them than must.
func TestBytesGo(t *testing.T) {
	r := made(t, 16, 10, 2)
	for id := range uint32(5) {
		wantPut(t, r, 1, part(id, 0, "ab"), "-", api.OK)
	}
	wantState(t, r, 5, 10)
	wantPut(t, r, 1, part(5, 0, ""), "-", api.OK)
	wantState(t, r, 6, 10)
	wantPut(t, r, 1, part(6, 0, "1"), "-", api.OK)
	wantState(t, r, 6, 9)
	wantPut(t, r, 1, part(7, 0, "1"), "-", api.OK)
	wantState(t, r, 7, 10)
	wantPut(t, r, 1, part(8, 0, "12345"), "-", api.OK)
	wantState(t, r, 5, 9)
	wantPut(t, r, 1, part(4, 1, "!"), "ab!", api.OK)
	wantState(t, r, 4, 7)
}

// 22.2: the message of the part stays, even if it is the oldest, or if the part completes it.
func TestOwnMessageStays(t *testing.T) {
	three := func(id uint32, index uint16, body string) api.Gram {
		return api.Gram{ID: id, Index: index, Count: 3, Body: []byte(body)}
	}
	r := made(t, 4, 10, 2)
	for id := range uint32(4) {
		wantPut(t, r, 1, three(id, 0, "ab"), "-", api.OK)
	}
	wantPut(t, r, 1, three(0, 1, "cde"), "-", api.OK)
	wantState(t, r, 3, 9)
	wantPut(t, r, 1, three(0, 2, "fghij"), "abcdefghij", api.OK)
	wantState(t, r, 0, 0)
	for id := range uint32(4) {
		wantPut(t, r, 1, three(id, 0, "ab"), "-", api.OK)
	}
	wantPut(t, r, 1, three(2, 1, ""), "-", api.OK)
	wantPut(t, r, 1, three(2, 2, "cde"), "abcde", api.OK)
	wantState(t, r, 2, 4)
	wantPut(t, r, 1, three(3, 1, ""), "-", api.OK)
	wantPut(t, r, 1, three(3, 2, ""), "ab", api.OK)
	wantPut(t, r, 1, three(1, 1, ""), "-", api.OK)
	wantPut(t, r, 1, three(1, 2, ""), "ab", api.OK)
}

// 22.2: a message of one part that is as great as can be discards all others that have bytes, from the oldest on.
func TestGreatestMessage(t *testing.T) {
	r := made(t, 16, 65536, 32)
	for id := range uint32(5) {
		wantPut(t, r, 1, part(id, 0, []string{"", "a", "", "b", ""}[id]), "-", api.OK)
	}
	great := api.Gram{ID: 9, Count: 1, Body: bytes.Repeat([]byte("x"), 65536)}
	wantPut(t, r, 1, great, string(great.Body), api.OK)
	wantState(t, r, 1, 0)
	great.Body = append(great.Body, 'x')
	wantPut(t, r, 1, great, "-", api.ErrFull)
	wantPut(t, r, 1, part(4, 1, "c"), "c", api.OK)
}

// 22.2: of the greatest number of parts, each is counted; the last one completes the message.
func TestManyParts(t *testing.T) {
	r := made(t, 1, 65536, 1)
	body := make([]byte, 65535)
	for i := range body {
		body[i] = byte(i * i >> 3)
	}
	for k := range 65535 {
		i := k * 32768 % 65535
		b, ok, e := r.Put(7, api.Gram{Count: 65535, Index: uint16(i), Body: body[i : i+1]})
		if last := k == 65534; ok != last || e != api.OK || last && !bytes.Equal(b, body) || !last && len(b) > 0 {
			t.Fatalf("after %d parts: %d bytes, %v, %d", k+1, len(b), ok, e)
		}
	}
	wantState(t, r, 0, 0)
}

// 22.3: a message lives through Expiry ticks, and is discarded by the next one; later parts do not make it younger.
func TestTick(t *testing.T) {
	for expiry := 1; expiry <= 32; expiry++ {
		r := made(t, 2, 100, expiry)
		four := api.Gram{ID: 1, Count: 4, Body: []byte("a")}
		wantPut(t, r, 1, four, "-", api.OK)
		r.Tick()
		wantPut(t, r, 1, part(2, 0, "bc"), "-", api.OK)
		for range expiry - 1 {
			r.Tick()
		}
		wantState(t, r, 2, 3)
		four.Index = 1
		wantPut(t, r, 1, four, "-", api.OK)
		r.Tick()
		wantState(t, r, 1, 2)
		wantPut(t, r, 1, part(2, 0, "bc"), "-", api.ErrTwice)
		r.Tick()
		wantState(t, r, 0, 0)
		four.Index = 2
		wantPut(t, r, 1, four, "-", api.OK)
		wantState(t, r, 1, 1)
	}
}

// 22.3: a message that was discarded or is complete, and is opened again, is as young as any new one; the order of the others stays.
func TestOpenedAgain(t *testing.T) {
	r := made(t, 2, 100, 3)
	wantPut(t, r, 1, part(1, 0, "a"), "-", api.OK)
	wantPut(t, r, 1, part(2, 0, "b"), "-", api.OK)
	r.Tick()
	r.Tick()
	r.Tick()
	wantPut(t, r, 1, part(1, 1, "c"), "ac", api.OK)
	wantPut(t, r, 1, part(1, 0, "d"), "-", api.OK)
	wantPut(t, r, 1, part(3, 0, "e"), "-", api.OK)
	wantPut(t, r, 1, part(2, 1, "f"), "-", api.OK)
	wantPut(t, r, 1, part(3, 1, "g"), "eg", api.OK)
	for range 3 {
		r.Tick()
	}
	wantState(t, r, 1, 1)
	r.Tick()
	wantState(t, r, 0, 0)
}

// 22.3: ticks without open messages do not count for those that are opened later.
func TestTicksAhead(t *testing.T) {
	r := made(t, 2, 100, 1)
	for range 1000 {
		r.Tick()
	}
	wantPut(t, r, 1, part(1, 0, "a"), "-", api.OK)
	r.Tick()
	wantState(t, r, 1, 1)
	r.Tick()
	wantState(t, r, 0, 0)
}

// some returns a datagram of a few messages, so that many meet; now and then one that must be refused.
func some(m *mix, l api.Limits) (uint16, api.Gram) {
	g := api.Gram{Kind: uint8(m.below(3)), Version: uint8(m.below(12) / 11), Epoch: uint32(m.below(2)), ID: uint32(m.below(1 + 3*l.Open/2))}
	g.Count = uint16(1 + (int(g.ID)+int(g.Epoch))%4)
	if m.below(12) == 0 {
		g.Count = uint16(m.below(6))
	}
	g.Index = uint16(m.below(max(1, int(g.Count))))
	if m.below(8) == 0 {
		g.Index++
	}
	g.Body = make([]byte, m.below(2+l.Bytes/(1+m.below(4))))
	for k := range g.Body {
		g.Body[k] = byte(m.next() >> 30)
	}
	return uint16(m.below(2)), g
}

// 22.2, 22.3, 22.4: whatever is put and however much time passes, all methods answer as the words do, within the limits.
func TestRandomRows(t *testing.T) {
	m := mix(22)
	met := map[api.Errno]int{}
	for row := range 600 {
		l := api.Limits{Open: 1 + m.below(1+row%16), Bytes: 1 + m.below(1+row%40), Expiry: 1 + m.below(32)}
		r, w := made(t, l.Open, l.Bytes, l.Expiry), &byWords{limits: l}
		for step := range 300 {
			if m.below(6) == 0 {
				r.Tick()
				w.tick()
			}
			from, g := some(&m, l)
			b, ok, e := r.Put(from, g)
			all, yes, want := w.put(from, g)
			if !bytes.Equal(b, all) || ok != yes || e != want {
				t.Fatalf("row %d, step %d: with %v, Put(%d, %v) = %q, %v, %d, want %q, %v, %d", row, step, l, from, g, b, ok, e, all, yes, want)
			}
			if r.Open() != len(w.names()) || r.Held() != size(w.row) {
				t.Fatalf("row %d, step %d: with %v, Open = %d, Held = %d, want %d, %d", row, step, l, r.Open(), r.Held(), len(w.names()), size(w.row))
			}
			if r.Open() > l.Open || r.Held() > l.Bytes {
				t.Fatalf("row %d, step %d: with %v, Open = %d, Held = %d", row, step, l, r.Open(), r.Held())
			}
			met[e]++
			if ok {
				met[-1]++
			}
		}
	}
	for _, e := range []api.Errno{api.OK, api.ErrArg, api.ErrForm, api.ErrTwice, api.ErrFull, -1} {
		if met[e] < 1000 {
			t.Errorf("%d was answered %d times only", e, met[e])
		}
	}
}

// 22.2: bodies and results that are changed afterwards change nothing that is kept, and Put leaves the datagram as it was (R4).
func TestNewMemory(t *testing.T) {
	r := made(t, 2, 100, 2)
	space := []byte("abcd")
	first, second := part(1, 0, ""), part(1, 1, "")
	first.Body, second.Body = space[:2], space[2:]
	wantPut(t, r, 1, first, "-", api.OK)
	copy(space, "wx")
	whole, _, _ := r.Put(1, second)
	if string(whole) != "abcd" || string(space) != "wxcd" {
		t.Errorf("Put = %q, and left %q", whole, space)
	}
	one := api.Gram{Count: 1, Body: space}
	whole, _, _ = r.Put(1, one)
	copy(whole, "!!!!")
	if string(space) != "wxcd" {
		t.Errorf("the result is the body itself: %q", space)
	}
	wantPut(t, r, 1, one, "wxcd", api.OK)
}

// 22.1, 22.2: two tables do not touch each other, and equal calls have equal results (R5).
func TestApart(t *testing.T) {
	a, b := made(t, 1, 9, 1), made(t, 1, 9, 1)
	wantPut(t, a, 1, part(1, 0, "a"), "-", api.OK)
	wantState(t, b, 0, 0)
	wantPut(t, b, 1, part(2, 0, "b"), "-", api.OK)
	a.Tick()
	a.Tick()
	wantState(t, a, 0, 0)
	wantPut(t, b, 1, part(2, 1, "c"), "bc", api.OK)
	wantPut(t, a, 1, part(2, 0, "b"), "-", api.OK)
	wantPut(t, a, 1, part(2, 1, "c"), "bc", api.OK)
}

// 22.3: for a nil table, and for one that New did not create, Put returns ErrState ahead of any other error, Tick has no effect, and the others return zero values.
func TestNotMade(t *testing.T) {
	var none *Table
	for what, r := range map[string]*Table{"nil": none, "zero": {}, "new": new(Table)} {
		for range 2 {
			for _, g := range []api.Gram{{}, {Count: 1}, part(1, 0, "a"), part(1, 1, "b"), part(1, 2, "b"), {Count: 1, Body: make([]byte, 70000)}} {
				if b, ok, e := r.Put(1, g); len(b) > 0 || ok || e != api.ErrState {
					t.Errorf("%s: Put = %q, %v, %d", what, b, ok, e)
				}
			}
			if r.Open() != 0 || r.Held() != 0 {
				t.Errorf("%s: Open = %d, Held = %d", what, r.Open(), r.Held())
			}
			for range 40 {
				r.Tick()
			}
		}
	}
}
