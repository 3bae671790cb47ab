package pipe

import (
	"bytes"
	"slices"
	"testing"

	"annulet/api"
	"annulet/asm"
	"annulet/codec"
	"annulet/crc"
	"annulet/gram"
	"annulet/msg"
)

// mix is a row of numbers without any plain order, the same ones each time.
type mix uint64

func (m *mix) next() uint64 {
	x := uint64(*m)
	x ^= x << 13
	x ^= x >> 7
	x ^= x << 17
	*m = mix(x)
	return x
}

func (m *mix) below(n int) int {
	return int((m.next() >> 20) % uint64(n))
}

// four are the bytes of a number, the most significant first.
func four(n uint32) []byte {
	return []byte{byte(n >> 24), byte(n >> 16), byte(n >> 8), byte(n)}
}

// sealed are bytes with their checksum behind them, as chapter 18 writes it.
func sealed(b []byte) []byte {
	sum := four(crc.Sum(b))
	slices.Reverse(sum)
	return slices.Concat(b, sum)
}

// datagram is written by hand, as chapter 18 says.
func datagram(g api.Gram) []byte {
	numbers := []byte{byte(g.Index >> 8), byte(g.Index), byte(g.Count >> 8), byte(g.Count)}
	return sealed(slices.Concat([]byte{167, 78, g.Kind, g.Version}, four(g.Epoch), four(g.ID), numbers, g.Body))
}

// helloOf is the datagram of a hello of a pipe with this epoch and these versions.
func helloOf(epoch uint32, own uint16, reply bool) []byte {
	body := []byte{1, byte(own >> 8), byte(own)}
	if reply {
		body[0] = 2
	}
	return datagram(api.Gram{Kind: 2, Epoch: epoch, Count: 1, Body: body})
}

// modeOf is the mode of a version, by the lists of chapter 24.
func modeOf(version int) int {
	switch version {
	case 1, 4, 7, 10, 13, 16:
		return api.Fixed
	case 2, 5, 8, 11, 14:
		return api.Tagged
	}
	return api.Bencode
}

// messageOf are the datagrams of a message from a pipe with this epoch to one with the epoch to.
func messageOf(mtu, version int, epoch, id, to uint32, m api.Msg) [][]byte {
	encoded, _ := codec.Enc(modeOf(version), m)
	return dividedOf(mtu, version, epoch, id, slices.Concat(four(to), encoded))
}

// dividedOf are the datagrams of any bytes in the place of a message.
func dividedOf(mtu, version int, epoch, id uint32, body []byte) [][]byte {
	pieces := slices.Collect(slices.Chunk(body, mtu-20))
	if len(body) == 0 {
		pieces = [][]byte{nil}
	}
	var l [][]byte
	for i, piece := range pieces {
		l = append(l, datagram(api.Gram{Kind: 1, Version: uint8(version), Epoch: epoch, ID: id, Index: uint16(i), Count: uint16(len(pieces)), Body: piece}))
	}
	return l
}

// packets are those that lead these bytes to one address.
func packets(to uint16, l ...[]byte) []api.Packet {
	var out []api.Packet
	for _, b := range l {
		out = append(out, api.Packet{To: to, Bytes: b})
	}
	return out
}

func samePackets(a, b []api.Packet) bool {
	return slices.EqualFunc(a, b, func(p, q api.Packet) bool {
		return p.From == q.From && p.To == q.To && p.Spoilt == q.Spoilt && bytes.Equal(p.Bytes, q.Bytes)
	})
}

func sameTalks(a, b []api.Talk) bool {
	return slices.EqualFunc(a, b, func(s, t api.Talk) bool {
		return s.Addr == t.Addr && s.State == t.State && s.Theirs == t.Theirs && s.Version == t.Version &&
			s.Since == t.Since && s.Epoch == t.Epoch && s.Next == t.Next && slices.EqualFunc(s.Waits, t.Waits, msg.Same)
	})
}

// byWords is a pipe by the words of the chapter, with all that nego and split do written out once more.
type byWords struct {
	epoch uint32
	own   uint16
	mtu   int
	table *asm.Asm
	talks []api.Talk // in increasing order of addresses
}

// with returns the talk with an address, an Idle one if there was none.
func (w *byWords) with(addr uint16) *api.Talk {
	at := 0
	for at < len(w.talks) && w.talks[at].Addr < addr {
		at++
	}
	if at == len(w.talks) || w.talks[at].Addr != addr {
		w.talks = slices.Insert(w.talks, at, api.Talk{Addr: addr})
	}
	return &w.talks[at]
}

// has tells whether there is a talk with an address.
func (w *byWords) has(addr uint16) bool {
	return slices.ContainsFunc(w.talks, func(t api.Talk) bool { return t.Addr == addr })
}

// message sends m in a Settled talk.
func (w *byWords) message(t *api.Talk, m api.Msg) []api.Packet {
	t.Next++
	return packets(t.Addr, messageOf(w.mtu, t.Version, w.epoch, t.Next, t.Epoch, m)...)
}

func (w *byWords) send(to uint16, m api.Msg) ([]api.Packet, api.Errno) {
	if e := msg.Right(m); e != api.OK {
		return nil, e
	}
	t := w.with(to)
	switch {
	case t.State == 3:
		return nil, 13
	case t.State == 2 && t.Next == 1<<32-1, t.State < 2 && len(t.Waits) == 32:
		return nil, 10
	case t.State == 2:
		return w.message(t, m), api.OK
	}
	t.Waits = append(t.Waits, msg.Copy(m))
	if t.State == 1 {
		return nil, api.OK
	}
	t.State, t.Since = 1, 0
	return packets(to, helloOf(w.epoch, w.own, false)), api.OK
}

func (w *byWords) hear(from uint16, b []byte) (api.Msg, bool, []api.Packet, api.Errno) {
	g, e := gram.Get(b)
	switch {
	case e != api.OK:
		return api.Msg{}, false, nil, e
	case g.Kind == 2:
		out, e := w.hello(from, g)
		return api.Msg{}, false, out, e
	case g.Version == 0 || g.Version > 16 || w.own>>(g.Version-1)&1 == 0:
		return api.Msg{}, false, nil, 13
	}
	whole, all, e := w.table.Take(from, g)
	switch {
	case e != api.OK || !all:
		return api.Msg{}, false, nil, e
	case len(whole) < 4:
		return api.Msg{}, false, nil, 2
	case !bytes.Equal(whole[:4], four(w.epoch)):
		return api.Msg{}, false, packets(from, helloOf(w.epoch, w.own, false)), 11
	}
	m, e := codec.Dec(modeOf(int(g.Version)), whole[4:])
	if e != api.OK {
		return api.Msg{}, false, nil, e
	}
	return m, true, nil, api.OK
}

// hello hears one: the greatest version that both have settles the talk, and what waited is sent or discarded.
func (w *byWords) hello(from uint16, g api.Gram) ([]api.Packet, api.Errno) {
	if len(g.Body) != 3 || g.Body[0] != 1 && g.Body[0] != 2 {
		return nil, 3
	}
	if w.has(from) && g.Epoch < w.with(from).Epoch {
		return nil, 11
	}
	t := w.with(from)
	t.Epoch, t.Theirs = g.Epoch, uint16(g.Body[1])<<8|uint16(g.Body[2])
	t.State, t.Version, t.Since = 3, 0, 0
	for version := 1; version <= 16; version++ {
		if w.own>>(version-1)&1 == 1 && t.Theirs>>(version-1)&1 == 1 {
			t.State, t.Version = 2, version
		}
	}
	var out []api.Packet
	if g.Body[0] == 1 {
		out = packets(from, helloOf(w.epoch, w.own, true))
	}
	for _, m := range t.Waits {
		if t.State == 2 {
			out = append(out, w.message(t, m)...)
		}
	}
	t.Waits = nil
	return out, api.OK
}

func (w *byWords) tick() []api.Packet {
	w.table.Tick()
	var out []api.Packet
	for i := range w.talks {
		t := &w.talks[i]
		if t.State != 1 {
			continue
		}
		t.Since = (t.Since + 1) % 4
		if t.Since == 0 {
			out = append(out, packets(t.Addr, helloOf(w.epoch, w.own, false))...)
		}
	}
	return out
}

// answer is what a method returned: its error, and whether there was a message.
type answer struct {
	method string
	all    bool
	fault  api.Errno
}

// both are a pipe and one by the words, which get the same calls; met counts the answers.
type both struct {
	t    *testing.T
	pipe *Pipe
	word *byWords
	met  map[answer]int
}

func newBoth(t *testing.T, epoch uint32, own uint16, mtu int, l api.Limits, met map[answer]int) *both {
	t.Helper()
	p, e := New(epoch, own, mtu, l)
	table, _ := asm.New(l)
	if p == nil || e != api.OK || table == nil {
		t.Fatalf("New(%d, %d, %d, %v) = %v, %d", epoch, own, mtu, l, p, e)
	}
	return &both{t: t, pipe: p, word: &byWords{epoch: epoch, own: own, mtu: mtu, table: table}, met: met}
}

// same holds all that can be seen of the pipe to the words.
func (b *both) same(what string) {
	b.t.Helper()
	if l := b.pipe.Talks(); !sameTalks(l, b.word.talks) {
		b.t.Fatalf("after %s: Talks = %v, want %v", what, l, b.word.talks)
	}
	if b.pipe.Open() != b.word.table.Open() || b.pipe.Held() != b.word.table.Held() {
		b.t.Fatalf("after %s: Open = %d, Held = %d, want %d, %d", what, b.pipe.Open(), b.pipe.Held(), b.word.table.Open(), b.word.table.Held())
	}
}

func (b *both) send(to uint16, m api.Msg) ([]api.Packet, api.Errno) {
	b.t.Helper()
	out, e := b.pipe.Send(to, m)
	if want, fault := b.word.send(to, m); !samePackets(out, want) || e != fault {
		b.t.Fatalf("Send(%d, %v) = %v, %d, want %v, %d", to, m, out, e, want, fault)
	}
	b.met[answer{"Send", false, e}]++
	b.same("Send")
	return out, e
}

func (b *both) hear(from uint16, data []byte) []api.Packet {
	b.t.Helper()
	m, ok, out, e := b.pipe.Hear(from, data)
	want, yes, packets, fault := b.word.hear(from, data)
	if !msg.Same(m, want) || ok != yes || !samePackets(out, packets) || e != fault {
		b.t.Fatalf("Hear(%d, %v) = %v, %v, %v, %d, want %v, %v, %v, %d", from, data, m, ok, out, e, want, yes, packets, fault)
	}
	b.met[answer{"Hear", ok, e}]++
	b.same("Hear")
	return out
}

func (b *both) tick() []api.Packet {
	b.t.Helper()
	out := b.pipe.Tick()
	if want := b.word.tick(); !samePackets(out, want) {
		b.t.Fatalf("Tick = %v, want %v", out, want)
	}
	b.same("Tick")
	return out
}

// text is a string of n letters.
func (m *mix) text(n int) string {
	b := make([]byte, n)
	for i := range b {
		b[i] = byte('a' + m.below(26))
	}
	return string(b)
}

func (m *mix) peer() api.Peer {
	return api.Peer{ID: m.next(), Addr: uint16(m.below(1 << 16))}
}

// message is a valid one of any kind, which is known by its Rid.
func (m *mix) message(rid uint32) api.Msg {
	s := api.Msg{Kind: 1 + m.below(12), Rid: rid}
	switch s.Kind {
	case api.KFind:
		s.ID = m.next()
	case api.KHop, api.KTell:
		for range 1 + m.below(16) {
			s.Peers = append(s.Peers, m.peer())
		}
		if s.Has = m.below(2) == 0; s.Has && s.Kind == api.KTell {
			s.Peer = m.peer()
		}
	case api.KNote:
		s.Peer = m.peer()
	case api.KPut, api.KGet:
		s.Key = m.text(1 + m.below(32))
		if s.Kind == api.KPut {
			s.Val = m.text(m.below(60))
		}
	case api.KGot:
		if s.Has = m.below(2) == 0; s.Has {
			s.Val = m.text(m.below(513))
		}
	case api.KMove:
		for range 1 + m.below(8) {
			s.Pairs = append(s.Pairs, api.Pair{Key: m.text(1 + m.below(9)), Val: m.text(m.below(20))})
		}
	case api.KNay:
		s.Code = uint8(1 + m.below(255))
	}
	return s
}

// spoilt is a message that is not valid: each of Right's errors can come.
func (m *mix) spoilt(rid uint32) api.Msg {
	return []api.Msg{
		{Kind: 0, Rid: rid}, {Kind: 13, Rid: rid}, {Kind: -1}, {Kind: api.KPing, Val: "x"},
		{Kind: api.KGet}, {Kind: api.KPut, Key: "\xff"}, {Kind: api.KGot, Has: true, Val: string(make([]byte, 513))},
		{Kind: api.KHop}, {Kind: api.KMove}, {Kind: api.KNay},
	}[m.below(10)]
}

// forged are bytes that no pipe has sent: their fields are near those that pipes use.
func (m *mix) forged() []byte {
	g := api.Gram{Kind: uint8(1 + m.below(2)), Version: uint8(m.below(18)), Epoch: uint32(m.below(8)), ID: uint32(m.below(200)), Count: uint16(1 + m.below(2))}
	g.Index = uint16(m.below(int(g.Count)))
	if m.below(2) == 0 {
		g.Version = uint8(1 + m.below(4))
	}
	switch m.below(5) {
	case 0:
		g.Body = []byte{byte(m.below(4)), byte(m.below(2)), byte(m.below(8))}
	case 1:
		g.Body = make([]byte, m.below(7))
	case 2:
		g.Body = slices.Concat(four(uint32(m.below(8))), []byte{11, 0, 0, 0, byte(m.below(4))})
	case 3:
		g.Body = slices.Concat(four(uint32(m.below(8))), []byte("d1:q4:ping1:ri7ee"))
	default:
		g.Body = []byte{1, 0, byte(m.below(16))}
	}
	switch m.below(12) {
	case 0:
		g.Kind = uint8(m.below(256))
	case 1:
		g.Count = 0
	case 2:
		return datagram(g)[:m.below(24)]
	case 3:
		return sealed(slices.Concat([]byte{166}, datagram(g)[1:]))
	case 4:
		return make([]byte, 65508)
	}
	return datagram(g)
}

// addresses are the ones that pipes have in the mixed rows; the last of them is without a pipe.
var addresses = [...]uint16{0, 7, 256, 65535, 300}

// letter is a packet that is known with its sender.
type letter struct {
	from, to uint16
	b        []byte
}

// town is a few pipes at their addresses, with what is on its way between them.
type town struct {
	t     *testing.T
	m     *mix
	pipes map[uint16]*both
	wire  []letter
	epoch uint32
	rid   uint32
	met   map[answer]int
}

// boot sets up a new pipe at an address, with an epoch above all others.
func (w *town) boot(addr uint16) {
	w.epoch++
	own := uint16(7)
	if w.m.below(3) == 0 {
		own = uint16(w.m.next() >> 20)
	}
	mtu := []int{32, 33, 40, 100, 1000, 65507}[w.m.below(6)]
	l := api.Limits{Open: 1 + w.m.below(16), Bytes: 20 << w.m.below(9), Expiry: 1 + w.m.below(32)}
	w.pipes[addr] = newBoth(w.t, w.epoch, own, mtu, l, w.met)
}

// post puts on the wire what a pipe sends; a wire that is too full loses some of it.
func (w *town) post(from uint16, out []api.Packet) {
	for _, p := range out {
		w.wire = append(w.wire, letter{from, p.To, p.Bytes})
	}
	for len(w.wire) > 300 {
		k := w.m.below(len(w.wire))
		w.wire = slices.Delete(w.wire, k, k+1)
	}
}

// step lets one thing happen, whatever it is.
func (w *town) step() {
	addr := addresses[w.m.below(4)]
	p := w.pipes[addr]
	switch kind := w.m.below(24); {
	case kind == 0 && w.m.below(16) == 0:
		w.boot(addr)
	case kind < 2:
		w.post(addr, p.tick())
	case kind == 2:
		w.post(addr, p.hear(addresses[w.m.below(5)], w.m.forged()))
	case kind == 3:
		p.send(addresses[w.m.below(5)], w.m.spoilt(w.rid))
	case kind < 10 || len(w.wire) == 0:
		w.rid++
		out, _ := p.send(addresses[w.m.below(5)], w.m.message(w.rid))
		w.post(addr, out)
	default:
		w.arrive(kind)
	}
}

// arrive delivers the first letter or any other one, once, again, corrupted, or not at all.
func (w *town) arrive(kind int) {
	k := 0
	if kind > 18 {
		k = w.m.below(len(w.wire))
	}
	l := w.wire[k]
	if kind != 23 {
		w.wire = slices.Delete(w.wire, k, k+1)
	}
	if kind == 22 {
		l.b = crc.Flip(l.b, w.m.below(8*len(l.b)), uint32(w.m.next())|1)
	}
	if p := w.pipes[l.to]; p != nil && kind != 21 {
		w.post(l.to, p.hear(l.from, l.b))
	}
}

// 26.1 to 26.4: whatever is sent, heard, lost, duplicated, corrupted, forged and booted anew, all methods answer as the words do.
func TestMixedRows(t *testing.T) {
	m := mix(26)
	met := map[answer]int{}
	for range 60 {
		w := &town{t: t, m: &m, pipes: map[uint16]*both{}, met: met}
		for _, addr := range addresses[:4] {
			w.boot(addr)
		}
		for range 2500 {
			w.step()
		}
	}
	for _, e := range []api.Errno{api.OK, api.ErrKind, api.ErrArg, api.ErrText, api.ErrLong, api.ErrShort, api.ErrVersion, api.ErrFull} {
		wantMet(t, met, answer{"Send", false, e})
	}
	for _, e := range []api.Errno{api.OK, api.ErrShort, api.ErrLong, api.ErrSum, api.ErrForm, api.ErrKind, api.ErrArg, api.ErrOld, api.ErrVersion, api.ErrTwice, api.ErrFull} {
		wantMet(t, met, answer{"Hear", false, e})
	}
	wantMet(t, met, answer{"Hear", true, api.OK})
}

// wantMet holds that the mixed rows have met an answer often enough to say something of it.
func wantMet(t *testing.T, met map[answer]int, a answer) {
	t.Helper()
	if met[a] < 100 {
		t.Errorf("%v was answered %d times only", a, met[a])
	}
}
