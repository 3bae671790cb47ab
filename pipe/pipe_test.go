package pipe

import (
	"bytes"
	"math"
	"slices"
	"testing"

	"annulet/api"
	"annulet/codec"
	"annulet/crc"
	"annulet/gram"
	"annulet/msg"
)

// wide are limits that let in whatever the tests send.
func wide() api.Limits { return api.Limits{Open: 16, Bytes: 65536, Expiry: 32} }

// made returns a pipe that must be there.
func made(t *testing.T, epoch uint32, own uint16, mtu int) *Pipe {
	t.Helper()
	p, e := New(epoch, own, mtu, wide())
	if p == nil || e != api.OK {
		t.Fatalf("New(%d, %d, %d) = %v, %d", epoch, own, mtu, p, e)
	}
	return p
}

func ping(rid uint32) api.Msg { return api.Msg{Kind: api.KPing, Rid: rid} }

// pings are as many of them, with the Rids from first on.
func pings(first uint32, n int) []api.Msg {
	var l []api.Msg
	for k := range n {
		l = append(l, ping(first+uint32(k)))
	}
	return l
}

// wantSend tells where Send answers otherwise.
func wantSend(t *testing.T, p *Pipe, to uint16, m api.Msg, want []api.Packet, fault api.Errno) {
	t.Helper()
	if out, e := p.Send(to, m); !samePackets(out, want) || e != fault {
		t.Fatalf("Send(%d, %v) = %v, %d, want %v, %d", to, m, out, e, want, fault)
	}
}

// wantHear tells where Hear answers otherwise, of a datagram that brings no message.
func wantHear(t *testing.T, p *Pipe, from uint16, b []byte, want []api.Packet, fault api.Errno) {
	t.Helper()
	m, ok, out, e := p.Hear(from, b)
	if !msg.Same(m, api.Msg{}) || ok || !samePackets(out, want) || e != fault {
		t.Fatalf("Hear(%d, %v) = %v, %v, %v, %d, want no message, %v, %d", from, b, m, ok, out, e, want, fault)
	}
}

// wantMessage tells where Hear answers otherwise, of a datagram that makes a message complete.
func wantMessage(t *testing.T, p *Pipe, from uint16, b []byte, want api.Msg) {
	t.Helper()
	m, ok, out, e := p.Hear(from, b)
	if !msg.Same(m, want) || !ok || len(out) > 0 || e != api.OK {
		t.Fatalf("Hear(%d, %v) = %v, %v, %v, %d, want %v", from, b, m, ok, out, e, want)
	}
}

// wantTalks tells where Talks are others.
func wantTalks(t *testing.T, p *Pipe, want ...api.Talk) {
	t.Helper()
	if l := p.Talks(); !sameTalks(l, want) {
		t.Fatalf("Talks = %v, want %v", l, want)
	}
}

// wantState tells where the open messages and the held bytes are others.
func wantState(t *testing.T, p *Pipe, open, held int) {
	t.Helper()
	if p.Open() != open || p.Held() != held {
		t.Fatalf("Open = %d, Held = %d, want %d, %d", p.Open(), p.Held(), open, held)
	}
}

// settled returns a pipe with the epoch 9, the versions 1 to 3 and a talk with the address 5, which has the epoch 4 and these versions.
func settled(t *testing.T, mtu int, theirs uint16) *Pipe {
	t.Helper()
	p := made(t, 9, 7, mtu)
	wantHear(t, p, 5, helloOf(4, theirs, true), nil, api.OK)
	return p
}

// 26.1: the least and the greatest mtu and limits are accepted, whatever the epoch and the versions; a new pipe has nothing.
func TestNew(t *testing.T) {
	for _, mtu := range []int{32, 33, 100, 65506, 65507} {
		for _, l := range []api.Limits{{Open: 1, Bytes: 1, Expiry: 1}, {Open: 16, Bytes: 65536, Expiry: 32}} {
			for _, epoch := range []uint32{0, 1, math.MaxUint32} {
				for _, own := range []uint16{0, 1, 65535} {
					p, e := New(epoch, own, mtu, l)
					if p == nil || e != api.OK {
						t.Fatalf("New(%d, %d, %d, %v) = %v, %d", epoch, own, mtu, l, p, e)
					}
					wantTalks(t, p)
					wantState(t, p, 0, 0)
					if out := p.Tick(); len(out) > 0 {
						t.Fatalf("Tick = %v", out)
					}
				}
			}
		}
	}
}

// 26.1: an mtu out of the range, and limits that asm's New refuses, get ErrArg and no pipe.
func TestNewRefuses(t *testing.T) {
	for _, mtu := range []int{31, 0, -1, -32, 65508, 1<<32 + 100, math.MinInt, math.MaxInt} {
		for _, l := range []api.Limits{wide(), {}} {
			if p, e := New(1, 1, mtu, l); p != nil || e != api.ErrArg {
				t.Errorf("New(1, 1, %d, %v) = %v, %d", mtu, l, p, e)
			}
		}
	}
	for k, most := range []int{16, 65536, 32} {
		for _, n := range []int{0, -1, most + 1, 1<<32 + 1, math.MinInt, math.MaxInt} {
			l := []int{1, 1, 1}
			l[k] = n
			if p, e := New(1, 1, 100, api.Limits{Open: l[0], Bytes: l[1], Expiry: l[2]}); p != nil || e != api.ErrArg {
				t.Errorf("New(1, 1, 100, %v) = %v, %d", l, p, e)
			}
		}
	}
}

// 26.1: the limits are those of the pipe's reassembler, each of them.
func TestLimits(t *testing.T) {
	part := func(id uint32, size int) []byte {
		return datagram(api.Gram{Kind: 1, Version: 1, Epoch: 1, ID: id, Count: 2, Body: make([]byte, size)})
	}
	for n := 1; n <= 16; n++ {
		p, _ := New(1, 1, 100, api.Limits{Open: n, Bytes: 3 * n, Expiry: n})
		for id := range n + 2 {
			wantHear(t, p, 5, part(uint32(id), 1), nil, api.OK)
			wantState(t, p, min(id+1, n), min(id+1, n))
		}
		wantHear(t, p, 5, part(99, 3*n+1), nil, api.ErrFull)
		wantState(t, p, n, n)
		for range n {
			p.Tick()
		}
		wantState(t, p, n, n)
		p.Tick()
		wantState(t, p, 0, 0)
		wantHear(t, p, 5, part(99, 3*n), nil, api.OK)
		wantState(t, p, 1, 3*n)
	}
}

// 26.2, 26.3: the chapter's example, with all bytes but the checksums written out, and what both pipes know at its end.
func TestExample(t *testing.T) {
	a, b := made(t, 1, 1, 100), made(t, 258, 1, 100)
	hello := sealed([]byte{167, 78, 2, 0, 0, 0, 0, 1, 0, 0, 0, 0, 0, 0, 0, 1, 1, 0, 1})
	reply := sealed([]byte{167, 78, 2, 0, 0, 0, 1, 2, 0, 0, 0, 0, 0, 0, 0, 1, 2, 0, 1})
	message := sealed([]byte{167, 78, 1, 1, 0, 0, 0, 1, 0, 0, 0, 1, 0, 0, 0, 1, 0, 0, 1, 2, 11, 0, 0, 0, 7})
	wantSend(t, a, 8, ping(7), packets(8, hello), api.OK)
	wantTalks(t, a, api.Talk{Addr: 8, State: api.Asked, Waits: []api.Msg{ping(7)}})
	wantHear(t, b, 7, hello, packets(7, reply), api.OK)
	wantTalks(t, b, api.Talk{Addr: 7, State: api.Settled, Theirs: 1, Version: 1, Epoch: 1})
	wantHear(t, a, 8, reply, packets(8, message), api.OK)
	wantTalks(t, a, api.Talk{Addr: 8, State: api.Settled, Theirs: 1, Version: 1, Epoch: 258, Next: 1})
	wantMessage(t, b, 7, message, ping(7))
	wantHear(t, b, 7, message, nil, api.ErrTwice)
	wantTalks(t, b, api.Talk{Addr: 7, State: api.Settled, Theirs: 1, Version: 1, Epoch: 1})
}

// 26.2: a hello has the epoch and the versions of the pipe, and goes to the address alone.
func TestHello(t *testing.T) {
	for _, epoch := range []uint32{0, 1, 258, 1<<24 + 2, math.MaxUint32} {
		for _, own := range []uint16{0, 1, 258, 32768, 65535} {
			for _, to := range []uint16{0, 1, 256, 65535} {
				for _, mtu := range []int{32, 65507} {
					p := made(t, epoch, own, mtu)
					wantSend(t, p, to, ping(1), packets(to, helloOf(epoch, own, false)), api.OK)
					wantHear(t, p, ^to, helloOf(3, 0, false), packets(^to, helloOf(epoch, own, true)), api.OK)
				}
			}
		}
	}
}

// wrong are messages that are not valid, with the error of msg's Right.
func wrong() map[api.Errno]api.Msg {
	return map[api.Errno]api.Msg{
		api.ErrKind:  {Kind: 13, Rid: 1},
		api.ErrArg:   {Kind: api.KPing, Code: 1},
		api.ErrText:  {Kind: api.KGet, Key: "\xff"},
		api.ErrLong:  {Kind: api.KPut, Key: "k", Val: string(make([]byte, 513))},
		api.ErrShort: {Kind: api.KHop},
	}
}

// 26.2: the error of msg's Right comes ahead of all others, in each state, and changes nothing: there is not even a talk.
func TestSendWrong(t *testing.T) {
	asked, refused, full := made(t, 9, 7, 100), settled(t, 100, 8), settled(t, 100, 7)
	for _, m := range pings(1, 32) {
		asked.Send(5, m)
	}
	use := full.talks[5]
	use.Next = math.MaxUint32
	full.talks[5] = use
	for _, p := range []*Pipe{made(t, 9, 7, 100), asked, refused, settled(t, 100, 7), full} {
		before := p.Talks()
		for fault, m := range wrong() {
			wantSend(t, p, 5, m, nil, fault)
			wantSend(t, p, 6, m, nil, fault)
		}
		wantTalks(t, p, before...)
	}
}

// 26.2: until the version is known, 32 messages wait, in order, and the first one of them sends the hello; the next one gets ErrFull and does not wait.
func TestSendQueues(t *testing.T) {
	p := made(t, 9, 7, 100)
	wantSend(t, p, 5, ping(0), packets(5, helloOf(9, 7, false)), api.OK)
	for k := 1; k < 32; k++ {
		wantTalks(t, p, api.Talk{Addr: 5, State: api.Asked, Waits: pings(0, k)})
		wantSend(t, p, 5, ping(uint32(k)), nil, api.OK)
	}
	for range 3 {
		wantSend(t, p, 5, ping(99), nil, api.ErrFull)
		wantTalks(t, p, api.Talk{Addr: 5, State: api.Asked, Waits: pings(0, 32)})
	}
	wantSend(t, p, 6, ping(99), packets(6, helloOf(9, 7, false)), api.OK)
	var want []api.Packet
	for k := range uint32(32) {
		want = append(want, packets(5, messageOf(100, 3, 9, k+1, 4, ping(k))...)...)
	}
	wantHear(t, p, 5, helloOf(4, 7, true), want, api.OK)
	wantTalks(t, p, api.Talk{Addr: 5, State: api.Settled, Theirs: 7, Version: 3, Epoch: 4, Next: 32}, api.Talk{Addr: 6, State: api.Asked, Waits: pings(99, 1)})
	wantHear(t, p, 5, helloOf(4, 7, true), nil, api.OK)
}

// 26.2, 26.3: a reply comes ahead of the messages that waited, all parts of each of them in order.
func TestReplyFirst(t *testing.T) {
	p := made(t, 9, 7, 32)
	m := mix(3)
	want := packets(5, helloOf(9, 7, true))
	for k := range uint32(20) {
		s := m.message(k)
		p.Send(5, s)
		want = append(want, packets(5, messageOf(32, 2, 9, k+1, 4, s)...)...)
	}
	wantHear(t, p, 5, helloOf(4, 2, false), want, api.OK)
}

// 26.2, 26.3: without a common version all that waited is discarded, and what is to be sent gets ErrVersion, until a hello tells of a common one.
func TestRefused(t *testing.T) {
	for _, reply := range []bool{false, true} {
		p := made(t, 9, 7, 100)
		for k := range uint32(32) {
			p.Send(5, ping(k))
		}
		var answer []api.Packet
		if !reply {
			answer = packets(5, helloOf(9, 7, true))
		}
		wantHear(t, p, 5, helloOf(4, 8, reply), answer, api.OK)
		for range 3 {
			wantSend(t, p, 5, ping(50), nil, api.ErrVersion)
			wantTalks(t, p, api.Talk{Addr: 5, State: api.Refused, Theirs: 8, Epoch: 4})
		}
		wantHear(t, p, 5, helloOf(4, 12, reply), slices.Clone(answer), api.OK)
		wantTalks(t, p, api.Talk{Addr: 5, State: api.Settled, Theirs: 12, Version: 3, Epoch: 4})
		wantSend(t, p, 5, ping(51), packets(5, messageOf(100, 3, 9, 1, 4, ping(51))...), api.OK)
		wantHear(t, p, 5, helloOf(4, 0, true), nil, api.OK)
		wantSend(t, p, 5, ping(52), nil, api.ErrVersion)
		wantTalks(t, p, api.Talk{Addr: 5, State: api.Refused, Epoch: 4, Next: 1})
	}
}

// 26.2: a message in a Settled talk is sent at once: with the next number, in the version's mode, divided as the mtu says, for each version.
func TestSendSettled(t *testing.T) {
	m := mix(262)
	for version := 1; version <= 16; version++ {
		for _, mtu := range []int{32, 33, 60, 500, 65507} {
			p := made(t, 1<<24+9, 65535, mtu)
			wantHear(t, p, 300, helloOf(1<<24+258, 1<<(version-1), true), nil, api.OK)
			for k := range uint32(20) {
				s := m.message(k)
				wantSend(t, p, 300, s, packets(300, messageOf(mtu, version, 1<<24+9, k+1, 1<<24+258, s)...), api.OK)
				wantTalks(t, p, api.Talk{Addr: 300, State: api.Settled, Theirs: 1 << (version - 1), Version: version, Epoch: 1<<24 + 258, Next: k + 1})
			}
		}
	}
}

// longest is a message with as many bytes as there can be in each mode.
func longest() api.Msg {
	m := api.Msg{Kind: api.KMove, Rid: math.MaxUint32, Has: true}
	for k := range 8 {
		key := bytes.Repeat([]byte{0xf0, 0x90, 0x80, byte(0x80 + k)}, 24)
		m.Pairs = append(m.Pairs, api.Pair{Key: string(key), Val: string(make([]byte, 512))})
	}
	return m
}

// 26.2, 26.5: the longest message, in each mode and also with the least mtu, arrives unchanged.
func TestLongest(t *testing.T) {
	m := longest()
	for version := 1; version <= 3; version++ {
		for _, mtu := range []int{32, 1000, 65507} {
			a, b := made(t, 1, 7, mtu), made(t, 2, 1<<(version-1), mtu)
			wantHear(t, a, 8, helloOf(2, 1<<(version-1), true), nil, api.OK)
			out, e := a.Send(8, m)
			if size := codec.Most(version) + 4; e != api.OK || len(out) != (size+mtu-21)/(mtu-20) {
				t.Fatalf("Send = %d packets, %d", len(out), e)
			}
			last := len(out) - 1
			for _, p := range out[:last] {
				wantHear(t, b, 7, p.Bytes, nil, api.OK)
			}
			wantMessage(t, b, 7, out[last].Bytes, m)
			wantState(t, b, 0, 0)
		}
	}
}

// 26.2: the last number of a talk is used, and behind it each message gets ErrFull; other talks go on.
func TestSendFull(t *testing.T) {
	p := settled(t, 100, 7)
	use := p.talks[5]
	use.Next = math.MaxUint32 - 2
	p.talks[5] = use
	wantSend(t, p, 5, ping(1), packets(5, messageOf(100, 3, 9, math.MaxUint32-1, 4, ping(1))...), api.OK)
	wantSend(t, p, 5, ping(2), packets(5, messageOf(100, 3, 9, math.MaxUint32, 4, ping(2))...), api.OK)
	for range 3 {
		wantSend(t, p, 5, ping(3), nil, api.ErrFull)
		wantTalks(t, p, api.Talk{Addr: 5, State: api.Settled, Theirs: 7, Version: 3, Epoch: 4, Next: math.MaxUint32})
	}
	wantSend(t, p, 6, ping(3), packets(6, helloOf(9, 7, false)), api.OK)
	wantHear(t, p, 5, helloOf(5, 8, true), nil, api.OK)
	wantSend(t, p, 5, ping(3), nil, api.ErrVersion)
	wantHear(t, p, 5, helloOf(6, 7, true), nil, api.OK)
	wantSend(t, p, 5, ping(3), nil, api.ErrFull)
}

// 26.3: each error of gram's Get is Hear's, and changes nothing.
func TestHearErrorsOfGet(t *testing.T) {
	p := settled(t, 100, 7)
	wantHear(t, p, 5, datagram(api.Gram{Kind: 1, Version: 1, Count: 2, Body: []byte("ab")}), nil, api.OK)
	before := p.Talks()
	hello, message := helloOf(5, 1, false), messageOf(100, 1, 4, 1, 9, ping(7))[0]
	for n := range 20 {
		wantHear(t, p, 5, hello[:n], nil, api.ErrShort)
		wantHear(t, p, 5, message[:n], nil, api.ErrShort)
	}
	wantHear(t, p, 5, nil, nil, api.ErrShort)
	wantHear(t, p, 5, make([]byte, 65508), nil, api.ErrLong)
	for _, b := range [][]byte{hello, message} {
		for at := range 8 * len(b) {
			wantHear(t, p, 5, crc.Flip(b, at, 1), nil, api.ErrSum)
			wantHear(t, p, 5, crc.Flip(b, at, 0x9e3779b1), nil, api.ErrSum)
		}
		end := len(b) - 4
		wantHear(t, p, 5, sealed(slices.Concat([]byte{167, 79}, b[2:end])), nil, api.ErrForm)
		wantHear(t, p, 5, sealed(slices.Concat([]byte{168, 78}, b[2:end])), nil, api.ErrForm)
		for _, kind := range []byte{0, 3, 255} {
			wantHear(t, p, 5, sealed(slices.Concat(b[:2], []byte{kind}, b[3:end])), nil, api.ErrKind)
		}
		wantHear(t, p, 5, sealed(slices.Concat(b[:15], []byte{0}, b[16:end])), nil, api.ErrArg)
		wantHear(t, p, 5, sealed(slices.Concat(b[:13], []byte{1}, b[14:end])), nil, api.ErrArg)
	}
	wantTalks(t, p, before...)
	wantState(t, p, 1, 2)
	wantMessage(t, p, 5, message, ping(7))
}

// 26.3: a hello whose Body is no result of nego's Hello gets ErrForm, also if it is too old, and leaves no talk.
func TestHelloForm(t *testing.T) {
	p := settled(t, 100, 7)
	before := p.Talks()
	for _, body := range [][]byte{nil, {1}, {2, 0}, {0, 0, 1}, {3, 0, 1}, {255, 0, 1}, {1, 0, 1, 0}, {2, 0, 1, 9}, make([]byte, 1000)} {
		for _, epoch := range []uint32{0, 3, 4, 5} {
			b := datagram(api.Gram{Kind: 2, Epoch: epoch, Count: 1, Body: body})
			wantHear(t, p, 5, b, nil, api.ErrForm)
			wantHear(t, p, 6, b, nil, api.ErrForm)
		}
	}
	wantTalks(t, p, before...)
}

// 26.3: a hello with a lesser epoch than the talk's gets ErrOld and changes nothing; an equal or a greater one is heard, and Next stays as it is.
func TestHelloEpochs(t *testing.T) {
	p := settled(t, 100, 7)
	p.Send(5, ping(1))
	for _, epoch := range []uint32{0, 1, 3} {
		for _, reply := range []bool{false, true} {
			wantHear(t, p, 5, helloOf(epoch, 1, reply), nil, api.ErrOld)
			wantTalks(t, p, api.Talk{Addr: 5, State: api.Settled, Theirs: 7, Version: 3, Epoch: 4, Next: 1})
		}
	}
	wantHear(t, p, 5, helloOf(4, 3, false), packets(5, helloOf(9, 7, true)), api.OK)
	wantTalks(t, p, api.Talk{Addr: 5, State: api.Settled, Theirs: 3, Version: 2, Epoch: 4, Next: 1})
	wantHear(t, p, 5, helloOf(math.MaxUint32, 1, true), nil, api.OK)
	wantTalks(t, p, api.Talk{Addr: 5, State: api.Settled, Theirs: 1, Version: 1, Epoch: math.MaxUint32, Next: 1})
	wantSend(t, p, 5, ping(2), packets(5, messageOf(100, 1, 9, 2, math.MaxUint32, ping(2))...), api.OK)
	wantHear(t, p, 5, helloOf(math.MaxUint32-1, 7, true), nil, api.ErrOld)
	wantHear(t, p, 6, helloOf(0, 7, true), nil, api.OK)
	wantHear(t, p, 6, helloOf(0, 3, true), nil, api.OK)
	wantTalks(t, p, api.Talk{Addr: 5, State: api.Settled, Theirs: 1, Version: 1, Epoch: math.MaxUint32, Next: 2}, api.Talk{Addr: 6, State: api.Settled, Theirs: 3, Version: 2})
}

// 26.3: a talk that has asked has the epoch 0, so that the first hello is heard whatever its epoch is.
func TestFirstHello(t *testing.T) {
	for _, epoch := range []uint32{0, 1, math.MaxUint32} {
		p := made(t, 9, 7, 100)
		p.Send(5, ping(1))
		wantHear(t, p, 5, helloOf(epoch, 4, true), packets(5, messageOf(100, 3, 9, 1, epoch, ping(1))...), api.OK)
		wantTalks(t, p, api.Talk{Addr: 5, State: api.Settled, Theirs: 4, Version: 3, Epoch: epoch, Next: 1})
	}
}

// 26.3: nothing of a hello matters but its epoch and its Body.
func TestHelloFields(t *testing.T) {
	for _, g := range []api.Gram{
		{Version: 1, Count: 1}, {Version: 255, Count: 1}, {ID: 77, Count: 1},
		{Index: 1, Count: 2}, {Index: 65534, Count: 65535, ID: math.MaxUint32, Version: 16},
	} {
		p := made(t, 9, 7, 100)
		g.Kind, g.Epoch, g.Body = 2, 4, []byte{1, 0, 6}
		wantHear(t, p, 5, datagram(g), packets(5, helloOf(9, 7, true)), api.OK)
		wantTalks(t, p, api.Talk{Addr: 5, State: api.Settled, Theirs: 6, Version: 3, Epoch: 4})
		wantState(t, p, 0, 0)
	}
}

// 26.3: each version that is not the pipe's own gets ErrVersion, ahead of what the reassembler says, which gets no part of it.
func TestDataVersion(t *testing.T) {
	m := mix(17)
	for range 100 {
		own := uint16(m.next() >> 20)
		p, _ := New(9, own, 100, api.Limits{Open: 16, Bytes: 8, Expiry: 1})
		for version := range 256 {
			g := api.Gram{Kind: 1, Version: uint8(version), Epoch: 1, ID: uint32(version), Count: 2}
			if version >= 1 && version <= 16 && own>>(version-1)&1 == 1 {
				wantHear(t, p, 5, datagram(g), nil, api.OK)
				wantHear(t, p, 5, datagram(g), nil, api.ErrTwice)
				continue
			}
			open := p.Open()
			wantHear(t, p, 5, datagram(g), nil, api.ErrVersion)
			g.Body = make([]byte, 9) // too many for the reassembler
			wantHear(t, p, 5, datagram(g), nil, api.ErrVersion)
			wantState(t, p, open, 0)
		}
		wantTalks(t, p)
	}
	p := made(t, 9, 1, 100)
	wantMessage(t, p, 5, messageOf(100, 1, 4, 70, 9, ping(1))[0], ping(1))
	for _, id := range []uint32{1, 70} { // too old, or delivered already
		wantHear(t, p, 5, messageOf(100, 2, 4, id, 9, ping(1))[0], nil, api.ErrVersion)
	}
}

// 26.3: the errors of Take are Hear's, ahead of all that a complete message can have.
func TestDataErrorsOfTake(t *testing.T) {
	p := made(t, 9, 7, 100)
	wantMessage(t, p, 5, messageOf(100, 1, 4, 70, 9, ping(1))[0], ping(1))
	for _, body := range [][]byte{nil, {0, 0, 0, 9, 11, 0, 0, 0, 1}, {0, 0, 0, 8, 11}, {0, 0, 0, 9}} {
		for _, row := range []struct {
			epoch, id uint32
			fault     api.Errno
		}{{3, 71, api.ErrOld}, {4, 6, api.ErrOld}, {4, 70, api.ErrTwice}} {
			wantHear(t, p, 5, datagram(api.Gram{Kind: 1, Version: 1, Epoch: row.epoch, ID: row.id, Count: 1, Body: body}), nil, row.fault)
		}
	}
	part := api.Gram{Kind: 1, Version: 1, Epoch: 4, ID: 71, Count: 2, Body: make([]byte, 60000)}
	wantHear(t, p, 5, datagram(part), nil, api.OK)
	wantHear(t, p, 5, datagram(part), nil, api.ErrTwice)
	part.Version, part.Index = 2, 1
	wantHear(t, p, 5, datagram(part), nil, api.ErrForm)
	part.Version = 1
	wantState(t, p, 1, 60000)
	wantHear(t, p, 5, datagram(part), nil, api.ErrFull)
	wantState(t, p, 0, 0)
	wantTalks(t, p)
}

// 26.3: a complete message with fewer than four bytes gets ErrShort, even if these are not those of the epoch; its number is delivered.
func TestDataShort(t *testing.T) {
	p := made(t, 9, 7, 32)
	id := uint32(0)
	for _, body := range [][]byte{nil, {0}, {0, 0}, {0, 0, 0}, {1, 2, 3}, {9}, {0, 0, 9}} {
		for version := 1; version <= 3; version++ {
			id++
			b := dividedOf(32, version, 4, id, body)[0]
			wantHear(t, p, 5, b, nil, api.ErrShort)
			wantHear(t, p, 5, b, nil, api.ErrTwice)
		}
	}
	first := api.Gram{Kind: 1, Version: 1, Epoch: 4, ID: 100, Index: 1, Count: 2, Body: []byte{9}}
	second := api.Gram{Kind: 1, Version: 1, Epoch: 4, ID: 100, Count: 2, Body: []byte{0, 0}}
	wantHear(t, p, 5, datagram(first), nil, api.OK)
	wantState(t, p, 1, 1)
	wantHear(t, p, 5, datagram(second), nil, api.ErrShort)
	wantState(t, p, 0, 0)
	wantTalks(t, p)
}

// 26.3: a message for another epoch gets ErrOld and a hello, whatever follows the epoch; there is no talk by it, and a talk stays as it is.
func TestDataOld(t *testing.T) {
	for _, epoch := range []uint32{0, 1, 9, 1<<24 + 9, math.MaxUint32} {
		p := made(t, epoch, 7, 32)
		hello := helloOf(epoch, 7, false)
		id := uint32(0)
		for _, to := range []uint32{epoch + 1, epoch - 1, epoch ^ 1<<8, epoch ^ 1<<16, epoch ^ 1<<24, ^epoch} {
			for version := 1; version <= 3; version++ {
				for _, rest := range [][]byte{nil, {0}, {11, 0, 0, 0, 1}, {11, 1, 1}, make([]byte, 100)} {
					id++
					cut := dividedOf(32, version, 4, id, slices.Concat(four(to), rest))
					last := len(cut) - 1
					for _, b := range cut[:last] {
						wantHear(t, p, 5, b, nil, api.OK)
					}
					wantHear(t, p, 5, cut[last], packets(5, hello), api.ErrOld)
					wantHear(t, p, 5, cut[last], nil, api.ErrTwice)
				}
			}
		}
		wantTalks(t, p)
		wantHear(t, p, 5, helloOf(4, 2, true), nil, api.OK)
		wantHear(t, p, 5, messageOf(32, 1, 4, id+1, epoch+1, ping(1))[0], packets(5, hello), api.ErrOld)
		wantHear(t, p, 6, messageOf(32, 1, 4, 1, epoch+1, ping(1))[0], packets(6, hello), api.ErrOld)
		wantTalks(t, p, api.Talk{Addr: 5, State: api.Settled, Theirs: 2, Version: 2, Epoch: 4})
		wantMessage(t, p, 5, messageOf(32, 1, 4, id+2, epoch, ping(1))[0], ping(1))
	}
}

// 26.3: what follows the epoch must be the encoding of a message in the mode of the version: the errors of codec's Dec are Hear's, and the number is delivered.
func TestDataErrorsOfDec(t *testing.T) {
	p := made(t, 9, 65535, 65507)
	id := uint32(0)
	for version := 1; version <= 16; version++ {
		for _, rest := range [][]byte{
			nil, {0}, {11}, {13, 0, 0, 0, 1}, {11, 0, 0, 0}, {11, 0, 0, 0, 1, 0}, {11, 1}, {11, 1, 0}, {11, 1, 1, 0}, {255}, {1, 0, 0, 0, 0},
			{8, 0, 0, 0, 0, 1, 255}, []byte("d1:q4:ping1:ri7e"), []byte("d1:q4:ping1:ri7eee"), []byte("de"), []byte("i5e"), []byte("d1:q4:pong1:ri7ee"), make([]byte, 5000),
		} {
			id++
			b := dividedOf(65507, version, 4, id, slices.Concat([]byte{0, 0, 0, 9}, rest))[0]
			m, fault := codec.Dec(modeOf(version), rest)
			if fault == api.OK {
				wantMessage(t, p, 5, b, m)
				continue
			}
			wantHear(t, p, 5, b, nil, fault)
			wantHear(t, p, 5, b, nil, api.ErrTwice)
		}
	}
	wantTalks(t, p)
	wantState(t, p, 0, 0)
}

// 26.3: a message is read in the mode of its own version, be it settled on or not, and needs no talk.
func TestDataModes(t *testing.T) {
	m := mix(263)
	for _, theirs := range []uint16{0, 1, 2, 4, 7, 8} {
		p := made(t, 9, 7, 40)
		if theirs > 0 {
			wantHear(t, p, 5, helloOf(4, theirs, true), nil, api.OK)
		}
		before := p.Talks()
		for id := range uint32(60) {
			s := m.message(id)
			cut := messageOf(40, 1+int(id)%3, 4, id, 9, s)
			for k := len(cut) - 1; k > 0; k-- {
				wantHear(t, p, 5, cut[k], nil, api.OK)
			}
			wantMessage(t, p, 5, cut[0], s)
		}
		wantTalks(t, p, before...)
	}
}

// 26.4: Tick sends the hello again at each fourth tick of a talk that has asked, in the order of the addresses, whenever each of them began.
func TestTick(t *testing.T) {
	p := made(t, 9, 7, 100)
	wantHear(t, p, 200, helloOf(4, 1, true), nil, api.OK)
	wantHear(t, p, 201, helloOf(4, 8, true), nil, api.OK)
	begun := map[uint16]int{}
	for tick := range 60 {
		for k := range 3 {
			if addr := uint16(tick*7919+k*40503) | 1; tick < 20 && begun[addr] == 0 && addr != 201 {
				begun[addr] = tick + 1
				wantSend(t, p, addr, ping(1), packets(addr, helloOf(9, 7, false)), api.OK)
			}
		}
		var due []uint16
		for addr, begin := range begun {
			if (tick+2-begin)%4 == 0 {
				due = append(due, addr)
			}
		}
		slices.Sort(due)
		var want []api.Packet
		for _, addr := range due {
			want = append(want, packets(addr, helloOf(9, 7, false))...)
		}
		if out := p.Tick(); !samePackets(out, want) {
			t.Fatalf("tick %d: %v, want %v", tick, out, want)
		}
		for _, talk := range p.Talks() {
			if since := (tick + 2 - begun[talk.Addr]) % 4; talk.State == api.Asked && talk.Since != since || talk.State != api.Asked && talk.Since != 0 {
				t.Fatalf("tick %d: %v, want %d", tick, talk, since)
			}
		}
	}
}

// 26.4: Tick makes the open messages older, and leaves what waits as it is.
func TestTickReassembler(t *testing.T) {
	p := made(t, 9, 7, 32)
	p.Send(6, ping(5))
	cut := messageOf(32, 3, 4, 1, 9, ping(7))
	wantHear(t, p, 5, cut[1], nil, api.OK)
	for range 32 {
		p.Tick()
	}
	wantState(t, p, 1, 9)
	p.Tick()
	wantState(t, p, 0, 0)
	wantTalks(t, p, api.Talk{Addr: 6, State: api.Asked, Since: 1, Waits: pings(5, 1)})
	wantHear(t, p, 5, cut[0], nil, api.OK)
	wantState(t, p, 1, 12)
	wantMessage(t, p, 5, cut[1], ping(7))
	wantState(t, p, 0, 0)
}

// 26.4: Talks are in the order of the addresses, however they came: all of them there can be.
func TestAllAddresses(t *testing.T) {
	p := made(t, 9, 7, 100)
	var want []api.Talk
	for addr := range 1 << 16 {
		want = append(want, api.Talk{Addr: uint16(addr), State: api.Settled, Theirs: 4, Version: 3, Epoch: uint32(addr)})
		at := uint16(addr * 40503) // each address once
		wantHear(t, p, at, helloOf(uint32(at), 4, true), nil, api.OK)
	}
	wantTalks(t, p, want...)
	if out := p.Tick(); len(out) > 0 {
		t.Errorf("Tick = %v", out)
	}
}

// 26.4: for a nil pipe, and for one that New did not create, Send and Hear return ErrState ahead of any other error, and the other methods zero values.
func TestNotMade(t *testing.T) {
	var none *Pipe
	for what, p := range map[string]*Pipe{"nil": none, "zero": {}, "new": new(Pipe)} {
		for range 2 {
			for _, m := range []api.Msg{{}, ping(1), {Kind: api.KHop}} {
				wantSend(t, p, 5, m, nil, api.ErrState)
			}
			for _, b := range [][]byte{nil, {1}, make([]byte, 70000), helloOf(1, 1, false), helloOf(1, 1, true), messageOf(100, 1, 1, 1, 0, ping(1))[0]} {
				wantHear(t, p, 5, b, nil, api.ErrState)
			}
			wantTalks(t, p)
			wantState(t, p, 0, 0)
			if out := p.Tick(); len(out) > 0 {
				t.Errorf("%s: Tick = %v", what, out)
			}
		}
	}
}

// 26.2, 26.4: a message that is changed once it was passed, and talks that are changed once they were returned, change nothing that waits (R4).
func TestMemoryOfQueue(t *testing.T) {
	hop := api.Msg{Kind: api.KHop, Rid: 1, Peers: []api.Peer{{ID: 1, Addr: 2}, {ID: 3, Addr: 4}}}
	move := api.Msg{Kind: api.KMove, Rid: 2, Pairs: []api.Pair{{Key: "k", Val: "v"}}}
	p := made(t, 9, 7, 100)
	given := []api.Msg{msg.Copy(hop), msg.Copy(move)}
	for _, m := range given {
		p.Send(5, m)
	}
	given[0].Peers[0], given[1].Pairs[0] = api.Peer{}, api.Pair{}
	want := api.Talk{Addr: 5, State: api.Asked, Waits: []api.Msg{hop, move}}
	wantTalks(t, p, want)
	for range 2 {
		l := p.Talks()
		l[0].Waits[0].Peers[1], l[0].Waits[1].Pairs[0] = api.Peer{}, api.Pair{}
		l[0].Waits[1] = ping(9)
		l[0].State, l[0].Waits = api.Idle, l[0].Waits[:1]
		wantTalks(t, p, want)
		p.Tick()
		want.Since++
	}
	out := slices.Concat(packets(5, messageOf(100, 3, 9, 1, 4, hop)...), packets(5, messageOf(100, 3, 9, 2, 4, move)...))
	wantHear(t, p, 5, helloOf(4, 7, true), out, api.OK)
}

// 26.2, 26.3: neither what Hear was given nor what a method returned is kept or changed (R4).
func TestMemoryOfPackets(t *testing.T) {
	m := mix(4)
	a, b := made(t, 1, 7, 32), made(t, 2, 7, 32)
	spoil := func(l []byte) {
		for k := range l {
			l[k] ^= 0xff
		}
	}
	pass := func(to *Pipe, from uint16, out []api.Packet) (api.Msg, []api.Packet) {
		var got api.Msg
		var back []api.Packet
		for _, p := range out {
			before := slices.Clone(p.Bytes)
			s, ok, packets, e := to.Hear(from, p.Bytes)
			if e != api.OK || !bytes.Equal(before, p.Bytes) {
				t.Fatalf("Hear(%v) = %d, and left %v", before, e, p.Bytes)
			}
			if ok {
				got = s
			}
			spoil(p.Bytes)
			back = append(back, packets...)
		}
		return got, back
	}
	out, _ := a.Send(8, ping(0))
	_, out = pass(b, 7, out)
	_, out = pass(a, 8, out)
	pass(b, 7, out)
	for rid := range uint32(200) {
		s := m.message(rid)
		passed := msg.Copy(s)
		out, _ := a.Send(8, passed)
		clear(passed.Peers)
		clear(passed.Pairs)
		if got, _ := pass(b, 7, out); !msg.Same(got, s) {
			t.Fatalf("%v arrived as %v", s, got)
		}
	}
}

// line is what is on its way from one pipe to another one, in order.
type line struct {
	from, to *Pipe
	addr     uint16 // the sender's
	wire     []api.Packet
}

// next delivers the first packet, whose answers go onto the other line.
func (l *line) next(t *testing.T, other *line) (api.Msg, bool) {
	t.Helper()
	p := l.wire[0]
	l.wire = l.wire[1:]
	m, ok, out, e := l.to.Hear(l.addr, p.Bytes)
	if e != api.OK || p.To != other.addr {
		t.Fatalf("Hear(%d, %v) = %d", l.addr, p, e)
	}
	other.wire = append(other.wire, out...)
	return m, ok
}

// 26.5: if every packet arrives, in order, all messages are delivered, in order and unchanged, whenever they were sent and whoever began.
func TestAllDelivered(t *testing.T) {
	m := mix(265)
	for row := range 200 {
		common := uint16(1) << m.below(16)
		mtu := []int{32, 40, 100, 1000, 65507}[m.below(5)]
		a := made(t, uint32(m.next()), uint16(m.next()>>20)|common, mtu)
		b := made(t, uint32(m.next()), uint16(m.next()>>20)|common, 32+m.below(1000))
		there, back := &line{from: a, to: b, addr: 7}, &line{from: b, to: a, addr: 8}
		if row%3 == 0 {
			back.wire, _ = b.Send(7, ping(0))
		}
		var sent, got []api.Msg
		for step := 0; step < 400 || len(there.wire)+len(back.wire) > 0; step++ {
			switch kind := m.below(4); {
			case kind == 0 && step < 400:
				s := m.message(uint32(step))
				out, e := a.Send(8, s)
				if e == api.OK {
					sent = append(sent, s)
				} else if e != api.ErrFull || len(a.Talks()[0].Waits) != 32 {
					t.Fatalf("Send = %d", e)
				}
				there.wire = append(there.wire, out...)
			case kind == 1 && m.below(10) == 0:
				there.wire = append(there.wire, a.Tick()...)
				back.wire = append(back.wire, b.Tick()...)
			case kind == 2 && len(back.wire) > 0:
				back.next(t, there)
			case kind == 3 && len(there.wire) > 0:
				for range 1 + m.below(len(there.wire)) {
					if s, ok := there.next(t, back); ok {
						got = append(got, s)
					}
				}
			}
		}
		if !slices.EqualFunc(sent, got, msg.Same) || len(sent) < 20 {
			t.Fatalf("row %d: %d were sent, and %d delivered: %v, %v", row, len(sent), len(got), sent, got)
		}
		if x, y := a.Talks()[0], b.Talks()[0]; x.State != api.Settled || y.State != api.Settled || x.Version != y.Version {
			t.Fatalf("row %d: %v, %v", row, x, y)
		}
	}
}

// 26.5: without a common version nothing is delivered, and both pipes know it.
func TestNoneDelivered(t *testing.T) {
	m := mix(266)
	for range 300 {
		own := uint16(m.next() >> 20)
		a, b := made(t, 1, own, 100), made(t, 2, ^own&uint16(m.next()>>20), 100)
		there, back := &line{from: a, to: b, addr: 7}, &line{from: b, to: a, addr: 8}
		for step := 0; step < 30 || len(there.wire)+len(back.wire) > 0; step++ {
			out, _ := a.Send(8, m.message(uint32(step)))
			there.wire = append(there.wire, out...)
			if len(there.wire) > 0 {
				if _, ok := there.next(t, back); ok {
					t.Fatal("a message was delivered")
				}
			}
			if len(back.wire) > 0 {
				back.next(t, there)
			}
		}
		for _, l := range [][]api.Talk{a.Talks(), b.Talks()} {
			if len(l) != 1 || l[0].State != api.Refused || len(l[0].Waits) > 0 {
				t.Fatalf("Talks = %v", l)
			}
		}
		wantSend(t, a, 8, ping(1), nil, api.ErrVersion)
		wantSend(t, b, 7, ping(1), nil, api.ErrVersion)
	}
}

// meant is what was sent and is not delivered yet.
type meant struct {
	from, to uint16
	m        api.Msg
}

// fray is three pipes and all that they ever sent to each other: nothing of it is forgotten.
type fray struct {
	t          *testing.T
	m          *mix
	pipes      [3]*Pipe
	wire       []letter
	sent       map[uint32]meant
	epoch, rid uint32
	delivered  int
}

// boot puts a new pipe in the place of the one at an address.
func (f *fray) boot(addr int) {
	f.epoch++
	f.pipes[addr] = made(f.t, f.epoch, 5, 32+f.m.below(100))
}

func (f *fray) post(from uint16, out []api.Packet) {
	for _, p := range out {
		f.wire = append(f.wire, letter{from, p.To, p.Bytes})
	}
}

func (f *fray) send(from, to uint16) {
	f.rid++
	s := f.m.message(f.rid)
	out, e := f.pipes[from].Send(to, s)
	if e == api.OK {
		f.sent[f.rid] = meant{from, to, s}
	}
	f.post(from, out)
}

// hear delivers a letter with these bytes; a message must have been sent, and none may come twice.
func (f *fray) hear(l letter, b []byte) {
	f.t.Helper()
	s, ok, out, e := f.pipes[l.to].Hear(l.from, b)
	if ok {
		want, there := f.sent[s.Rid]
		if !there || want.from != l.from || want.to != l.to || !msg.Same(want.m, s) {
			f.t.Fatalf("%v was delivered from %d to %d, want %v", s, l.from, l.to, want)
		}
		delete(f.sent, s.Rid)
		f.delivered++
	}
	if !bytes.Equal(b, l.b) && e != api.ErrSum {
		f.t.Fatalf("Hear of a corrupted datagram = %d", e)
	}
	if len(f.wire) < 4000 {
		f.post(l.to, out)
	}
}

// step lets one thing happen: time advances, a message is sent, or a packet arrives, however old it is.
func (f *fray) step() {
	addr := f.m.below(3)
	switch kind := f.m.below(40); {
	case kind == 0 && f.m.below(12) == 0:
		f.boot(addr)
	case kind < 3:
		f.post(uint16(addr), f.pipes[addr].Tick())
	case kind < 8 || len(f.wire) == 0:
		f.send(uint16(addr), uint16(f.m.below(3)))
	case kind == 8:
		l := f.wire[f.m.below(len(f.wire))]
		f.hear(l, crc.Flip(l.b, f.m.below(8*len(l.b)), uint32(f.m.next())|1))
	case kind < 20:
		l := f.wire[f.m.below(len(f.wire))]
		f.hear(l, l.b)
	default:
		l := f.wire[max(0, len(f.wire)-1-f.m.below(6))]
		f.hear(l, l.b)
	}
}

// 26.5: no message is delivered to two pipes or twice to one, whatever is lost, duplicated, corrupted, reordered and delayed, and however often pipes are replaced; and each that is delivered was sent, by that address to that one.
func TestAtMostOnce(t *testing.T) {
	m := mix(267)
	for row := range 30 {
		f := &fray{t: t, m: &m, sent: map[uint32]meant{}}
		for addr := range f.pipes {
			f.boot(addr)
		}
		for range 6000 {
			f.step()
		}
		for _, l := range slices.Concat(f.wire, f.wire) {
			f.hear(l, l.b)
		}
		if f.delivered < 50 {
			t.Errorf("row %d: only %d messages were delivered", row, f.delivered)
		}
	}
}

// 26.3, 26.5: a pipe that takes the place of another one gets none of its messages, and by its hello the sender learns of its epoch: what is sent from then on arrives.
func TestReplaced(t *testing.T) {
	a, b := made(t, 1, 7, 100), made(t, 2, 7, 100)
	hello, _ := a.Send(8, ping(1))
	_, _, reply, _ := b.Hear(7, hello[0].Bytes)
	_, _, first, _ := a.Hear(8, reply[0].Bytes)
	wantMessage(t, b, 7, first[0].Bytes, ping(1))
	late, _ := a.Send(8, ping(2))
	b = made(t, 3, 7, 100)
	wantHear(t, b, 7, first[0].Bytes, packets(7, helloOf(3, 7, false)), api.ErrOld)
	wantHear(t, b, 7, late[0].Bytes, packets(7, helloOf(3, 7, false)), api.ErrOld)
	wantHear(t, a, 8, helloOf(3, 7, false), packets(8, helloOf(1, 7, true)), api.OK)
	wantTalks(t, a, api.Talk{Addr: 8, State: api.Settled, Theirs: 7, Version: 3, Epoch: 3, Next: 2})
	wantHear(t, a, 8, reply[0].Bytes, nil, api.ErrOld)
	wantSend(t, a, 8, ping(3), packets(8, messageOf(100, 3, 1, 3, 3, ping(3))...), api.OK)
	wantMessage(t, b, 7, messageOf(100, 3, 1, 3, 3, ping(3))[0], ping(3))
	wantHear(t, b, 7, late[0].Bytes, nil, api.ErrTwice)
}

// 26.1: two pipes do not touch each other, and equal calls have equal results (R5).
func TestApart(t *testing.T) {
	a, b := made(t, 9, 7, 100), made(t, 9, 7, 100)
	for _, p := range []*Pipe{a, b} {
		wantSend(t, p, 5, ping(1), packets(5, helloOf(9, 7, false)), api.OK)
	}
	wantHear(t, a, 5, helloOf(4, 8, true), nil, api.OK)
	wantHear(t, b, 5, datagram(api.Gram{Kind: 1, Version: 1, Count: 2, Body: []byte{1}}), nil, api.OK)
	wantTalks(t, a, api.Talk{Addr: 5, State: api.Refused, Theirs: 8, Epoch: 4})
	wantTalks(t, b, api.Talk{Addr: 5, State: api.Asked, Waits: pings(1, 1)})
	wantState(t, a, 0, 0)
	wantState(t, b, 1, 1)
}

// 26.2: the packets can be read by the layers below, and none has more than mtu bytes.
func TestPacketsBelow(t *testing.T) {
	m := mix(268)
	for _, mtu := range []int{32, 50, 333, 65507} {
		p := settled(t, mtu, 7)
		for rid := range uint32(100) {
			out, _ := p.Send(5, m.message(rid))
			for k, packet := range out {
				g, e := gram.Get(packet.Bytes)
				if e != api.OK || len(packet.Bytes) > mtu || g.Kind != 1 || g.Version != 3 || g.Epoch != 9 || g.ID != rid+1 || int(g.Index) != k || int(g.Count) != len(out) {
					t.Fatalf("with %d, packet %d of %d: %d bytes, %v, %d", mtu, k, len(out), len(packet.Bytes), g, e)
				}
			}
		}
	}
}
