package nego

import (
	"bytes"
	"math"
	"reflect"
	"slices"
	"testing"

	"annulet/api"
	"annulet/vers"
)

// mix is a row of numbers without any plain order, the same ones each time.
type mix uint64

func (m *mix) next() uint64 {
	x := uint64(*m)
	x ^= x << 13
	x ^= x >> 7
	x ^= x << 17
	*m = mix(x)
	return x
}

func (m *mix) below(n int) int {
	return int((m.next() >> 20) % uint64(n))
}

// 25.1: Hello returns its three bytes for each of the sets, and Read leads back.
func TestHello(t *testing.T) {
	for n := range 1 << 16 {
		for _, reply := range []bool{false, true} {
			want := []byte{1, byte(n / 256), byte(n % 256)}
			if reply {
				want[0] = 2
			}
			b := Hello(uint16(n), reply)
			if !slices.Equal(b, want) {
				t.Fatalf("Hello(%d, %t) = %v, want %v", n, reply, b, want)
			}
			set, back, err := Read(want)
			if int(set) != n || back != reply || err != api.OK {
				t.Fatalf("Read(%v) = %d, %t, %d", want, set, back, err)
			}
		}
	}
}

// 25.1: the examples, and some hellos that are written out.
func TestHelloByHand(t *testing.T) {
	rows := []struct {
		set   uint16
		reply bool
		b     []byte
	}{
		{258, true, []byte{2, 1, 2}},
		{258, false, []byte{1, 1, 2}},
		{0, false, []byte{1, 0, 0}},
		{1, true, []byte{2, 0, 1}},
		{32768, false, []byte{1, 128, 0}},
		{65535, true, []byte{2, 255, 255}},
	}
	for _, row := range rows {
		if b := Hello(row.set, row.reply); !slices.Equal(b, row.b) {
			t.Errorf("Hello(%d, %t) = %v, want %v", row.set, row.reply, b, row.b)
		}
	}
	if set, reply, err := Read([]byte{2, 1, 2}); set != 258 || !reply || err != api.OK {
		t.Errorf("Read of 2 1 2 = %d, %t, %d", set, reply, err)
	}
	if set, reply, err := Read([]byte{3, 0, 0}); set != 0 || reply || err != api.ErrForm {
		t.Errorf("Read of 3 0 0 = %d, %t, %d", set, reply, err)
	}
}

// wantForm holds that b is refused, with zero values beside the error.
func wantForm(t *testing.T, b []byte) {
	t.Helper()
	if set, reply, err := Read(b); set != 0 || reply || err != api.ErrForm {
		t.Fatalf("Read(%v) = %d, %t, %d, want 0, false, ErrForm", b, set, reply, err)
	}
}

// 25.1: what is no result of Hello gets ErrForm: bytes that are too few or too many, and each other first byte.
func TestReadRefuses(t *testing.T) {
	wantForm(t, nil)
	wantForm(t, []byte{})
	for first := range 256 {
		c := byte(first)
		wantForm(t, []byte{c})
		wantForm(t, []byte{c, 1})
		wantForm(t, []byte{c, 0, 0, 0})
		wantForm(t, []byte{c, 0, 1, 2, 3})
		wantForm(t, append([]byte{c}, make([]byte, 1<<16)...))
		if first != 1 && first != 2 {
			wantForm(t, []byte{c, 0, 0})
			wantForm(t, []byte{c, 1, 2})
			wantForm(t, []byte{c, 255, 255})
		}
	}
	for n := range 1 << 16 {
		wantForm(t, []byte{1, byte(n >> 8), byte(n), 0})
		wantForm(t, []byte{0, byte(n >> 8), byte(n)})
		wantForm(t, []byte{3, byte(n >> 8), byte(n)})
	}
}

// 25.1: Hello returns new memory each time, and Read keeps and changes nothing of its argument.
func TestHelloMemory(t *testing.T) {
	first, second := Hello(258, true), Hello(258, true)
	first[0], first[1], first[2] = 9, 9, 9
	if !slices.Equal(second, []byte{2, 1, 2}) || !slices.Equal(Hello(258, true), []byte{2, 1, 2}) {
		t.Errorf("Hello returned memory that is shared")
	}
	given := []byte{2, 1, 2, 7, 7}
	Read(given[:3])
	if !bytes.Equal(given, []byte{2, 1, 2, 7, 7}) {
		t.Errorf("Read changed its argument: %v", given)
	}
}

// waits are messages with memory of their own, which a talk's functions pass on.
func waits() []api.Msg {
	return []api.Msg{
		{Kind: api.KPing, Rid: 7},
		{Kind: api.KHop, Rid: 8, Peers: []api.Peer{{ID: 5, Addr: 6}, {ID: 7, Addr: 8}}},
		{Kind: api.KMove, Has: true, Pairs: []api.Pair{{Key: "k", Val: "v"}}},
		{Kind: -3, Code: 9, ID: 10, Key: "a", Val: "b", Peer: api.Peer{ID: 1}, Peers: []api.Peer{{}}, Pairs: []api.Pair{{}, {}}},
	}
}

// full is a talk whose fields all differ from zero.
func full(state, since int) api.Talk {
	return api.Talk{Addr: 11, State: state, Theirs: 12, Version: 13, Since: since, Epoch: 14, Next: 15, Waits: waits()}
}

// empty is a talk that has nothing but a state and a Since.
func empty(state, since int) api.Talk {
	return api.Talk{State: state, Since: since}
}

var someStates = []int{0, 1, 2, 3, 4, 5, -1, -2, 255, 256, 257, 1 << 32, 1<<32 + 1, math.MaxInt, math.MinInt, math.MinInt + 1}

var someSinces = []int{0, 1, 2, 3, 4, 5, 6, 7, -1, -2, -3, 255, 256, 1 << 32, 1<<32 + 1, math.MaxInt, math.MaxInt - 1, math.MinInt, math.MinInt + 1}

// eachTalk calls f for talks in all states and with all counts, full ones and empty ones.
func eachTalk(f func(talk func() api.Talk)) {
	for _, state := range someStates {
		for _, since := range someSinces {
			f(func() api.Talk { return full(state, since) })
			f(func() api.Talk { return empty(state, since) })
		}
	}
}

// wantTalk holds a talk and the second result to what they must be; the argument must be as it was.
func wantTalk(t *testing.T, what string, given, before, got, want api.Talk, says, wantSays bool) {
	t.Helper()
	if !reflect.DeepEqual(got, want) || says != wantSays {
		t.Fatalf("%s of %v = %v, %t, want %v, %t", what, before, got, says, want, wantSays)
	}
	if !reflect.DeepEqual(given, before) {
		t.Fatalf("%s changed its argument %v to %v", what, before, given)
	}
}

// 25.2: Ask changes a talk that is Idle, and no other one; it keeps all other fields.
func TestAsk(t *testing.T) {
	eachTalk(func(talk func() api.Talk) {
		given, want := talk(), talk()
		idle := given.State == 0
		if idle {
			want.State, want.Since = 1, 0
		}
		got, says := Ask(given)
		wantTalk(t, "Ask", given, talk(), got, want, says, idle)
	})
}

// 25.2: a talk is asked once.
func TestAskTwice(t *testing.T) {
	first, says := Ask(api.Talk{Addr: 3, Since: 9})
	if first.State != api.Asked || first.Since != 0 || first.Addr != 3 || !says {
		t.Errorf("Ask = %v, %t", first, says)
	}
	second, says := Ask(first)
	if !reflect.DeepEqual(second, first) || says {
		t.Errorf("the second Ask = %v, %t", second, says)
	}
}

// bestByWords is the greatest number that both sets have.
func bestByWords(a, b uint16) int {
	best := 0
	for v := 1; v <= 16; v++ {
		worth := uint16(1) << (v - 1)
		if a/worth%2 == 1 && b/worth%2 == 1 {
			best = v
		}
	}
	return best
}

// checkHear holds Hear to the chapter's words, as a reply and not.
func checkHear(t *testing.T, talk func() api.Talk, own, theirs uint16) {
	t.Helper()
	for _, reply := range []bool{false, true} {
		given, want := talk(), talk()
		want.Theirs, want.Version, want.Since, want.State = theirs, bestByWords(own, theirs), 0, 2
		if want.Version == 0 {
			want.State = 3
		}
		got, says := Hear(given, own, theirs, reply)
		wantTalk(t, "Hear", given, talk(), got, want, says, !reply)
	}
}

// 25.3: Hear follows its words in every state, with and without a common version.
func TestHear(t *testing.T) {
	eachTalk(func(talk func() api.Talk) {
		for _, own := range []uint16{0, 1, 5, 32768, 65535} {
			for _, theirs := range []uint16{0, 1, 2, 6, 32768, 65535} {
				checkHear(t, talk, own, theirs)
			}
		}
	})
	m := mix(25)
	for range 20000 {
		state, since := someStates[m.below(len(someStates))], someSinces[m.below(len(someSinces))]
		own, theirs := uint16(m.next()>>20), uint16(m.next()>>20)
		if m.below(3) == 0 {
			theirs = ^own & uint16(m.next()>>20)
		}
		checkHear(t, func() api.Talk { return full(state, since) }, own, theirs)
	}
}

// 25.3: the example, and no common version; the last hello counts, also in a talk that has an end already.
func TestHearByHand(t *testing.T) {
	asked, _ := Ask(api.Talk{})
	settled, says := Hear(asked, 5, 6, true)
	if settled.State != api.Settled || settled.Version != 3 || settled.Theirs != 6 || says {
		t.Errorf("Hear = %v, %t", settled, says)
	}
	refused, says := Hear(settled, 5, 10, false)
	if refused.State != api.Refused || refused.Version != 0 || refused.Theirs != 10 || !says {
		t.Errorf("Hear without a common version = %v, %t", refused, says)
	}
	again, says := Hear(refused, 5, 65535, true)
	if again.State != api.Settled || again.Version != 3 || says {
		t.Errorf("Hear after a refusal = %v, %t", again, says)
	}
	lower, says := Hear(again, 5, 1, false)
	if lower.State != api.Settled || lower.Version != 1 || !says {
		t.Errorf("Hear of fewer versions = %v, %t", lower, says)
	}
	idle, says := Hear(api.Talk{}, 1, 1, false)
	if idle.State != api.Settled || idle.Version != 1 || !says {
		t.Errorf("Hear in a talk that was not asked = %v, %t", idle, says)
	}
}

// 25.4: Tick counts from 0 to 2 and says true for any other Since, in the state Asked alone.
func TestTick(t *testing.T) {
	eachTalk(func(talk func() api.Talk) {
		given, want := talk(), talk()
		due := false
		if given.State == 1 {
			switch given.Since {
			case 0:
				want.Since = 1
			case 1:
				want.Since = 2
			case 2:
				want.Since = 3
			default:
				want.Since, due = 0, true
			}
		}
		got, says := Tick(given)
		wantTalk(t, "Tick", given, talk(), got, want, says, due)
	})
}

// 25.4: a hello is due at each fourth tick, for as long as no hello is heard.
func TestTicks(t *testing.T) {
	talk, _ := Ask(full(api.Idle, 77))
	for i := 1; i <= 40; i++ {
		var due bool
		talk, due = Tick(talk)
		if due != (i%4 == 0) || talk.Since != i%4 || talk.State != api.Asked {
			t.Fatalf("at the tick %d: %v, %t", i, talk, due)
		}
	}
	talk, _ = Tick(talk)
	talk, _ = Hear(talk, 1, 1, true)
	for range 10 {
		if _, due := Tick(talk); due || talk.Since != 0 {
			t.Fatalf("a hello is due in a settled talk: %v", talk)
		}
	}
}

// spoil writes over all memory that the talk leads to.
func spoil(talk api.Talk) {
	for i := range talk.Waits {
		for k := range talk.Waits[i].Peers {
			talk.Waits[i].Peers[k] = api.Peer{ID: 99, Addr: 99}
		}
		for k := range talk.Waits[i].Pairs {
			talk.Waits[i].Pairs[k] = api.Pair{Key: "spoilt"}
		}
		talk.Waits[i] = api.Msg{Kind: 99}
	}
}

// 25.2 to 25.4: the talk that is returned shares no memory with the one that was passed (R4), in any state.
func TestTalkMemory(t *testing.T) {
	calls := []func(api.Talk) api.Talk{
		func(talk api.Talk) api.Talk { talk, _ = Ask(talk); return talk },
		func(talk api.Talk) api.Talk { talk, _ = Tick(talk); return talk },
		func(talk api.Talk) api.Talk { talk, _ = Hear(talk, 1, 1, true); return talk },
		func(talk api.Talk) api.Talk { talk, _ = Hear(talk, 1, 2, false); return talk },
	}
	for i, call := range calls {
		for state := -1; state <= 4; state++ {
			for since := -1; since <= 4; since++ {
				given := full(state, since)
				got := call(given)
				spoil(given)
				if !reflect.DeepEqual(got.Waits, waits()) {
					t.Fatalf("the call %d in the state %d: the result hangs on the argument", i, state)
				}
				given = full(state, since)
				spoil(call(given))
				if !reflect.DeepEqual(given, full(state, since)) {
					t.Fatalf("the call %d in the state %d: the argument hangs on the result", i, state)
				}
			}
		}
	}
}

// 25.2 to 25.4: queued messages stay apart from the spare capacity of what was passed.
func TestSpareCapacity(t *testing.T) {
	given := full(api.Idle, 0)
	given.Waits = append(given.Waits, api.Msg{Kind: 50})[:len(given.Waits)]
	asked, _ := Ask(given)
	asked.Waits = append(asked.Waits, api.Msg{Kind: 51})
	if spare := given.Waits[:len(given.Waits)+1]; spare[len(given.Waits)].Kind != 50 {
		t.Errorf("the result leads into the spare capacity of the argument")
	}
}

// letter is a hello on its way to one of two nodes.
type letter struct {
	to int
	b  []byte
}

// pair is two nodes that talk with each other, and what is on its way between them.
type pair struct {
	t     *testing.T
	own   [2]uint16
	talks [2]api.Talk
	wire  []letter
}

func (p *pair) send(from int, reply bool) {
	p.wire = append(p.wire, letter{to: 1 - from, b: Hello(p.own[from], reply)})
}

func (p *pair) ask(at int) {
	talk, says := Ask(p.talks[at])
	p.talks[at] = talk
	if says {
		p.send(at, false)
	}
}

func (p *pair) tick(at int) {
	talk, says := Tick(p.talks[at])
	p.talks[at] = talk
	if says {
		p.send(at, false)
	}
}

// arrive delivers the letter i, which stays on its way if it is duplicated.
func (p *pair) arrive(i int, twice bool) {
	l := p.wire[i]
	if !twice {
		p.wire = slices.Delete(p.wire, i, i+1)
	}
	theirs, reply, err := Read(l.b)
	if err != api.OK {
		p.t.Fatalf("Read(%v) = %d", l.b, err)
	}
	talk, says := Hear(p.talks[l.to], p.own[l.to], theirs, reply)
	p.talks[l.to] = talk
	if says {
		p.send(l.to, true)
	}
}

// check holds what both nodes think of each other to what they have in common.
func (p *pair) check() {
	p.t.Helper()
	best := bestByWords(p.own[0], p.own[1])
	for at, talk := range p.talks {
		settled := talk.State == api.Settled
		if settled && (best == 0 || talk.Version != best) {
			p.t.Fatalf("the node %d settled on %d, with %v", at, talk.Version, p.own)
		}
		if talk.State == api.Refused && best != 0 {
			p.t.Fatalf("the node %d refuses, with %v", at, p.own)
		}
	}
}

// some makes one step of any kind: time advances, a node asks, a hello arrives, once or again, or is lost.
func (p *pair) some(m *mix) {
	switch kind := m.below(6); {
	case kind == 0:
		p.ask(m.below(2))
	case kind == 1 || len(p.wire) == 0:
		p.tick(m.below(2))
	case kind == 2:
		i := m.below(len(p.wire))
		p.wire = slices.Delete(p.wire, i, i+1)
	default:
		p.arrive(m.below(len(p.wire)), kind == 3 && len(p.wire) < 20)
	}
}

// 25.5: two nodes settle on their greatest common version and on no other one, whatever is lost, duplicated or delayed; without a common version neither settles. Once nothing is lost any more, both have an end.
func TestBothSides(t *testing.T) {
	m := mix(255)
	ends := map[int]int{}
	for round := range 3000 {
		p := &pair{t: t, own: [2]uint16{uint16(m.next() >> 20), uint16(m.next() >> 20)}}
		if round%3 == 0 {
			p.own[1] = ^p.own[0] & uint16(m.next()>>20)
		}
		for range 40 {
			p.some(&m)
			p.check()
		}
		p.ask(0)
		for range 4 {
			p.tick(0)
			p.tick(1)
			for len(p.wire) > 0 {
				p.arrive(m.below(len(p.wire)), false)
				p.check()
			}
		}
		if p.talks[0].State != p.talks[1].State || p.talks[0].Version != p.talks[1].Version {
			t.Fatalf("the ends differ: %v", p.talks)
		}
		if p.talks[0].Version != vers.Best(p.own[0], p.own[1]) {
			t.Fatalf("the end is %v, with %v", p.talks, p.own)
		}
		ends[p.talks[0].State]++
	}
	if ends[api.Settled] == 0 || ends[api.Refused] == 0 || len(ends) != 2 {
		t.Errorf("the ends are %v", ends)
	}
}

// 25.1 to 25.4: calls with the same arguments have the same results, whatever was called between them (R5).
func TestSameResults(t *testing.T) {
	m := mix(251)
	for range 500 {
		talk := full(m.below(4), m.below(6)-1)
		own, theirs := uint16(m.next()>>20), uint16(m.next()>>20)
		asked, asks := Ask(talk)
		heard, answers := Hear(talk, own, theirs, own > theirs)
		later, due := Tick(talk)
		Read([]byte{3})
		Hello(own, true)
		Hear(asked, theirs, own, false)
		askedAgain, asksAgain := Ask(talk)
		heardAgain, answersAgain := Hear(talk, own, theirs, own > theirs)
		laterAgain, dueAgain := Tick(talk)
		if !reflect.DeepEqual(asked, askedAgain) || !reflect.DeepEqual(heard, heardAgain) || !reflect.DeepEqual(later, laterAgain) {
			t.Fatalf("another talk for %v", talk)
		}
		if asks != asksAgain || answers != answersAgain || due != dueAgain {
			t.Fatalf("another answer for %v", talk)
		}
	}
}
