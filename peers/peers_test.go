package peers

import (
	"fmt"
	"math"
	"math/big"
	"slices"
	"sort"
	"testing"

	"annulet/api"
)

// mix is a row of numbers without any plain order, the same ones each time.
type mix uint64

func (m *mix) next() uint64 {
	x := uint64(*m)
	x ^= x << 13
	x ^= x >> 7
	x ^= x << 17
	*m = mix(x)
	return x
}

func (m *mix) below(n int) int {
	return int((m.next() >> 20) % uint64(n))
}

// id is one of a few identifiers, so that equal ones are frequent, or one at an end of the numbers.
func (m *mix) id() uint64 {
	ends := []uint64{0, 1, math.MaxUint64, math.MaxUint64 - 1, 1 << 63, 1<<63 - 1}
	if m.below(3) == 0 {
		return ends[m.below(len(ends))]
	}
	return uint64(m.below(24))
}

func (m *mix) peer() api.Peer {
	return api.Peer{ID: m.id(), Addr: uint16(m.below(24))}
}

func (m *mix) misses() int {
	odd := []int{-1, 3, 4, -7, math.MinInt, math.MaxInt, math.MaxInt - 1}
	if m.below(6) == 0 {
		return odd[m.below(len(odd))]
	}
	return m.below(3)
}

// list is any row of entries: in no order, with addresses that occur twice, that of the node itself among them.
func (m *mix) list(most int) []api.Entry {
	var l []api.Entry
	for range m.below(most + 1) {
		l = append(l, api.Entry{Peer: m.peer(), Misses: m.misses()})
	}
	return l
}

// valid is a valid list, for about one half of the calls with as many entries as there can be.
func (m *mix) valid(me api.Peer) []api.Entry {
	n := m.below(31)
	var l []api.Entry
	used := map[uint16]bool{me.Addr: true}
	for len(l) < min(n, 15) {
		p := m.peer()
		if used[p.Addr] {
			continue
		}
		used[p.Addr] = true
		l = append(l, api.Entry{Peer: p, Misses: m.below(3)})
	}
	sort.Slice(l, func(i, j int) bool { return precedes(me, l[i].Peer, l[j].Peer) })
	return l
}

// way is the ring distance by the words of chapter 3, with numbers of any size.
func way(a, b uint64) *big.Int {
	n := new(big.Int).Sub(new(big.Int).SetUint64(b), new(big.Int).SetUint64(a))
	if n.Sign() < 0 {
		n.Add(n, new(big.Int).Lsh(big.NewInt(1), 64))
	}
	return n
}

// precedes is Ahead by the words of the chapter.
func precedes(me, a, b api.Peer) bool {
	switch way(me.ID, a.ID).Cmp(way(me.ID, b.ID)) {
	case -1:
		return true
	case 0:
		return a.Addr < b.Addr
	}
	return false
}

// fault says in which way a list is not valid; it is empty for a valid one.
func fault(me api.Peer, l []api.Entry) string {
	if len(l) > 15 {
		return "more than 15"
	}
	count := map[uint16]int{}
	for i, e := range l {
		count[e.Peer.Addr]++
		switch {
		case i+1 < len(l) && !precedes(me, e.Peer, l[i+1].Peer):
			return "order"
		case count[e.Peer.Addr] > 1:
			return "twice"
		case e.Peer.Addr == me.Addr:
			return "me"
		case e.Misses != 0 && e.Misses != 1 && e.Misses != 2:
			return "misses"
		}
	}
	return ""
}

func placeByWords(l []api.Entry, addr uint16) int {
	for i := range l {
		if l[i].Peer.Addr == addr {
			return i
		}
	}
	return -1
}

func dropByWords(l []api.Entry, addr uint16) []api.Entry {
	var rest []api.Entry
	for _, e := range l {
		if e.Peer.Addr != addr {
			rest = append(rest, e)
		}
	}
	return rest
}

func addByWords(me api.Peer, l []api.Entry, p api.Peer) []api.Entry {
	if p.Addr == me.Addr {
		return l
	}
	if i := placeByWords(l, p.Addr); i >= 0 && l[i].Peer.ID == p.ID {
		same := append([]api.Entry{}, l...)
		same[i].Misses = 0
		return same
	}
	var more []api.Entry
	in := false
	for _, e := range dropByWords(l, p.Addr) {
		if !in && precedes(me, p, e.Peer) {
			more = append(more, api.Entry{Peer: p})
			in = true
		}
		more = append(more, e)
	}
	if !in {
		more = append(more, api.Entry{Peer: p})
	}
	if len(more) > 15 {
		more = more[:len(more)-1]
	}
	return more
}

func missByWords(l []api.Entry, addr uint16) []api.Entry {
	at := placeByWords(l, addr)
	var rest []api.Entry
	for i, e := range l {
		if i == at {
			n := big.NewInt(1)
			if e.Misses > 0 {
				n.Add(n, big.NewInt(int64(e.Misses)))
			}
			if n.Cmp(big.NewInt(3)) >= 0 {
				continue
			}
			e.Misses = int(n.Int64())
		}
		rest = append(rest, e)
	}
	return rest
}

func ownerByWords(me api.Peer, l []api.Entry, key uint64) api.Peer {
	best := me
	for _, e := range l {
		if e.Misses > 0 {
			continue
		}
		if way(key, e.Peer.ID).Cmp(way(key, best.ID)) < 0 {
			best = e.Peer
		}
	}
	return best
}

// lists calls f for mixed nodes and lists, valid ones and any others.
func lists(rounds int, f func(m *mix, me api.Peer, l []api.Entry)) {
	m := mix(27)
	for i := range rounds {
		me := m.peer()
		if i%2 == 0 {
			f(&m, me, m.valid(me))
		} else {
			f(&m, me, m.list(22))
		}
	}
}

// entry is a firm entry.
func entry(id uint64, addr uint16) api.Entry {
	return api.Entry{Peer: api.Peer{ID: id, Addr: addr}}
}

// 27.1: a peer precedes another one by its distance from me's ID, and with the same distance by its Addr.
func TestAheadExamples(t *testing.T) {
	me := api.Peer{ID: 10, Addr: 9}
	p := func(id uint64, addr uint16) api.Peer { return api.Peer{ID: id, Addr: addr} }
	for _, c := range []struct {
		a, b api.Peer
		want bool
	}{
		{p(12, 5), p(5, 1), true}, // the chapter's example
		{p(5, 1), p(12, 5), false},
		{p(10, 7), p(11, 1), true}, // me's own ID is the nearest one
		{p(9, 1), p(10, 7), false}, // and the one below it the farthest one
		{p(math.MaxUint64, 2), p(0, 1), true},
		{p(12, 1), p(12, 2), true},
		{p(12, 2), p(12, 1), false},
		{p(12, 2), p(12, 2), false},
		{p(12, 65535), p(12, 0), false},
		{p(12, 0), p(12, 65535), true},
	} {
		if got := Ahead(me, c.a, c.b); got != c.want {
			t.Errorf("%v ahead of %v: %v", c.a, c.b, got)
		}
	}
}

// 27.1: Ahead by the chapter's words; of two different peers exactly one precedes the other one, whatever me's Addr is.
func TestAheadMixed(t *testing.T) {
	m := mix(1)
	for range 20000 {
		me, a, b := m.peer(), m.peer(), m.peer()
		got := Ahead(me, a, b)
		if got != precedes(me, a, b) {
			t.Fatalf("me %v: %v ahead of %v: %v", me, a, b, got)
		}
		if a != b && got == Ahead(me, b, a) {
			t.Fatalf("me %v: %v and %v are not in one order", me, a, b)
		}
		me.Addr++
		if Ahead(me, a, b) != got {
			t.Fatalf("me's Addr %d matters", me.Addr)
		}
	}
}

// 27.1: Right accepts empty, ordered and full lists, and refuses each of the chapter's faults by itself.
func TestRightExamples(t *testing.T) {
	me := api.Peer{ID: 10, Addr: 9}
	good := []api.Entry{entry(10, 3), entry(12, 7), entry(12, 8), entry(5, 1)}
	good[0].Misses, good[1].Misses = 2, 1
	for name, l := range map[string][]api.Entry{"nil": nil, "empty": {}, "one": good[:1], "four": good} {
		if !Right(me, l) {
			t.Errorf("%s: refused", name)
		}
	}
	for name, change := range map[string]func(l []api.Entry){
		"the order of the distances": func(l []api.Entry) { l[0], l[1] = l[1], l[0] },
		"the order of the addresses": func(l []api.Entry) { l[1].Peer.Addr = 80 },
		"the last two":               func(l []api.Entry) { l[2], l[3] = l[3], l[2] },
		"an entry twice":             func(l []api.Entry) { l[1] = l[0] },
		"an Addr twice":              func(l []api.Entry) { l[3].Peer.Addr = 3 },
		"me's Addr at first":         func(l []api.Entry) { l[0].Peer.Addr = 9 },
		"me's Addr at last":          func(l []api.Entry) { l[3].Peer.Addr = 9 },
		"me itself":                  func(l []api.Entry) { l[0].Peer = me },
		"Misses of 3":                func(l []api.Entry) { l[3].Misses = 3 },
		"Misses of -1":               func(l []api.Entry) { l[0].Misses = -1 },
		"the greatest Misses":        func(l []api.Entry) { l[2].Misses = math.MaxInt },
		"the least Misses":           func(l []api.Entry) { l[2].Misses = math.MinInt },
	} {
		l := slices.Clone(good)
		change(l)
		if Right(me, l) {
			t.Errorf("%s: accepted", name)
		}
	}
}

// 27.1: a valid list has at most 15 entries.
func TestRightLength(t *testing.T) {
	var l []api.Entry
	for i := range 40 {
		if got := Right(api.Peer{}, l); got != (i <= 15) {
			t.Errorf("%d entries: %v", i, got)
		}
		l = append(l, entry(uint64(i), uint16(i+1)))
	}
}

// 27.1: Right by the chapter's words, also for valid lists of which one entry was changed.
func TestRightMixed(t *testing.T) {
	seen := map[string]int{}
	lists(20000, func(m *mix, me api.Peer, l []api.Entry) {
		if len(l) > 0 && m.below(2) == 0 {
			e := &l[m.below(len(l))]
			switch m.below(4) {
			case 0:
				e.Peer.ID = m.id()
			case 1:
				e.Peer.Addr = uint16(m.below(24))
			case 2:
				e.Misses = m.misses()
			case 3:
				l = append(l, api.Entry{Peer: m.peer()})
			}
		}
		why := fault(me, l)
		seen[why]++
		if Right(me, l) != (why == "") {
			t.Fatalf("me %v: %v: %v, but %q", me, l, Right(me, l), why)
		}
	})
	if len(seen) != 6 {
		t.Errorf("not all faults came up: %v", seen)
	}
}

// 27.1: Place finds the first entry with the address, whatever else it has, or none.
func TestPlace(t *testing.T) {
	l := []api.Entry{entry(5, 1), entry(6, 2), entry(1, 2), entry(2, 65535)}
	for addr, want := range map[uint16]int{1: 0, 2: 1, 65535: 3, 5: -1, 0: -1} {
		if got := Place(l, addr); got != want {
			t.Errorf("%d: %d", addr, got)
		}
	}
	if Place(nil, 0) != -1 {
		t.Error("found in no list")
	}
	lists(3000, func(m *mix, me api.Peer, l []api.Entry) {
		for addr := range uint16(25) {
			if got := Place(l, addr); got != placeByWords(l, addr) {
				t.Fatalf("%v, %d: %d", l, addr, got)
			}
		}
	})
}

// 27.2: each case of Add, with lists that are written out.
func TestAddExamples(t *testing.T) {
	me := api.Peer{ID: 10, Addr: 9}
	a, b, c := entry(12, 2), entry(5, 3), entry(12, 4)
	late := a
	late.Misses = 2
	other := entry(7, 2)
	twice := []api.Entry{late, b, other}
	for name, w := range map[string]struct {
		l    []api.Entry
		p    api.Entry
		want []api.Entry
	}{
		"to none":                  {nil, a, []api.Entry{a}},
		"me":                       {[]api.Entry{late, b}, api.Entry{Peer: me}, []api.Entry{late, b}},
		"me's Addr":                {[]api.Entry{late, b}, entry(11, 9), []api.Entry{late, b}},
		"me's Addr, in the list":   {[]api.Entry{entry(11, 9), a}, entry(12, 9), []api.Entry{entry(11, 9), a}},
		"known":                    {[]api.Entry{late, b}, a, []api.Entry{a, b}},
		"known, first of two":      {twice, a, []api.Entry{a, b, other}},
		"another one, first":       {[]api.Entry{other, b, late}, a, []api.Entry{a, b}},
		"another ID":               {[]api.Entry{late, b}, entry(7, 2), []api.Entry{b, entry(7, 2)}},
		"in front":                 {[]api.Entry{b}, a, []api.Entry{a, b}},
		"at the end":               {[]api.Entry{a}, b, []api.Entry{a, b}},
		"same ID, greater Addr":    {[]api.Entry{a, b}, c, []api.Entry{a, c, b}},
		"same ID, smaller Addr":    {[]api.Entry{c, b}, a, []api.Entry{a, c, b}},
		"before the first, though": {[]api.Entry{b, a}, c, []api.Entry{c, b, a}},
	} {
		if got := Add(me, w.l, w.p.Peer); !slices.Equal(got, w.want) {
			t.Errorf("%s: %v, not %v", name, got, w.want)
		}
	}
}

// full is a valid list of 15 entries for the node with the ID 0 and the Addr 0: the IDs and Addrs 10, 20, .. 150.
func full() []api.Entry {
	var l []api.Entry
	for i := 10; i <= 150; i += 10 {
		l = append(l, entry(uint64(i), uint16(i)))
	}
	return l
}

// 27.2: of more than 15 entries the last one is removed, which can be p, and no other one even if the list was longer.
func TestAddBeyondTheLimit(t *testing.T) {
	me := api.Peer{}
	for id := uint64(1); id < 200; id++ {
		if id%10 == 0 {
			continue
		}
		p := api.Peer{ID: id, Addr: 200}
		l := Add(me, full(), p)
		if len(l) != 15 || (Place(l, 200) >= 0) != (id < 150) || (Place(l, 150) >= 0) != (id > 150) {
			t.Errorf("%d: %v", id, l)
		}
	}
	if l := Add(me, full(), api.Peer{ID: 1, Addr: 70}); len(l) != 15 || l[0].Peer.ID != 1 || l[14].Peer.ID != 150 {
		t.Errorf("another ID at a known address: %v", l)
	}
	long := append(full(), entry(160, 160), entry(170, 170), entry(180, 180))
	long[17].Misses = 1
	if l := Add(me, long, long[17].Peer); len(l) != 18 || l[17].Misses != 0 {
		t.Errorf("known, in a list that is too long: %v", l)
	}
	if l := Add(me, long, api.Peer{ID: 1, Addr: 1}); len(l) != 18 || l[17].Peer.ID != 170 {
		t.Errorf("new, in a list that is too long: %v", l)
	}
	if l := Add(me, long, api.Peer{Addr: 0}); len(l) != 18 {
		t.Errorf("me, with a list that is too long: %v", l)
	}
}

// 27.2: Add by the chapter's words.
func TestAddMixed(t *testing.T) {
	lists(20000, func(m *mix, me api.Peer, l []api.Entry) {
		p := m.peer()
		if len(l) > 0 && m.below(3) == 0 {
			p = l[m.below(len(l))].Peer
		}
		if got, want := Add(me, l, p), addByWords(me, l, p); !slices.Equal(got, want) {
			t.Fatalf("me %v, %v and %v: %v, not %v", me, l, p, got, want)
		}
	})
}

// 27.3: the chapter's example, and Misses that no valid list has.
func TestMissExamples(t *testing.T) {
	l := []api.Entry{entry(12, 2), entry(5, 3), entry(6, 2)}
	for _, want := range []int{1, 2} {
		l = Miss(l, 2)
		if len(l) != 3 || l[0].Misses != want || l[1].Misses != 0 || l[2].Misses != 0 {
			t.Fatalf("%d: %v", want, l)
		}
	}
	if l = Miss(l, 2); !slices.Equal(l, []api.Entry{entry(5, 3), entry(6, 2)}) {
		t.Errorf("after the third call: %v", l)
	}
	if got := Miss(l, 7); !slices.Equal(got, l) {
		t.Errorf("nobody at the address: %v", got)
	}
	if got := Miss(nil, 0); len(got) != 0 {
		t.Errorf("no list: %v", got)
	}
	for misses, want := range map[int]int{-1: 1, -2: 1, math.MinInt: 1, 0: 1, 1: 2, 2: -1, 3: -1, 9: -1, math.MaxInt: -1} {
		e := entry(5, 3)
		e.Misses = misses
		got := Miss([]api.Entry{entry(4, 4), e}, 3)
		if want < 0 && len(got) != 1 || want >= 0 && (len(got) != 2 || got[1].Misses != want) {
			t.Errorf("Misses of %d: %v", misses, got)
		}
	}
}

// 27.3: Miss and Drop by the chapter's words.
func TestMissAndDropMixed(t *testing.T) {
	lists(5000, func(m *mix, me api.Peer, l []api.Entry) {
		addr := uint16(m.below(25))
		if got, want := Miss(l, addr), missByWords(l, addr); !slices.Equal(got, want) {
			t.Fatalf("%v without an answer of %d: %v, not %v", l, addr, got, want)
		}
		if got, want := Drop(l, addr), dropByWords(l, addr); !slices.Equal(got, want) {
			t.Fatalf("%v without %d: %v, not %v", l, addr, got, want)
		}
	})
}

// 27.3: Drop removes all entries with the address, in whatever order they stand, and no others.
func TestDropExamples(t *testing.T) {
	l := []api.Entry{entry(5, 1), entry(6, 2), entry(1, 1), entry(2, 0), entry(5, 1)}
	if got := Drop(l, 1); !slices.Equal(got, []api.Entry{entry(6, 2), entry(2, 0)}) {
		t.Errorf("%v", got)
	}
	if got := Drop(l, 5); !slices.Equal(got, l) {
		t.Errorf("nobody at the address: %v", got)
	}
	if got := Drop(nil, 0); len(got) != 0 {
		t.Errorf("no list: %v", got)
	}
}

// 27.4: the firm entries are those whose Misses are not greater than 0; All takes the others too.
func TestFirmAndAll(t *testing.T) {
	l := []api.Entry{entry(5, 1), entry(3, 2), entry(9, 3), entry(1, 4), entry(2, 5), entry(7, 6)}
	for i, misses := range []int{0, 1, -1, 2, math.MinInt, math.MaxInt} {
		l[i].Misses = misses
	}
	if got := Firm(l); !slices.Equal(got, []api.Peer{l[0].Peer, l[2].Peer, l[4].Peer}) {
		t.Errorf("firm: %v", got)
	}
	if len(Firm(nil)) != 0 || len(All(nil)) != 0 {
		t.Error("somebody of no list")
	}
	lists(3000, func(m *mix, me api.Peer, l []api.Entry) {
		var firm, all []api.Peer
		for _, e := range l {
			all = append(all, e.Peer)
			if !(e.Misses > 0) {
				firm = append(firm, e.Peer)
			}
		}
		if !slices.Equal(Firm(l), firm) || !slices.Equal(All(l), all) {
			t.Fatalf("%v: %v, %v", l, Firm(l), All(l))
		}
	})
}

// 27.4: the chapter's example, and who is the owner of several with the same distance.
func TestOwnerExamples(t *testing.T) {
	me := api.Peer{ID: 10, Addr: 1}
	l := []api.Entry{entry(12, 2), entry(5, 3)}
	for key, want := range map[uint64]api.Peer{11: l[0].Peer, 12: l[0].Peer, 13: l[1].Peer, 5: l[1].Peer, 6: me, 10: me} {
		if got := Owner(me, l, key); got != want {
			t.Errorf("%d: %v", key, got)
		}
	}
	l[0].Misses = 1
	if got := Owner(me, l, 11); got != l[1].Peer {
		t.Errorf("the nearest one is suspected: %v", got)
	}
	if got := Owner(me, nil, 11); got != me {
		t.Errorf("nobody is known: %v", got)
	}
	equal := []api.Entry{entry(10, 0), entry(3, 9), entry(3, 4)}
	if got := Owner(me, equal, 10); got != me {
		t.Errorf("the same ID as me: %v", got)
	}
	if got := Owner(me, equal, 3); got != equal[1].Peer {
		t.Errorf("the same ID twice: %v", got)
	}
	if got := Owner(me, []api.Entry{entry(4, 1)}, 4); got != (api.Peer{ID: 4, Addr: 1}) {
		t.Errorf("me's Addr: %v", got)
	}
}

// 27.4: Owner by the chapter's words.
func TestOwnerMixed(t *testing.T) {
	lists(20000, func(m *mix, me api.Peer, l []api.Entry) {
		key := m.id()
		if got, want := Owner(me, l, key), ownerByWords(me, l, key); got != want {
			t.Fatalf("me %v, %v, key %d: %v, not %v", me, l, key, got, want)
		}
	})
}

// 27.5: rows of calls never make a valid list an invalid one.
func TestValidStaysValid(t *testing.T) {
	m := mix(5)
	longest := 0
	for range 300 {
		me := m.peer()
		var l []api.Entry
		for range 120 {
			before := fmt.Sprint(l)
			switch addr := uint16(m.below(24)); m.below(8) {
			case 0, 1:
				l = Miss(l, addr)
			case 2:
				if m.below(4) == 0 {
					l = Drop(l, addr)
				}
			default:
				l = Add(me, l, m.peer())
			}
			longest = max(longest, len(l))
			if !Right(me, l) || fault(me, l) != "" {
				t.Fatalf("me %v: %s became %v: %s", me, before, l, fault(me, l))
			}
		}
	}
	if longest != 15 {
		t.Errorf("no list was full, but one had %d entries", longest)
	}
}

// 27.5: a peer that was added is in the list, firm, if fewer than 15 others precede it.
func TestAddedIsThere(t *testing.T) {
	in, out := 0, 0
	m := mix(8)
	for range 10000 {
		me := m.peer()
		l := m.valid(me)
		p := m.peer()
		if p.Addr == me.Addr {
			continue
		}
		ahead := 0
		for _, e := range l {
			if e.Peer.Addr != p.Addr && precedes(me, e.Peer, p) {
				ahead++
			}
		}
		got := slices.Contains(Add(me, l, p), api.Entry{Peer: p})
		if got != (ahead < 15) {
			t.Fatalf("me %v, %v: %v is there: %v", me, l, p, got)
		}
		if got {
			in++
		} else {
			out++
		}
	}
	if in == 0 || out == 0 {
		t.Errorf("%d are there, %d are not", in, out)
	}
}

// R4: no function changes its list, not even behind its end, and no result shares memory with it.
func TestMemory(t *testing.T) {
	me := api.Peer{ID: 10, Addr: 9}
	calls := map[string]func(l []api.Entry) []api.Entry{
		"add me":          func(l []api.Entry) []api.Entry { return Add(me, l, me) },
		"add known":       func(l []api.Entry) []api.Entry { return Add(me, l, l[0].Peer) },
		"add another ID":  func(l []api.Entry) []api.Entry { return Add(me, l, api.Peer{ID: 4, Addr: 2}) },
		"add in front":    func(l []api.Entry) []api.Entry { return Add(me, l, api.Peer{ID: 10, Addr: 8}) },
		"add at the end":  func(l []api.Entry) []api.Entry { return Add(me, l, api.Peer{ID: 9, Addr: 8}) },
		"miss":            func(l []api.Entry) []api.Entry { return Miss(l, 2) },
		"miss and remove": func(l []api.Entry) []api.Entry { return Miss(l, 3) },
		"miss nobody":     func(l []api.Entry) []api.Entry { return Miss(l, 7) },
		"drop":            func(l []api.Entry) []api.Entry { return Drop(l, 2) },
		"drop nobody":     func(l []api.Entry) []api.Entry { return Drop(l, 7) },
	}
	for name, call := range calls {
		l := make([]api.Entry, 3, 20)
		l[0], l[1], l[2] = entry(12, 2), entry(13, 3), entry(5, 4)
		l[0].Misses, l[1].Misses = 1, 2
		before := slices.Clone(l[:20])
		got := call(l)
		if !slices.Equal(l[:20], before) {
			t.Errorf("%s: the argument became %v", name, l[:20])
		}
		if !slices.Equal(got, call(l)) {
			t.Errorf("%s: another result the second time", name)
		}
		was := slices.Clone(got)
		for i := range 20 {
			l[:20][i] = entry(99, 99)
		}
		if !slices.Equal(got, was) {
			t.Errorf("%s: the result became %v", name, got)
		}
	}
}
