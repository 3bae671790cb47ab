package msg

import (
	"fmt"
	"math"
	"reflect"
	"slices"
	"strconv"
	"strings"
	"testing"
	"unicode/utf8"

	"annulet/api"
)

// table is the table of the chapter, word by word: the columns are named by columns.
const table = `
| KFind 1 | find | | | yes | | | | | | hop, nay |
| KHop 2 | hop | | yes | | | yes | | | | |
| KAsk 3 | ask | | | | | | | | | tell |
| KTell 4 | tell | | yes | | if Has | yes | | | | |
| KNote 5 | note | | | | yes | | | | | okay |
| KOkay 6 | okay | | | | | | | | | |
| KPut 7 | put | | | | | | yes | yes | | okay, nay |
| KGet 8 | get | | | | | | yes | | | got, nay |
| KGot 9 | got | | yes | | | | | if Has | | |
| KMove 10 | move | | yes | | | | | | yes | okay |
| KPing 11 | ping | | | | | | | | | okay |
| KNay 12 | nay | yes | | | | | | | | |
`

var columns = []string{"Code", "Has", "ID", "Peer", "Peers", "Key", "Val", "Pairs"}

// row is a line of the table; cells are those of the columns.
type row struct {
	name    string
	cells   map[string]string
	replies []string
}

var rows = readTable()

func readTable() map[int]row {
	all := map[int]row{}
	for _, line := range strings.Split(strings.TrimSpace(table), "\n") {
		cells := strings.Split(strings.Trim(line, "|"), "|")
		for i := range cells {
			cells[i] = strings.TrimSpace(cells[i])
		}
		_, digits, _ := strings.Cut(cells[0], " ")
		number, err := strconv.Atoi(digits)
		if err != nil || len(cells) != len(columns)+3 {
			panic("a bad line: " + line)
		}
		r := row{name: cells[1], cells: map[string]string{}}
		for i, c := range columns {
			r.cells[c] = cells[2+i]
		}
		if last := cells[len(cells)-1]; last != "" {
			r.replies = strings.Split(last, ", ")
		}
		all[number] = r
	}
	return all
}

// ints are all the kinds, and what is none: the neighbours, numbers whose low bits are a kind's, the edges.
func ints() []int {
	l := []int{math.MinInt, math.MinInt + 1, math.MaxInt, math.MaxInt - 1, 1<<32 + 1, 1<<32 + 11, 1<<8 + 7, 1<<16 + 3, -1 << 32, 1 << 62, 63, 64, 65}
	for i := -20; i < 45; i++ {
		l = append(l, i)
	}
	return l
}

// kindNumbers are the twelve, in their order.
func kindNumbers() []int {
	var l []int
	for k := 1; k <= 12; k++ {
		l = append(l, k)
	}
	return l
}

// show keeps what a failed test prints short.
func show(m api.Msg) string {
	s := fmt.Sprintf("%+v", m)
	if len(s) > 400 {
		return s[:400] + " and more"
	}
	return s
}

// field is m's field of that name.
func field(m *api.Msg, name string) reflect.Value {
	return reflect.ValueOf(m).Elem().FieldByName(name)
}

// isZero follows the words of 8.2: an empty slice is zero too.
func isZero(m api.Msg, name string) bool {
	f := field(&m, name)
	if f.Kind() == reflect.Slice {
		return f.Len() == 0
	}
	return f.IsZero()
}

// owns tells whether the kind of m has the field, by the table.
func owns(m api.Msg, name string) bool {
	switch rows[m.Kind].cells[name] {
	case "yes":
		return true
	case "if Has":
		return m.Has
	}
	return false
}

// isKey follows the words of the chapter, with the library's division of strings.
func isKey(s string) bool {
	runes := utf8.RuneCountInString(s)
	return runes >= 1 && runes <= 32 && utf8.ValidString(s) && len(s) <= 96
}

// faults follows the words of 8.2: all errors that apply, in the order of the list.
func faults(m api.Msg) []api.Errno {
	var l []api.Errno
	add := func(err api.Errno, applies bool) {
		if applies {
			l = append(l, err)
		}
	}
	_, known := rows[m.Kind]
	add(api.ErrKind, !known)
	for _, c := range columns {
		add(api.ErrArg, !owns(m, c) && !isZero(m, c))
	}
	add(api.ErrText, owns(m, "Key") && !isKey(m.Key))
	for _, p := range m.Pairs {
		add(api.ErrText, owns(m, "Pairs") && !isKey(p.Key))
	}
	add(api.ErrLong, len(m.Val) > 512)
	for _, p := range m.Pairs {
		add(api.ErrLong, len(p.Val) > 512)
	}
	add(api.ErrLong, len(m.Peers) > 16)
	add(api.ErrLong, len(m.Pairs) > 8)
	add(api.ErrShort, rows[m.Kind].name == "hop" && len(m.Peers) == 0)
	add(api.ErrShort, rows[m.Kind].name == "move" && len(m.Pairs) == 0)
	add(api.ErrShort, rows[m.Kind].name == "nay" && m.Code == 0)
	return l
}

// right follows the words of 8.2: the first of the errors.
func right(m api.Msg) api.Errno {
	if l := faults(m); len(l) > 0 {
		return l[0]
	}
	return api.OK
}

// bare follows the words of 8.3.
func bare(m api.Msg) api.Msg {
	b := m
	for _, c := range columns {
		if !owns(m, c) {
			field(&b, c).SetZero()
		}
	}
	return b
}

// plain makes empty slices nil, so that DeepEqual takes them for equal (R3).
func plain(m api.Msg) api.Msg {
	if len(m.Peers) == 0 {
		m.Peers = nil
	}
	if len(m.Pairs) == 0 {
		m.Pairs = nil
	}
	return m
}

// same follows the words of 8.3.
func same(a, b api.Msg) bool {
	return reflect.DeepEqual(plain(a), plain(b))
}

// deep is a copy that shares nothing with m, made without the package.
func deep(m api.Msg) api.Msg {
	m.Peers = append([]api.Peer(nil), m.Peers...)
	m.Pairs = append([]api.Pair(nil), m.Pairs...)
	m.Key, m.Val = strings.Clone(m.Key), strings.Clone(m.Val)
	return m
}

// somePeers are count peers that differ.
func somePeers(count int) []api.Peer {
	l := make([]api.Peer, count)
	for i := range l {
		l[i] = api.Peer{ID: uint64(i) << 60, Addr: uint16(i)}
	}
	return l
}

// somePairs are count pairs that differ; the first one's value is empty.
func somePairs(count int) []api.Pair {
	l := make([]api.Pair, count)
	for i := range l {
		l[i] = api.Pair{Key: "k" + strconv.Itoa(i), Val: strings.Repeat("v", i)}
	}
	return l
}

// put sets the pair at that index.
func put(l []api.Pair, at int, p api.Pair) []api.Pair {
	l[at] = p
	return l
}

// full is a message of the kind with all fields set, its own and those of others.
func full(kind int) api.Msg {
	return api.Msg{
		Kind: kind, Rid: 4000000000, Code: 200, Has: true, ID: math.MaxUint64, Key: "key", Val: "value",
		Peer: api.Peer{ID: 1 << 63, Addr: 65535}, Peers: somePeers(3), Pairs: somePairs(3),
	}
}

// valid is a message of the kind with just its fields, which the kinds with "if Has" have with and without it.
func valid(kind int, hasIt bool) api.Msg {
	m := full(kind)
	m.Has = m.Has && hasIt
	return bare(m)
}

// eachMessage yields messages of all kinds and of some that are none, in which each field has each of its choices beside each of the others'.
func eachMessage(f func(api.Msg)) {
	long, tooLong := strings.Repeat("v", 512), strings.Repeat("v", 513)
	badKey := api.Pair{Key: "\xff", Val: "v"}
	var peersOf = [][]api.Peer{nil, {}, {{}}, somePeers(1), somePeers(16), somePeers(17)}
	var pairsOf = [][]api.Pair{
		nil, {}, {{Key: "k"}}, somePairs(8), somePairs(9), {{}},
		put(somePairs(8), 7, badKey), put(somePairs(9), 8, badKey),
		put(somePairs(2), 1, api.Pair{Key: "k", Val: long}), put(somePairs(2), 1, api.Pair{Key: "k", Val: tooLong}),
		{{Key: "k", Val: tooLong}, badKey},
	}
	for kind := range 14 {
		for _, code := range []uint8{0, 200} {
			for choice := range 16 {
				m := api.Msg{Kind: kind, Rid: uint32(choice) << 28, Code: code, Has: choice&1 != 0, ID: uint64(choice & 2)}
				m.Peer = api.Peer{ID: uint64(choice & 4), Addr: uint16(choice & 8)}
				for _, m.Key = range []string{"", "k", "\xff", strings.Repeat("k", 33)} {
					for _, m.Val = range []string{"", "v", long, tooLong} {
						for _, m.Peers = range peersOf {
							for _, m.Pairs = range pairsOf {
								f(m)
							}
						}
					}
				}
			}
		}
	}
}

// checkKey holds Key to the words of the chapter.
func checkKey(t *testing.T, s string) {
	t.Helper()
	if got, want := Key(s), isKey(s); got != want {
		t.Fatalf("Key(%q) = %t, want %t", s, got, want)
	}
}

// checkRight holds Right to the words of the chapter.
func checkRight(t *testing.T, m api.Msg) {
	t.Helper()
	if got, want := Right(m), right(m); got != want {
		t.Fatalf("Right(%s) = %d, want %d", show(m), got, want)
	}
}

// combine yields all strings of that length over the alphabet.
func combine(alphabet []string, length int, f func(string)) {
	if length == 0 {
		f("")
		return
	}
	combine(alphabet, length-1, func(s string) {
		for _, c := range alphabet {
			f(s + c)
		}
	})
}

// 8.1: the chapter's examples and keys that are judged here; ends of runes' lengths, of 32 runes and of 96 bytes.
func TestKey(t *testing.T) {
	r1, r2, r3, r4 := "k", "\u00e9", "\u20ac", "\U0001f511"
	for _, c := range []struct {
		name string
		s    string
		want bool
	}{
		{"one rune of one byte", r1, true},
		{"the empty string", "", false},
		{"one rune of two bytes", r2, true},
		{"one rune of three bytes", r3, true},
		{"one rune of four bytes", r4, true},
		{"the byte 0", "\x00", true},
		{"a blank", " ", true},
		{"a line feed", "\n", true},
		{"the byte 127", "\x7f", true},
		{"a percent sign", "%", true},
		{"the rune U+FFFD itself", "\ufffd", true},
		{"the greatest rune", "\U0010ffff", true},
		{"31 runes", strings.Repeat(r1, 31), true},
		{"32 runes", strings.Repeat(r1, 32), true},
		{"33 runes", strings.Repeat(r1, 33), false},
		{"32 runes of two bytes", strings.Repeat(r2, 32), true},
		{"33 runes of two bytes", strings.Repeat(r2, 33), false},
		{"32 runes of three bytes: 96 bytes", strings.Repeat(r3, 32), true},
		{"33 runes of three bytes", strings.Repeat(r3, 33), false},
		{"24 runes of four bytes: 96 bytes", strings.Repeat(r4, 24), true},
		{"25 runes, 97 bytes", strings.Repeat(r4, 24) + r1, false},
		{"25 runes of four bytes", strings.Repeat(r4, 25), false},
		{"32 runes of four bytes", strings.Repeat(r4, 32), false},
		{"32 runes, 96 bytes, of all lengths", strings.Repeat(r3, 30) + r2 + r4, true},
		{"32 runes, 97 bytes", strings.Repeat(r3, 31) + r4, false},
		{"96 runes", strings.Repeat(r1, 96), false},
		{"97 runes", strings.Repeat(r1, 97), false},
		{"many runes", strings.Repeat(r1, 1<<20), false},
		{"a stray byte 128", "\x80", false},
		{"a stray byte 255", "\xff", false},
		{"a surrogate", "\xed\xa0\x80", false},
		{"a rune in too many bytes", "\xc0\x80", false},
		{"a rune beyond the greatest", "\xf4\x90\x80\x80", false},
		{"32 stray bytes", strings.Repeat("\xff", 32), false},
		{"a stray byte behind 31 runes", strings.Repeat(r1, 31) + "\x80", false},
	} {
		if got := Key(c.s); got != c.want {
			t.Errorf("%s: Key = %t, want %t", c.name, got, c.want)
		}
		checkKey(t, c.s)
	}
}

// 8.1: a stray byte at any place among runes, in strings of all lengths up to the limit.
func TestKeyWithAStrayByte(t *testing.T) {
	for _, r := range []string{"k", "\u00e9", "\u20ac", "\U0001f511"} {
		for count := range 33 {
			for at := range count + 1 {
				for _, stray := range []string{"\x80", "\xbf", "\xc1", "\xe2", "\xf0", "\xff"} {
					s := strings.Repeat(r, at) + stray + strings.Repeat(r, count-at)
					if Key(s) {
						t.Fatalf("%q is a key", s)
					}
				}
			}
		}
	}
}

// 8.1: runes that are cut off, at the end and ahead of others, and ones whose first byte is missing.
func TestKeyWithACutRune(t *testing.T) {
	for _, r := range []string{"\u00e9", "\u20ac", "\U0001f511", "\U0010ffff", "\u0800", "\U00010000"} {
		for cut := 1; cut < len(r); cut++ {
			for _, s := range []string{r[:cut], "k" + r[:cut], r[:cut] + "k", r + r[:cut], r[:cut] + r, r[cut:], r[cut:] + r, "k" + r[cut:]} {
				if Key(s) {
					t.Fatalf("%q is a key", s)
				}
			}
		}
	}
}

// 8.1: all strings of up to two bytes, and longer ones of those at which runes begin and end.
func TestKeyOfShortStrings(t *testing.T) {
	var bytesOf []string
	for c := range 256 {
		bytesOf = append(bytesOf, string([]byte{byte(c)}))
	}
	check := func(s string) { checkKey(t, s) }
	for length := range 3 {
		combine(bytesOf, length, check)
	}
	edges := []string{"k", "\x80", "\x8f", "\x90", "\x9f", "\xa0", "\xbf", "\xc2", "\xdf", "\xe0", "\xed", "\xef", "\xf0", "\xf4", "\xf5"}
	for length := 3; length < 5; length++ {
		combine(edges, length, check)
	}
}

// 8.1: all mixtures of the four lengths, around 32 runes and around 96 bytes.
func TestKeyOfMixtures(t *testing.T) {
	for ones := range 36 {
		for twos := range 36 - ones {
			for threes := range 36 - ones - twos {
				for fours := range 36 - ones - twos - threes {
					checkKey(t, strings.Repeat("\U0001f511", fours)+strings.Repeat("k", ones)+strings.Repeat("\u20ac", threes)+strings.Repeat("\u00e9", twos))
				}
			}
		}
	}
}

// 8.2: the chapter's examples, and messages of each kind that are judged here, each with the error that it must get.
func TestRight(t *testing.T) {
	long, tooLong := strings.Repeat("v", 512), strings.Repeat("v", 513)
	some := api.Peer{ID: 1, Addr: 2}
	for _, c := range []struct {
		name string
		m    api.Msg
		want api.Errno
	}{
		{"a find with any ID", api.Msg{Kind: api.KFind, ID: 5}, api.OK},
		{"a find with the ID 0", api.Msg{Kind: api.KFind}, api.OK},
		{"a find with the greatest ID", api.Msg{Kind: api.KFind, Rid: math.MaxUint32, ID: math.MaxUint64}, api.OK},
		{"a got with a Val, without Has", api.Msg{Kind: api.KGot, Val: "v"}, api.ErrArg},
		{"a got with a Val and Has", api.Msg{Kind: api.KGot, Has: true, Val: "v"}, api.OK},
		{"a got with Has, without a Val", api.Msg{Kind: api.KGot, Has: true}, api.OK},
		{"a got without both", api.Msg{Kind: api.KGot}, api.OK},
		{"a hop without Peers", api.Msg{Kind: api.KHop}, api.ErrShort},
		{"a hop without Peers, but with Has", api.Msg{Kind: api.KHop, Has: true}, api.ErrShort},
		{"a hop with empty Peers", api.Msg{Kind: api.KHop, Peers: []api.Peer{}}, api.ErrShort},
		{"a hop with a Peer that is zero", api.Msg{Kind: api.KHop, Peers: []api.Peer{{}}}, api.OK},
		{"a hop with two equal Peers", api.Msg{Kind: api.KHop, Peers: []api.Peer{some, some}}, api.OK},
		{"a hop with 16 Peers", api.Msg{Kind: api.KHop, Has: true, Peers: somePeers(16)}, api.OK},
		{"a hop with 17 Peers", api.Msg{Kind: api.KHop, Peers: somePeers(17)}, api.ErrLong},
		{"an ask", api.Msg{Kind: api.KAsk}, api.OK},
		{"an ask with Has", api.Msg{Kind: api.KAsk, Has: true}, api.ErrArg},
		{"a tell without anything", api.Msg{Kind: api.KTell}, api.OK},
		{"a tell with Has and a Peer that is zero", api.Msg{Kind: api.KTell, Has: true}, api.OK},
		{"a tell with Has and a Peer", api.Msg{Kind: api.KTell, Has: true, Peer: some}, api.OK},
		{"a tell with a Peer, without Has", api.Msg{Kind: api.KTell, Peer: some}, api.ErrArg},
		{"a tell with a Peer's ID, without Has", api.Msg{Kind: api.KTell, Peer: api.Peer{ID: 1}}, api.ErrArg},
		{"a tell with a Peer's Addr, without Has", api.Msg{Kind: api.KTell, Peer: api.Peer{Addr: 1}}, api.ErrArg},
		{"a tell with 16 Peers", api.Msg{Kind: api.KTell, Peers: somePeers(16)}, api.OK},
		{"a tell with 17 Peers", api.Msg{Kind: api.KTell, Peers: somePeers(17)}, api.ErrLong},
		{"a note with a Peer that is zero", api.Msg{Kind: api.KNote}, api.OK},
		{"a note with a Peer", api.Msg{Kind: api.KNote, Peer: some}, api.OK},
		{"an okay", api.Msg{Kind: api.KOkay, Rid: 9}, api.OK},
		{"an okay with empty slices", api.Msg{Kind: api.KOkay, Peers: []api.Peer{}, Pairs: []api.Pair{}}, api.OK},
		{"a put", api.Msg{Kind: api.KPut, Key: "k", Val: "v"}, api.OK},
		{"a put of the empty Val", api.Msg{Kind: api.KPut, Key: "k"}, api.OK},
		{"a put of a Val of stray bytes", api.Msg{Kind: api.KPut, Key: "k", Val: "\xff\x80"}, api.OK},
		{"a put with the empty Key", api.Msg{Kind: api.KPut, Val: "v"}, api.ErrText},
		{"a put with a stray byte in the Key", api.Msg{Kind: api.KPut, Key: "k\xff", Val: "v"}, api.ErrText},
		{"a put of 512 bytes", api.Msg{Kind: api.KPut, Key: "k", Val: long}, api.OK},
		{"a put of 513 bytes", api.Msg{Kind: api.KPut, Key: "k", Val: tooLong}, api.ErrLong},
		{"a put of 512 bytes in few runes", api.Msg{Kind: api.KPut, Key: "k", Val: strings.Repeat("\U0001f511", 128)}, api.OK},
		{"a put of 516 bytes in few runes", api.Msg{Kind: api.KPut, Key: "k", Val: strings.Repeat("\U0001f511", 129)}, api.ErrLong},
		{"a put of 513 bytes with a Key that is none", api.Msg{Kind: api.KPut, Val: tooLong}, api.ErrText},
		{"a get", api.Msg{Kind: api.KGet, Key: "k"}, api.OK},
		{"a get with the empty Key", api.Msg{Kind: api.KGet}, api.ErrText},
		{"a get with a Key of 33 runes", api.Msg{Kind: api.KGet, Key: strings.Repeat("k", 33)}, api.ErrText},
		{"a get with a Val", api.Msg{Kind: api.KGet, Key: "k", Val: "v"}, api.ErrArg},
		{"a get with a Val and the empty Key", api.Msg{Kind: api.KGet, Val: "v"}, api.ErrArg},
		{"a got with 512 bytes", api.Msg{Kind: api.KGot, Has: true, Val: long}, api.OK},
		{"a got with 513 bytes", api.Msg{Kind: api.KGot, Has: true, Val: tooLong}, api.ErrLong},
		{"a got with 513 bytes, without Has", api.Msg{Kind: api.KGot, Val: tooLong}, api.ErrArg},
		{"a move of a pair", api.Msg{Kind: api.KMove, Pairs: []api.Pair{{Key: "k", Val: "v"}}}, api.OK},
		{"a move of a pair with the empty Val, with Has", api.Msg{Kind: api.KMove, Has: true, Pairs: []api.Pair{{Key: "k"}}}, api.OK},
		{"a move of two equal pairs", api.Msg{Kind: api.KMove, Pairs: []api.Pair{{Key: "k"}, {Key: "k"}}}, api.OK},
		{"a move without Pairs", api.Msg{Kind: api.KMove}, api.ErrShort},
		{"a move with empty Pairs", api.Msg{Kind: api.KMove, Has: true, Pairs: []api.Pair{}}, api.ErrShort},
		{"a move of 8 pairs", api.Msg{Kind: api.KMove, Pairs: somePairs(8)}, api.OK},
		{"a move of 9 pairs", api.Msg{Kind: api.KMove, Pairs: somePairs(9)}, api.ErrLong},
		{"a move of a pair that is zero", api.Msg{Kind: api.KMove, Pairs: []api.Pair{{}}}, api.ErrText},
		{"a move whose first Key is none", api.Msg{Kind: api.KMove, Pairs: put(somePairs(8), 0, api.Pair{})}, api.ErrText},
		{"a move whose last Key is none", api.Msg{Kind: api.KMove, Pairs: put(somePairs(8), 7, api.Pair{Key: "\xff"})}, api.ErrText},
		{"a move of 9 pairs whose last Key is none", api.Msg{Kind: api.KMove, Pairs: put(somePairs(9), 8, api.Pair{Val: "v"})}, api.ErrText},
		{"a move of a Val of 512 bytes", api.Msg{Kind: api.KMove, Pairs: put(somePairs(8), 7, api.Pair{Key: "k", Val: long})}, api.OK},
		{"a move of a last Val of 513 bytes", api.Msg{Kind: api.KMove, Pairs: put(somePairs(8), 7, api.Pair{Key: "k", Val: tooLong})}, api.ErrLong},
		{"a move of a first Val of 513 bytes", api.Msg{Kind: api.KMove, Pairs: put(somePairs(8), 0, api.Pair{Key: "k", Val: tooLong})}, api.ErrLong},
		{"a move of a Val of 513 bytes ahead of a Key that is none", api.Msg{Kind: api.KMove, Pairs: []api.Pair{{Key: "k", Val: tooLong}, {Key: "\xff"}}}, api.ErrText},
		{"a move with a Key of its own", api.Msg{Kind: api.KMove, Key: "k", Pairs: somePairs(1)}, api.ErrArg},
		{"a move with a Val of its own", api.Msg{Kind: api.KMove, Val: "v", Pairs: somePairs(1)}, api.ErrArg},
		{"a ping", api.Msg{Kind: api.KPing, Rid: 7}, api.OK},
		{"a nay", api.Msg{Kind: api.KNay, Code: 1}, api.OK},
		{"a nay with a Code that no error has", api.Msg{Kind: api.KNay, Code: 255}, api.OK},
		{"a nay with the Code 0", api.Msg{Kind: api.KNay}, api.ErrShort},
		{"a nay with the Code 0 and an ID", api.Msg{Kind: api.KNay, ID: 1}, api.ErrArg},
		{"no message", api.Msg{}, api.ErrKind},
		{"no kind, with all fields", full(0), api.ErrKind},
		{"the kind 13, with all fields", full(13), api.ErrKind},
		{"the kind -1", api.Msg{Kind: -1}, api.ErrKind},
		{"the least kind", api.Msg{Kind: math.MinInt}, api.ErrKind},
		{"the greatest kind", api.Msg{Kind: math.MaxInt}, api.ErrKind},
		{"a kind beyond 32 bits", api.Msg{Kind: 1<<32 + api.KPing}, api.ErrKind},
	} {
		if got := Right(c.m); got != c.want {
			t.Errorf("%s: Right = %d, want %d", c.name, got, c.want)
		}
		checkRight(t, c.m)
	}
}

// 8.2: each kind with just its fields is valid, and refused with each single field too many; an empty slice is none too many.
func TestRightOfSingleFields(t *testing.T) {
	for _, kind := range kindNumbers() {
		for _, hasIt := range []bool{true, false} {
			m := valid(kind, hasIt)
			if got := Right(m); got != api.OK {
				t.Errorf("Right(%s) = %d", show(m), got)
			}
			for _, c := range columns {
				if owns(m, c) {
					continue
				}
				more, from := deep(m), full(kind)
				if f := field(&more, c); f.Kind() == reflect.Slice {
					f.Set(reflect.MakeSlice(f.Type(), 0, 4))
					if got := Right(more); got != api.OK {
						t.Errorf("with empty %s Right(%s) = %d", c, show(m), got)
					}
				}
				field(&more, c).Set(field(&from, c))
				if got := Right(more); got != api.ErrArg {
					t.Errorf("with %s Right(%s) = %d, want %d", c, show(m), got, api.ErrArg)
				}
			}
		}
	}
}

// 8.2: all that is no kind is refused as that, whatever the fields are.
func TestRightOfNoKind(t *testing.T) {
	for _, kind := range ints() {
		if _, known := rows[kind]; known {
			continue
		}
		for _, m := range []api.Msg{{Kind: kind}, {Kind: kind, Rid: 1}, full(kind), {Kind: kind, Key: "\xff", Pairs: somePairs(9)}} {
			if got := Right(m); got != api.ErrKind {
				t.Errorf("Right(%s) = %d, want %d", show(m), got, api.ErrKind)
			}
		}
	}
}

// 8.2: a key that is none is told at each of the pairs, and so is a long value; all other messages of up to 8 good pairs are valid.
func TestRightOfEachPair(t *testing.T) {
	for count := 1; count < 12; count++ {
		want := api.OK
		if count > 8 {
			want = api.ErrLong
		}
		m := api.Msg{Kind: api.KMove, Pairs: somePairs(count)}
		if got := Right(m); got != want {
			t.Errorf("of %d pairs Right = %d, want %d", count, got, want)
		}
		for at := range count {
			for _, s := range []string{"", "\xff", "k\x80", strings.Repeat("k", 33), strings.Repeat("\U0001f511", 25)} {
				m.Pairs = put(somePairs(count), at, api.Pair{Key: s, Val: "v"})
				if got := Right(m); got != api.ErrText {
					t.Errorf("of %d pairs, %q at %d, Right = %d, want %d", count, s, at, got, api.ErrText)
				}
			}
			m.Pairs = put(somePairs(count), at, api.Pair{Key: "k", Val: strings.Repeat("v", 513)})
			if got := Right(m); got != api.ErrLong {
				t.Errorf("of %d pairs, 513 bytes at %d, Right = %d, want %d", count, at, got, api.ErrLong)
			}
			m.Pairs = put(somePairs(count), at, api.Pair{Key: strings.Repeat("\u20ac", 32), Val: strings.Repeat("\xff", 512)})
			if got := Right(m); got != want {
				t.Errorf("of %d pairs, 512 bytes at %d, Right = %d, want %d", count, at, got, want)
			}
		}
	}
}

// 8.2: lists and values far beyond the limits.
func TestRightOfGreatMessages(t *testing.T) {
	for _, c := range []struct {
		m    api.Msg
		want api.Errno
	}{
		{api.Msg{Kind: api.KHop, Peers: make([]api.Peer, 1<<16)}, api.ErrLong},
		{api.Msg{Kind: api.KTell, Peers: make([]api.Peer, 1<<16+1)}, api.ErrLong},
		{api.Msg{Kind: api.KMove, Pairs: somePairs(2000)}, api.ErrLong},
		{api.Msg{Kind: api.KMove, Pairs: put(somePairs(2000), 1999, api.Pair{})}, api.ErrText},
		{api.Msg{Kind: api.KPut, Key: "k", Val: strings.Repeat("v", 1<<20)}, api.ErrLong},
		{api.Msg{Kind: api.KPut, Key: strings.Repeat("k", 1<<20)}, api.ErrText},
		{api.Msg{Kind: api.KPing, Peers: make([]api.Peer, 1<<16)}, api.ErrArg},
		{api.Msg{Kind: api.KPing, Pairs: make([]api.Pair, 1<<16)}, api.ErrArg},
	} {
		if got := Right(c.m); got != c.want {
			t.Errorf("Right(%s) = %d, want %d", show(c.m), got, c.want)
		}
	}
}

// 8.2, R2: a message that has been given all faults gets the first error of the list, and without that the next one.
func TestRightOfSeveralFaults(t *testing.T) {
	m := full(13)
	m.Pairs = put(somePairs(9), 0, api.Pair{Key: "\xff", Val: strings.Repeat("v", 513)})
	steps := []struct {
		mend func()
		want api.Errno
	}{
		{func() {}, api.ErrKind},
		{func() { m.Kind = api.KMove }, api.ErrArg},
		{func() { m = bare(m) }, api.ErrText},
		{func() { m.Pairs[0].Key = "k" }, api.ErrLong},
		{func() { m.Pairs = m.Pairs[:8] }, api.ErrLong},
		{func() { m.Pairs = m.Pairs[1:] }, api.OK},
		{func() { m.Pairs = nil }, api.ErrShort},
		{func() { m.Code = 1 }, api.ErrArg},
		{func() { m.Kind = 0 }, api.ErrKind},
	}
	for i, s := range steps {
		s.mend()
		if got := Right(m); got != s.want {
			t.Errorf("step %d: Right(%s) = %d, want %d", i, show(m), got, s.want)
		}
	}
}

// 8.2, R2: all fields' choices beside each other, by the chapter's words; messages that no longer have a fault are among them.
func TestRightFollowsWords(t *testing.T) {
	seen := map[api.Errno]int{}
	eachMessage(func(m api.Msg) {
		checkRight(t, m)
		seen[Right(m)]++
	})
	for _, err := range []api.Errno{api.OK, api.ErrKind, api.ErrArg, api.ErrText, api.ErrLong, api.ErrShort} {
		if seen[err] == 0 {
			t.Errorf("no message gets %d", err)
		}
	}
}

// 8.3: each kind with all fields set, and two of them with Has and without; all that stays is written out here.
func TestBare(t *testing.T) {
	all := full(0)
	without := func(kind int) api.Msg {
		m := full(kind)
		m.Has = false
		return m
	}
	for _, c := range []struct {
		name    string
		m, want api.Msg
	}{
		{"find", full(1), api.Msg{Kind: 1, Rid: all.Rid, ID: all.ID}},
		{"hop", full(2), api.Msg{Kind: 2, Rid: all.Rid, Has: true, Peers: all.Peers}},
		{"hop without Has", without(2), api.Msg{Kind: 2, Rid: all.Rid, Peers: all.Peers}},
		{"ask", full(3), api.Msg{Kind: 3, Rid: all.Rid}},
		{"tell", full(4), api.Msg{Kind: 4, Rid: all.Rid, Has: true, Peer: all.Peer, Peers: all.Peers}},
		{"tell without Has", without(4), api.Msg{Kind: 4, Rid: all.Rid, Peers: all.Peers}},
		{"note", full(5), api.Msg{Kind: 5, Rid: all.Rid, Peer: all.Peer}},
		{"note without Has", without(5), api.Msg{Kind: 5, Rid: all.Rid, Peer: all.Peer}},
		{"okay", full(6), api.Msg{Kind: 6, Rid: all.Rid}},
		{"put", full(7), api.Msg{Kind: 7, Rid: all.Rid, Key: all.Key, Val: all.Val}},
		{"put without Has", without(7), api.Msg{Kind: 7, Rid: all.Rid, Key: all.Key, Val: all.Val}},
		{"get", full(8), api.Msg{Kind: 8, Rid: all.Rid, Key: all.Key}},
		{"got", full(9), api.Msg{Kind: 9, Rid: all.Rid, Has: true, Val: all.Val}},
		{"got without Has", without(9), api.Msg{Kind: 9, Rid: all.Rid}},
		{"move", full(10), api.Msg{Kind: 10, Rid: all.Rid, Has: true, Pairs: all.Pairs}},
		{"move without Has", without(10), api.Msg{Kind: 10, Rid: all.Rid, Pairs: all.Pairs}},
		{"ping", full(11), api.Msg{Kind: 11, Rid: all.Rid}},
		{"nay", full(12), api.Msg{Kind: 12, Rid: all.Rid, Code: all.Code}},
		{"no kind", full(0), api.Msg{Rid: all.Rid}},
		{"13", full(13), api.Msg{Kind: 13, Rid: all.Rid}},
		{"-1", full(-1), api.Msg{Kind: -1, Rid: all.Rid}},
		{"the least kind", full(math.MinInt), api.Msg{Kind: math.MinInt, Rid: all.Rid}},
		{"the greatest kind", full(math.MaxInt), api.Msg{Kind: math.MaxInt, Rid: all.Rid}},
		{"nothing", api.Msg{}, api.Msg{}},
	} {
		if got := Bare(c.m); !same(got, c.want) {
			t.Errorf("%s: Bare = %s, want %s", c.name, show(got), show(c.want))
		}
	}
}

// 8.3: all kinds, and ints that are none, by the chapter's words.
func TestBareOfEachInt(t *testing.T) {
	for _, kind := range ints() {
		for _, m := range []api.Msg{full(kind), {Kind: kind}, {Kind: kind, Rid: 5, Has: true}, {Kind: kind, Peer: api.Peer{Addr: 1}, Val: "v"}} {
			if got, want := Bare(m), bare(m); !same(got, want) {
				t.Errorf("Bare(%s) = %s, want %s", show(m), show(got), show(want))
			}
		}
	}
}

// 8.3, 8.2: all fields' choices, by the chapter's words: what is bare stays as it is, and is never refused for a field too many; a message is valid only if Bare leaves it as it is.
func TestBareFollowsWords(t *testing.T) {
	eachMessage(func(m api.Msg) {
		got := Bare(m)
		if want := bare(m); !same(got, want) {
			t.Fatalf("Bare(%s) = %s, want %s", show(m), show(got), show(want))
		}
		if again := Bare(got); !same(again, got) {
			t.Fatalf("Bare of the bare %s is %s", show(got), show(again))
		}
		if Right(got) == api.ErrArg {
			t.Fatalf("the bare %s is refused with %d", show(got), api.ErrArg)
		}
		err := Right(m)
		if isSame := Same(m, got); err == api.OK && !isSame || err == api.ErrArg && isSame {
			t.Fatalf("Right(%s) = %d, but the message is its bare one: %t", show(m), err, isSame)
		}
	})
}

// 8.3: copies are equal, of messages of each kind and of none, with nil and with empty slices.
func TestCopy(t *testing.T) {
	for _, kind := range ints() {
		for _, m := range []api.Msg{full(kind), {Kind: kind}, {Kind: kind, Peers: []api.Peer{}, Pairs: []api.Pair{}}, {Kind: kind, Peers: somePeers(20)}, {Kind: kind, Pairs: somePairs(20)}} {
			if got := Copy(m); !same(got, m) || !Same(got, m) {
				t.Errorf("Copy(%s) = %s", show(m), show(got))
			}
		}
	}
	eachMessage(func(m api.Msg) {
		if got := Copy(m); !same(got, m) {
			t.Fatalf("Copy(%s) = %s", show(m), show(got))
		}
	})
}

// spoil changes all that the slices of m lead to, up to their capacity.
func spoil(m api.Msg) {
	for i := range m.Peers[:cap(m.Peers)] {
		m.Peers[:cap(m.Peers)][i] = api.Peer{ID: 77, Addr: 77}
	}
	for i := range m.Pairs[:cap(m.Pairs)] {
		m.Pairs[:cap(m.Pairs)][i] = api.Pair{Key: "spoilt", Val: "spoilt"}
	}
}

// roomy is m with slices that have spare capacity, and something in it.
func roomy(m api.Msg) api.Msg {
	m.Peers = append(slices.Clone(m.Peers), somePeers(5)...)[:len(m.Peers)]
	m.Pairs = append(slices.Clone(m.Pairs), somePairs(5)...)[:len(m.Pairs)]
	return m
}

// 8.3, R4: the slices of Copy and Bare are new memory: neither the caller's changes to the argument nor those to the result are seen in the other.
func TestResultsAreNewMemory(t *testing.T) {
	for name, copied := range map[string]func(api.Msg) api.Msg{"Copy": Copy, "Bare": Bare} {
		for kind := range 14 {
			for _, m := range []api.Msg{full(kind), roomy(full(kind)), roomy(api.Msg{Kind: kind}), {Kind: kind, Peers: []api.Peer{}, Pairs: []api.Pair{}}} {
				before := roomy(deep(m))
				first, second := copied(m), copied(m)
				want := deep(first)
				spoil(first)
				if !same(m, before) || !same(second, want) {
					t.Errorf("%s(%s): a change of the result changed the argument or another result", name, show(before))
				}
				for i := len(m.Peers); i < min(cap(m.Peers), len(m.Peers)+5); i++ {
					if m.Peers[:cap(m.Peers)][i] == (api.Peer{ID: 77, Addr: 77}) {
						t.Errorf("%s(%s): the result shares the Peers' spare capacity", name, show(before))
					}
				}
				for i := len(m.Pairs); i < min(cap(m.Pairs), len(m.Pairs)+5); i++ {
					if m.Pairs[:cap(m.Pairs)][i].Key == "spoilt" {
						t.Errorf("%s(%s): the result shares the Pairs' spare capacity", name, show(before))
					}
				}
				spoil(m)
				if !same(second, want) {
					t.Errorf("%s(%s): a change of the argument changed the result", name, show(before))
				}
			}
		}
	}
}

// variants are messages that differ from full(kind) in one field alone, or in one part of a field.
func variants(kind int) map[string]api.Msg {
	l := map[string]api.Msg{}
	add := func(name string, change func(*api.Msg)) {
		m := full(kind)
		change(&m)
		l[name] = m
	}
	add("another Kind", func(m *api.Msg) { m.Kind++ })
	add("a Kind that differs in the high half", func(m *api.Msg) { m.Kind += 1 << 40 })
	add("another Rid", func(m *api.Msg) { m.Rid++ })
	add("a Rid that differs in the top bit", func(m *api.Msg) { m.Rid ^= 1 << 31 })
	add("another Code", func(m *api.Msg) { m.Code++ })
	add("another Has", func(m *api.Msg) { m.Has = false })
	add("another ID", func(m *api.Msg) { m.ID-- })
	add("an ID that differs in the top bit", func(m *api.Msg) { m.ID ^= 1 << 63 })
	add("another Key", func(m *api.Msg) { m.Key = "kez" })
	add("a shorter Key", func(m *api.Msg) { m.Key = "ke" })
	add("no Key", func(m *api.Msg) { m.Key = "" })
	add("another Val", func(m *api.Msg) { m.Val = "Value" })
	add("a longer Val", func(m *api.Msg) { m.Val += "\x00" })
	add("Key and Val exchanged", func(m *api.Msg) { m.Key, m.Val = m.Val, m.Key })
	add("another Peer's ID", func(m *api.Msg) { m.Peer.ID++ })
	add("another Peer's Addr", func(m *api.Msg) { m.Peer.Addr-- })
	add("no Peers", func(m *api.Msg) { m.Peers = nil })
	add("Peers without the last", func(m *api.Msg) { m.Peers = m.Peers[:2] })
	add("Peers without the first", func(m *api.Msg) { m.Peers = m.Peers[1:] })
	add("Peers with one that is zero behind them", func(m *api.Msg) { m.Peers = append(m.Peers, api.Peer{}) })
	add("another last of the Peers, by ID", func(m *api.Msg) { m.Peers[2].ID++ })
	add("another last of the Peers, by Addr", func(m *api.Msg) { m.Peers[2].Addr++ })
	add("another first of the Peers", func(m *api.Msg) { m.Peers[0].Addr++ })
	add("Peers in another order", func(m *api.Msg) { slices.Reverse(m.Peers) })
	add("Peers with one twice", func(m *api.Msg) { m.Peers[1] = m.Peers[0] })
	add("no Pairs", func(m *api.Msg) { m.Pairs = nil })
	add("Pairs without the last", func(m *api.Msg) { m.Pairs = m.Pairs[:2] })
	add("Pairs without the first", func(m *api.Msg) { m.Pairs = m.Pairs[1:] })
	add("Pairs with one that is zero behind them", func(m *api.Msg) { m.Pairs = append(m.Pairs, api.Pair{}) })
	add("another last of the Pairs, by Key", func(m *api.Msg) { m.Pairs[2].Key += "k" })
	add("another last of the Pairs, by Val", func(m *api.Msg) { m.Pairs[2].Val = "" })
	add("another first of the Pairs", func(m *api.Msg) { m.Pairs[0].Val = "v" })
	add("Pairs in another order", func(m *api.Msg) { slices.Reverse(m.Pairs) })
	add("a Pair with Key and Val exchanged", func(m *api.Msg) { m.Pairs[1].Key, m.Pairs[1].Val = m.Pairs[1].Val, m.Pairs[1].Key })
	return l
}

// 8.3: messages that differ in anything at all aren't the same, also if their kind doesn't have the field.
func TestSameOfDifferentMessages(t *testing.T) {
	for _, kind := range ints() {
		l := variants(kind)
		l["as it was"] = full(kind)
		for nameA, a := range l {
			for nameB, b := range l {
				if got, want := Same(a, b), nameA == nameB; got != want {
					t.Fatalf("kind %d: Same of %q and %q is %t", kind, nameA, nameB, got)
				}
			}
		}
	}
}

// 8.3: each field alone makes a message differ from the one of zeros.
func TestSameOfSingleFields(t *testing.T) {
	all := full(7)
	for _, c := range append([]string{"Kind", "Rid"}, columns...) {
		var m, other api.Msg
		field(&m, c).Set(field(&all, c))
		field(&other, c).Set(field(&all, c))
		if Same(m, api.Msg{}) || Same(api.Msg{}, m) {
			t.Errorf("a message with %s is the same as one without", c)
		}
		if !Same(m, other) || !Same(m, deep(m)) {
			t.Errorf("a message with %s isn't the same as itself", c)
		}
	}
}

// 8.3, R3: nil and empty slices are equal, and capacities don't count.
func TestSameOfEmptySlices(t *testing.T) {
	var l []api.Msg
	for _, p := range [][]api.Peer{nil, {}, make([]api.Peer, 0, 9), somePeers(3)[:0]} {
		for _, q := range [][]api.Pair{nil, {}, make([]api.Pair, 0, 9), somePairs(3)[3:]} {
			l = append(l, api.Msg{Kind: api.KHop, Rid: 3, Peers: p, Pairs: q})
		}
	}
	for _, a := range l {
		for _, b := range l {
			if !Same(a, b) {
				t.Errorf("Same(%#v, %#v) is false", a, b)
			}
		}
		if m := full(api.KHop); Same(a, m) || Same(m, a) || !Same(m, roomy(m)) || !Same(roomy(m), m) {
			t.Errorf("Same takes the spare capacity for a part of the message")
		}
	}
}

// 8.4: the chapter's examples.
func TestExamplesOfKinds(t *testing.T) {
	if !Asks(api.KPing) || !Answers(api.KGet, api.KGot) || Name(11) != "ping" || Kind("ping") != 11 {
		t.Errorf("Asks(KPing) = %t, Answers(KGet, KGot) = %t, Name(11) = %q, Kind(\"ping\") = %d", Asks(api.KPing), Answers(api.KGet, api.KGot), Name(11), Kind("ping"))
	}
}

// 8.4: all pairs of kinds, and of ints that are none, by the table; the answers are written out here as well.
func TestAsksAndAnswers(t *testing.T) {
	answers := map[[2]int]bool{
		{api.KFind, api.KHop}: true, {api.KFind, api.KNay}: true, {api.KAsk, api.KTell}: true, {api.KNote, api.KOkay}: true,
		{api.KPut, api.KOkay}: true, {api.KPut, api.KNay}: true, {api.KGet, api.KGot}: true, {api.KGet, api.KNay}: true,
		{api.KMove, api.KOkay}: true, {api.KPing, api.KOkay}: true,
	}
	for _, kind := range ints() {
		asks := false
		for _, reply := range ints() {
			want := rows[reply].name != "" && slices.Contains(rows[kind].replies, rows[reply].name)
			if want != answers[[2]int{kind, reply}] {
				t.Fatalf("the table says otherwise of %d and %d", kind, reply)
			}
			if got := Answers(kind, reply); got != want {
				t.Errorf("Answers(%d, %d) = %t, want %t", kind, reply, got, want)
			}
			asks = asks || want
		}
		if got := Asks(kind); got != asks {
			t.Errorf("Asks(%d) = %t, want %t", kind, got, asks)
		}
	}
}

// 8.4: the names of the twelve, each of which leads back to its kind; "?" for all else.
func TestNameAndKind(t *testing.T) {
	names := []string{"find", "hop", "ask", "tell", "note", "okay", "put", "get", "got", "move", "ping", "nay"}
	for _, kind := range ints() {
		want := "?"
		if kind >= 1 && kind <= 12 {
			want = names[kind-1]
			if got := Kind(want); got != kind {
				t.Errorf("Kind(%q) = %d, want %d", want, got, kind)
			}
		}
		if got := Name(kind); got != want {
			t.Errorf("Name(%d) = %q, want %q", kind, got, want)
		}
		if r, known := rows[kind]; known && r.name != want {
			t.Errorf("the table says %q of %d", r.name, kind)
		}
	}
}

// 8.4: names that no kind has: other cases, other lengths, the Go names, numbers, what Name says of no kind.
func TestKindOfNoName(t *testing.T) {
	l := []string{"", "?", "??", " ", "\x00", "\xff", "1", "11", "KPing", "KFind", "answer", "reply", "hello", "ok", "find hop", "hop, nay", "findhop"}
	for _, r := range rows {
		s := r.name
		l = append(l, strings.ToUpper(s), strings.ToUpper(s[:1])+s[1:], s+" ", " "+s, s+"\n", s+"s", s+"\x00", s[1:], s[:len(s)-1], "K"+s, s+s)
	}
	for _, s := range l {
		if got := Kind(s); got != 0 {
			t.Errorf("Kind(%q) = %d, want 0", s, got)
		}
	}
}

// R4: no function changes its argument, and no result hangs on what the caller does with it.
func TestArgumentsStay(t *testing.T) {
	for kind := range 14 {
		for _, m := range []api.Msg{full(kind), valid(kind, true), {Kind: kind, Peers: somePeers(17), Pairs: somePairs(9)}} {
			m = roomy(m)
			before := deep(m)
			sparePeers, sparePairs := slices.Clone(m.Peers[:cap(m.Peers)]), slices.Clone(m.Pairs[:cap(m.Pairs)])
			Right(m)
			Bare(m)
			Copy(m)
			Same(m, before)
			Same(before, m)
			if !same(m, before) || !slices.Equal(m.Peers[:cap(m.Peers)], sparePeers) || !slices.Equal(m.Pairs[:cap(m.Pairs)], sparePairs) {
				t.Errorf("%s was changed to %s", show(before), show(m))
			}
		}
	}
}

// R5: a result doesn't hang on the calls before it.
func TestCallsLeaveNothingBehind(t *testing.T) {
	results := func() string {
		return fmt.Sprint(Right(valid(api.KMove, true)), Right(full(api.KPut)), Bare(full(api.KTell)), Copy(full(3)), Same(full(1), full(1)),
			Asks(api.KPut), Answers(api.KPut, api.KNay), Answers(api.KPut, api.KGot), Name(7), Name(0), Kind("move"), Kind("?"), Key("k"), Key("\xff"))
	}
	first := results()
	for _, kind := range ints() {
		m := full(kind)
		spoil(Bare(m))
		spoil(Copy(m))
		Right(m)
		Same(m, full(1))
		Asks(kind)
		Answers(kind, kind)
		Kind(Name(kind) + "x")
		Key(Name(kind))
		if again := results(); again != first {
			t.Errorf("behind calls with the kind %d the results %s are %s", kind, first, again)
		}
	}
}
