package fixed

import (
	"bytes"
	"encoding/binary"
	"fmt"
	"math"
	"reflect"
	"strconv"
	"strings"
	"testing"

	"annulet/api"
	"annulet/msg"
)

// table is the table of chapter 8, word by word, without the replies: the columns are named by columns.
const table = `
| KFind 1 | find | | | yes | | | | | |
| KHop 2 | hop | | yes | | | yes | | | |
| KAsk 3 | ask | | | | | | | | |
| KTell 4 | tell | | yes | | if Has | yes | | | |
| KNote 5 | note | | | | yes | | | | |
| KOkay 6 | okay | | | | | | | | |
| KPut 7 | put | | | | | | yes | yes | |
| KGet 8 | get | | | | | | yes | | |
| KGot 9 | got | | yes | | | | | if Has | |
| KMove 10 | move | | yes | | | | | | yes |
| KPing 11 | ping | | | | | | | | |
| KNay 12 | nay | yes | | | | | | | |
`

// columns are in the order in which chapter 9 writes them, too.
var columns = []string{"Code", "Has", "ID", "Peer", "Peers", "Key", "Val", "Pairs"}

var cells = readTable()

// readTable yields the cells of the columns, by kind and column.
func readTable() map[int]map[string]string {
	all := map[int]map[string]string{}
	for _, line := range strings.Split(strings.TrimSpace(table), "\n") {
		row := strings.Split(strings.Trim(line, "|"), "|")
		_, digits, _ := strings.Cut(strings.TrimSpace(row[0]), " ")
		kind, err := strconv.Atoi(digits)
		if err != nil || len(row) != len(columns)+2 {
			panic("a bad line: " + line)
		}
		all[kind] = map[string]string{}
		for i, c := range columns {
			all[kind][c] = strings.TrimSpace(row[2+i])
		}
	}
	return all
}

// owns tells whether the kind of m has the field, by the table.
func owns(m api.Msg, column string) bool {
	cell := cells[m.Kind][column]
	return cell == "yes" || cell == "if Has" && m.Has
}

// encode follows the chapter's words on the encoding of a valid message.
func encode(m api.Msg) []byte {
	b := []byte{byte(m.Kind)}
	b = binary.BigEndian.AppendUint32(b, m.Rid)
	for _, c := range columns {
		if owns(m, c) {
			b = append(b, encodeField(reflect.ValueOf(m).FieldByName(c).Interface(), c)...)
		}
	}
	return b
}

// encodeField writes one field; Key and Val differ by their column alone.
func encodeField(value any, column string) []byte {
	var b []byte
	switch v := value.(type) {
	case uint8:
		b = append(b, v)
	case bool:
		b = append(b, map[bool]byte{true: 1, false: 0}[v])
	case uint64:
		b = binary.BigEndian.AppendUint64(b, v)
	case api.Peer:
		b = binary.BigEndian.AppendUint64(b, v.ID)
		b = binary.BigEndian.AppendUint16(b, v.Addr)
	case []api.Peer:
		b = append(b, byte(len(v)))
		for _, p := range v {
			b = append(b, encodeField(p, "Peer")...)
		}
	case string:
		if column == "Val" {
			b = append(b, byte(len(v)>>8))
		}
		b = append(b, byte(len(v)))
		b = append(b, v...)
	case []api.Pair:
		b = append(b, byte(len(v)))
		for _, p := range v {
			b = append(b, encodeField(p.Key, "Key")...)
			b = append(b, encodeField(p.Val, "Val")...)
		}
	default:
		panic("no such field: " + column)
	}
	return b
}

// source is what decode has not read yet; an error is told by a panic.
type source struct{ rest []byte }

func (s *source) take(n int) []byte {
	if len(s.rest) < n {
		panic(api.ErrShort)
	}
	piece := s.rest[:n]
	s.rest = s.rest[n:]
	return piece
}

func (s *source) number(size int) uint64 {
	return binary.BigEndian.Uint64(append(make([]byte, 8-size), s.take(size)...))
}

func (s *source) count(size, most int) int {
	n := s.number(size)
	if n > uint64(most) {
		panic(api.ErrLong)
	}
	return int(n)
}

func (s *source) peer() api.Peer {
	p := api.Peer{ID: s.number(8)}
	p.Addr = uint16(s.number(2))
	return p
}

func (s *source) key() string { return string(s.take(s.count(1, 96))) }

func (s *source) val() string { return string(s.take(s.count(2, 512))) }

// field reads the field of that column into m.
func (s *source) field(m *api.Msg, column string) {
	switch column {
	case "Code":
		m.Code = uint8(s.number(1))
	case "Has":
		n := s.number(1)
		if n > 1 {
			panic(api.ErrForm)
		}
		m.Has = n == 1
	case "ID":
		m.ID = s.number(8)
	case "Peer":
		m.Peer = s.peer()
	case "Peers":
		for range s.count(1, 16) {
			m.Peers = append(m.Peers, s.peer())
		}
	case "Key":
		m.Key = s.key()
	case "Val":
		m.Val = s.val()
	case "Pairs":
		for range s.count(1, 8) {
			p := api.Pair{Key: s.key()}
			p.Val = s.val()
			m.Pairs = append(m.Pairs, p)
		}
	}
}

// decode follows the words of 9.2.
func decode(b []byte) (m api.Msg, err api.Errno) {
	defer func() {
		if fault := recover(); fault != nil {
			m, err = api.Msg{}, fault.(api.Errno)
		}
	}()
	s := &source{b}
	m.Kind = int(s.number(1))
	if cells[m.Kind] == nil {
		panic(api.ErrKind)
	}
	m.Rid = uint32(s.number(4))
	for _, c := range columns {
		if owns(m, c) {
			s.field(&m, c)
		}
	}
	if len(s.rest) > 0 {
		panic(api.ErrMore)
	}
	if fault := msg.Right(m); fault != api.OK {
		panic(fault)
	}
	return m, api.OK
}

// show keeps what a failed test prints short.
func show(v any) string {
	s := fmt.Sprintf("%+v", v)
	if len(s) > 400 {
		return s[:400] + " and more"
	}
	return s
}

// same tells whether all fields are equal; an empty slice is equal to none (R3).
func same(a, b api.Msg) bool {
	for _, m := range []*api.Msg{&a, &b} {
		if len(m.Peers) == 0 {
			m.Peers = nil
		}
		if len(m.Pairs) == 0 {
			m.Pairs = nil
		}
	}
	return reflect.DeepEqual(a, b)
}

// deep is a copy that shares nothing with m.
func deep(m api.Msg) api.Msg {
	m.Peers = append([]api.Peer(nil), m.Peers...)
	m.Pairs = append([]api.Pair(nil), m.Pairs...)
	m.Key, m.Val = strings.Clone(m.Key), strings.Clone(m.Val)
	return m
}

// checkEnc holds Enc to the chapter's words, and to R2.
func checkEnc(t *testing.T, m api.Msg) {
	t.Helper()
	got, err := Enc(m)
	wantErr := msg.Right(m)
	var want []byte
	if wantErr == api.OK {
		want = encode(m)
	}
	if err != wantErr || !bytes.Equal(got, want) {
		t.Fatalf("Enc(%s) = %s, %d, want %s, %d", show(m), show(got), err, show(want), wantErr)
	}
}

// checkDec holds Dec to the chapter's words, and to R2; it returns the error.
func checkDec(t *testing.T, b []byte) api.Errno {
	t.Helper()
	got, err := Dec(b)
	want, wantErr := decode(b)
	if err != wantErr || !same(got, want) {
		t.Fatalf("Dec(%s) = %s, %d, want %s, %d", show(b), show(got), err, show(want), wantErr)
	}
	return err
}

// expectDec holds Dec to an error, without any of the message.
func expectDec(t *testing.T, name string, b []byte, want api.Errno) {
	t.Helper()
	if got, err := Dec(b); err != want || !same(got, api.Msg{}) {
		t.Errorf("%s: Dec(%s) = %s, %d, want the error %d", name, show(b), show(got), err, want)
	}
}

// run is count times the byte c.
func run(count int, c byte) []byte {
	return bytes.Repeat([]byte{c}, count)
}

// join is all of that, one behind the other.
func join(pieces ...[]byte) []byte {
	return bytes.Join(pieces, nil)
}

// cat is head with the bytes of tail behind it.
func cat(head []byte, tail ...byte) []byte {
	return join(head, tail)
}

// head is the Kind and a Rid of 1.
func head(kind int, tail ...byte) []byte {
	return cat([]byte{byte(kind), 0, 0, 0, 1}, tail...)
}

var (
	key32  = strings.Repeat("k", 32)
	key96  = strings.Repeat("\u20ac", 32)
	val511 = strings.Repeat("v", 511)
	val512 = strings.Repeat("\xff", 512)
)

// somePeers are count peers that differ, with bytes that differ.
func somePeers(count int) []api.Peer {
	l := make([]api.Peer, count)
	for i := range l {
		l[i] = api.Peer{ID: 0x0102030405060708 * uint64(i+1), Addr: uint16(0x0f0e * (i + 1))}
	}
	return l
}

// somePairs are count pairs that differ; the first one's value is empty.
func somePairs(count int) []api.Pair {
	l := make([]api.Pair, count)
	for i := range l {
		l[i] = api.Pair{Key: "k" + strconv.Itoa(i), Val: strings.Repeat("v", 70*i)}
	}
	return l
}

// samePairs are count pairs that are equal.
func samePairs(count int, key, val string) []api.Pair {
	l := make([]api.Pair, count)
	for i := range l {
		l[i] = api.Pair{Key: key, Val: val}
	}
	return l
}

// choices are the values of each field that the tests put beside each other; they begin with the least and end with the greatest that is valid.
func choices() map[string][]any {
	peers := []any{api.Peer{}, api.Peer{ID: 1}, api.Peer{Addr: 1}, api.Peer{ID: 0x0102030405060708, Addr: 0x090a}, api.Peer{ID: 1 << 63, Addr: 1 << 15}, api.Peer{ID: math.MaxUint64, Addr: math.MaxUint16}}
	return map[string][]any{
		"Rid":  {uint32(0), uint32(1), uint32(255), uint32(256), uint32(0x01020304), uint32(1 << 31), uint32(math.MaxUint32)},
		"Code": {uint8(1), uint8(2), uint8(127), uint8(128), uint8(255)},
		"Has":  {false, true},
		"ID":   {uint64(0), uint64(1), uint64(255), uint64(256), uint64(0x0102030405060708), uint64(1 << 32), uint64(1 << 63), uint64(math.MaxUint64)},
		"Peer": peers,
		"Peers": {
			[]api.Peer(nil), []api.Peer{}, []api.Peer{{}}, []api.Peer{{ID: math.MaxUint64, Addr: math.MaxUint16}},
			[]api.Peer{{ID: 1, Addr: 2}, {ID: 1, Addr: 2}}, somePeers(2), somePeers(15), somePeers(16), make([]api.Peer, 16),
		},
		"Key": {"k", "\x00", " ", "ab", "\u00e9", "\U0001f511", key32, key96},
		"Val": {"", "v", "\x00", "\xff\x80", strings.Repeat("v", 127), strings.Repeat("v", 128), strings.Repeat("v", 255), strings.Repeat("v", 256), val511, val512},
		"Pairs": {
			[]api.Pair{{Key: "k"}}, []api.Pair{{Key: "k", Val: "v"}}, []api.Pair{{Key: "k", Val: "v"}, {Key: "k", Val: "v"}},
			somePairs(2), somePairs(7), somePairs(8), samePairs(8, key96, val512), []api.Pair{{Key: key96}, {Key: "\x00", Val: val512}},
		},
	}
}

// eachChoice yields messages of the kind in which each field that it has takes each of its choices beside each of the others'.
func eachChoice(kind int, f func(api.Msg)) {
	l := choices()
	var set func(m api.Msg, names []string)
	set = func(m api.Msg, names []string) {
		if len(names) == 0 {
			f(m)
			return
		}
		if names[0] != "Rid" && !owns(m, names[0]) {
			set(m, names[1:])
			return
		}
		for _, v := range l[names[0]] {
			next := m
			reflect.ValueOf(&next).Elem().FieldByName(names[0]).Set(reflect.ValueOf(v))
			set(next, names[1:])
		}
	}
	set(api.Msg{Kind: kind}, append([]string{"Rid"}, columns...))
}

// eachValid yields the valid ones among the messages of all kinds.
func eachValid(f func(api.Msg)) {
	for kind := 1; kind <= 12; kind++ {
		eachChoice(kind, func(m api.Msg) {
			if msg.Right(m) == api.OK {
				f(m)
			}
		})
	}
}

// someValid are a few messages of all kinds, the greatest among them.
func someValid() []api.Msg {
	peer := api.Peer{ID: 0x1122334455667788, Addr: 0x99aa}
	return []api.Msg{
		{Kind: api.KFind, Rid: 0x01020304, ID: 0x1112131415161718},
		{Kind: api.KHop, Rid: 5, Peers: somePeers(1)},
		{Kind: api.KHop, Rid: 6, Has: true, Peers: somePeers(16)},
		{Kind: api.KAsk, Rid: math.MaxUint32},
		{Kind: api.KTell, Rid: 7},
		{Kind: api.KTell, Rid: 8, Has: true, Peer: peer},
		{Kind: api.KTell, Rid: 9, Peers: somePeers(3)},
		{Kind: api.KTell, Rid: 10, Has: true, Peer: peer, Peers: somePeers(16)},
		{Kind: api.KNote, Rid: 11, Peer: peer},
		{Kind: api.KOkay, Rid: 12},
		{Kind: api.KPut, Rid: 13, Key: "k"},
		{Kind: api.KPut, Rid: 14, Key: key96, Val: val512},
		{Kind: api.KPut, Rid: 15, Key: "key", Val: "value"},
		{Kind: api.KGet, Rid: 16, Key: "key"},
		{Kind: api.KGet, Rid: 17, Key: key96},
		{Kind: api.KGot, Rid: 18},
		{Kind: api.KGot, Rid: 19, Has: true},
		{Kind: api.KGot, Rid: 20, Has: true, Val: val512},
		{Kind: api.KMove, Rid: 21, Pairs: samePairs(1, "k", "")},
		{Kind: api.KMove, Rid: 22, Has: true, Pairs: somePairs(3)},
		{Kind: api.KMove, Rid: 23, Has: true, Pairs: samePairs(8, key96, val512)},
		{Kind: api.KPing, Rid: 24},
		{Kind: api.KNay, Rid: 25, Code: 21},
	}
}

// written are messages and their bytes, both written out here.
func written() []struct {
	m api.Msg
	b []byte
} {
	return []struct {
		m api.Msg
		b []byte
	}{
		{api.Msg{Kind: api.KPing, Rid: 1}, []byte{11, 0, 0, 0, 1}},
		{api.Msg{Kind: api.KPing, Rid: 7}, []byte{11, 0, 0, 0, 7}},
		{api.Msg{Kind: api.KPing}, []byte{11, 0, 0, 0, 0}},
		{api.Msg{Kind: api.KPing, Rid: math.MaxUint32}, []byte{11, 255, 255, 255, 255}},
		{api.Msg{Kind: api.KAsk, Rid: 0x01020304}, []byte{3, 1, 2, 3, 4}},
		{api.Msg{Kind: api.KOkay, Rid: 256}, []byte{6, 0, 0, 1, 0}},
		{api.Msg{Kind: api.KNay, Rid: 1, Code: 1}, []byte{12, 0, 0, 0, 1, 1}},
		{api.Msg{Kind: api.KNay, Rid: 1, Code: 255}, []byte{12, 0, 0, 0, 1, 255}},
		{api.Msg{Kind: api.KFind, Rid: 1}, []byte{1, 0, 0, 0, 1, 0, 0, 0, 0, 0, 0, 0, 0}},
		{api.Msg{Kind: api.KFind, Rid: 1, ID: 0x0102030405060708}, []byte{1, 0, 0, 0, 1, 1, 2, 3, 4, 5, 6, 7, 8}},
		{api.Msg{Kind: api.KFind, Rid: 1, ID: math.MaxUint64}, []byte{1, 0, 0, 0, 1, 255, 255, 255, 255, 255, 255, 255, 255}},
		{api.Msg{Kind: api.KHop, Rid: 1, Peers: []api.Peer{{ID: 258, Addr: 3}}}, []byte{2, 0, 0, 0, 1, 0, 1, 0, 0, 0, 0, 0, 0, 1, 2, 0, 3}},
		{api.Msg{Kind: api.KHop, Rid: 1, Has: true, Peers: []api.Peer{{ID: 1, Addr: 0x0203}, {ID: 4}}}, []byte{2, 0, 0, 0, 1, 1, 2, 0, 0, 0, 0, 0, 0, 0, 1, 2, 3, 0, 0, 0, 0, 0, 0, 0, 4, 0, 0}},
		{api.Msg{Kind: api.KTell, Rid: 1}, []byte{4, 0, 0, 0, 1, 0, 0}},
		{api.Msg{Kind: api.KTell, Rid: 1, Has: true}, []byte{4, 0, 0, 0, 1, 1, 0, 0, 0, 0, 0, 0, 0, 0, 0, 0, 0}},
		{api.Msg{Kind: api.KTell, Rid: 1, Has: true, Peer: api.Peer{ID: 0x0a0b, Addr: 0x0c0d}}, []byte{4, 0, 0, 0, 1, 1, 0, 0, 0, 0, 0, 0, 10, 11, 12, 13, 0}},
		{api.Msg{Kind: api.KTell, Rid: 1, Peers: []api.Peer{{ID: 0x0a0b, Addr: 0x0c0d}}}, []byte{4, 0, 0, 0, 1, 0, 1, 0, 0, 0, 0, 0, 0, 10, 11, 12, 13}},
		{api.Msg{Kind: api.KTell, Rid: 1, Has: true, Peer: api.Peer{ID: 5, Addr: 6}, Peers: []api.Peer{{ID: 7, Addr: 8}}}, []byte{4, 0, 0, 0, 1, 1, 0, 0, 0, 0, 0, 0, 0, 5, 0, 6, 1, 0, 0, 0, 0, 0, 0, 0, 7, 0, 8}},
		{api.Msg{Kind: api.KNote, Rid: 1, Peer: api.Peer{ID: 1 << 56, Addr: 256}}, []byte{5, 0, 0, 0, 1, 1, 0, 0, 0, 0, 0, 0, 0, 1, 0}},
		{api.Msg{Kind: api.KPut, Rid: 1, Key: "k"}, []byte{7, 0, 0, 0, 1, 1, 'k', 0, 0}},
		{api.Msg{Kind: api.KPut, Rid: 1, Key: "ab", Val: "cde"}, []byte{7, 0, 0, 0, 1, 2, 'a', 'b', 0, 3, 'c', 'd', 'e'}},
		{api.Msg{Kind: api.KPut, Rid: 1, Key: key96, Val: val512}, join([]byte{7, 0, 0, 0, 1, 96}, []byte(key96), []byte{2, 0}, []byte(val512))},
		{api.Msg{Kind: api.KGet, Rid: 1, Key: "\x00"}, []byte{8, 0, 0, 0, 1, 1, 0}},
		{api.Msg{Kind: api.KGet, Rid: 1, Key: "\u00e9"}, []byte{8, 0, 0, 0, 1, 2, 195, 169}},
		{api.Msg{Kind: api.KGot, Rid: 1}, []byte{9, 0, 0, 0, 1, 0}},
		{api.Msg{Kind: api.KGot, Rid: 1, Has: true}, []byte{9, 0, 0, 0, 1, 1, 0, 0}},
		{api.Msg{Kind: api.KGot, Rid: 1, Has: true, Val: "\xff"}, []byte{9, 0, 0, 0, 1, 1, 0, 1, 255}},
		{api.Msg{Kind: api.KGot, Rid: 1, Has: true, Val: val511}, join([]byte{9, 0, 0, 0, 1, 1, 1, 255}, []byte(val511))},
		{api.Msg{Kind: api.KMove, Rid: 1, Pairs: []api.Pair{{Key: "k"}}}, []byte{10, 0, 0, 0, 1, 0, 1, 1, 'k', 0, 0}},
		{api.Msg{Kind: api.KMove, Rid: 1, Has: true, Pairs: []api.Pair{{Key: "k", Val: "v"}, {Key: "ab"}}}, []byte{10, 0, 0, 0, 1, 1, 2, 1, 'k', 0, 1, 'v', 2, 'a', 'b', 0, 0}},
	}
}

// 9.1, 9.2: the chapter's examples, and messages whose bytes are written out here, both ways.
func TestWrittenOut(t *testing.T) {
	for _, c := range written() {
		if b, err := Enc(c.m); err != api.OK || !bytes.Equal(b, c.b) {
			t.Errorf("Enc(%s) = %s, %d, want %s", show(c.m), show(b), err, show(c.b))
		}
		if m, err := Dec(c.b); err != api.OK || !same(m, c.m) {
			t.Errorf("Dec(%s) = %s, %d, want %s", show(c.b), show(m), err, show(c.m))
		}
	}
	expectDec(t, "a Rid of three bytes", []byte{11, 0, 0, 0}, api.ErrShort)
	expectDec(t, "the Kind 13", []byte{13, 0}, api.ErrKind)
	expectDec(t, "no bytes", []byte{}, api.ErrShort)
	expectDec(t, "nil", nil, api.ErrShort)
}

// 9.1, 9.2, R3: all fields' choices beside each other, by the chapter's words, and back; empty slices are as good as none.
func TestEncAndDecFollowWords(t *testing.T) {
	kinds := map[int]int{}
	eachValid(func(m api.Msg) {
		kinds[m.Kind]++
		checkEnc(t, m)
		b, _ := Enc(m)
		if got, err := Dec(b); err != api.OK || !same(got, m) {
			t.Fatalf("Dec of the encoding of %s is %s, %d", show(m), show(got), err)
		}
	})
	for kind := 1; kind <= 12; kind++ {
		if kinds[kind] < 5 {
			t.Errorf("%d messages of the kind %d, want more", kinds[kind], kind)
		}
	}
}

// spoiltMessages are messages that are not valid, with the error that they must get.
func spoiltMessages() []struct {
	m    api.Msg
	want api.Errno
} {
	type row = struct {
		m    api.Msg
		want api.Errno
	}
	l := []row{
		{api.Msg{}, api.ErrKind},
		{api.Msg{Kind: 13, Rid: 1}, api.ErrKind},
		{api.Msg{Kind: -1}, api.ErrKind},
		{api.Msg{Kind: 255}, api.ErrKind},
		{api.Msg{Kind: 256 + api.KPing, Rid: 1}, api.ErrKind},
		{api.Msg{Kind: 1<<32 + api.KPing, Rid: 1}, api.ErrKind},
		{api.Msg{Kind: math.MinInt}, api.ErrKind},
		{api.Msg{Kind: math.MaxInt}, api.ErrKind},
		{api.Msg{Kind: api.KTell, Peer: api.Peer{ID: 1}}, api.ErrArg},
		{api.Msg{Kind: api.KTell, Peer: api.Peer{Addr: 1}}, api.ErrArg},
		{api.Msg{Kind: api.KGot, Val: "v"}, api.ErrArg},
		{api.Msg{Kind: api.KGot, Val: val512 + "v"}, api.ErrArg},
		{api.Msg{Kind: api.KHop, ID: 1}, api.ErrArg},
		{api.Msg{Kind: api.KPut, Val: "v"}, api.ErrText},
		{api.Msg{Kind: api.KPut, Key: "\xff"}, api.ErrText},
		{api.Msg{Kind: api.KGet, Key: key32 + "k"}, api.ErrText},
		{api.Msg{Kind: api.KGet, Key: key96 + "k"}, api.ErrText},
		{api.Msg{Kind: api.KGet, Key: strings.Repeat("k", 256)}, api.ErrText},
		{api.Msg{Kind: api.KMove, Pairs: append(somePairs(8), api.Pair{})}, api.ErrText},
		{api.Msg{Kind: api.KMove, Pairs: samePairs(8, "", "")}, api.ErrText},
		{api.Msg{Kind: api.KPut, Key: "k", Val: val512 + "v"}, api.ErrLong},
		{api.Msg{Kind: api.KPut, Key: "k", Val: strings.Repeat("v", 1<<16)}, api.ErrLong},
		{api.Msg{Kind: api.KGot, Has: true, Val: val512 + "v"}, api.ErrLong},
		{api.Msg{Kind: api.KHop, Peers: somePeers(17)}, api.ErrLong},
		{api.Msg{Kind: api.KHop, Peers: somePeers(256 + 1)}, api.ErrLong},
		{api.Msg{Kind: api.KTell, Peers: somePeers(17)}, api.ErrLong},
		{api.Msg{Kind: api.KMove, Pairs: somePairs(9)}, api.ErrLong},
		{api.Msg{Kind: api.KMove, Pairs: samePairs(1, "k", val512+"v")}, api.ErrLong},
		{api.Msg{Kind: api.KMove, Pairs: samePairs(256+1, "k", "v")}, api.ErrLong},
		{api.Msg{Kind: api.KHop}, api.ErrShort},
		{api.Msg{Kind: api.KHop, Has: true, Peers: []api.Peer{}}, api.ErrShort},
		{api.Msg{Kind: api.KMove}, api.ErrShort},
		{api.Msg{Kind: api.KMove, Has: true, Pairs: []api.Pair{}}, api.ErrShort},
		{api.Msg{Kind: api.KNay}, api.ErrShort},
	}
	for _, m := range someValid() {
		for _, c := range columns {
			if !owns(m, c) {
				more, all := deep(m), choices()[c]
				reflect.ValueOf(&more).Elem().FieldByName(c).Set(reflect.ValueOf(all[len(all)-1]))
				if c != "Has" || m.Kind != api.KTell && m.Kind != api.KGot {
					l = append(l, row{more, api.ErrArg})
				}
			}
		}
	}
	return l
}

// 9.1, R2: what is not valid is refused with Right's error, without any bytes.
func TestEncOfWhatIsNotValid(t *testing.T) {
	for _, c := range spoiltMessages() {
		if b, err := Enc(c.m); err != c.want || len(b) != 0 {
			t.Errorf("Enc(%s) = %s, %d, want the error %d", show(c.m), show(b), err, c.want)
		}
		checkEnc(t, c.m)
	}
}

// 9.1, R2: fields of all kinds, own or not, beside each other, by the words: the error is always Right's.
func TestEncOfAnyFields(t *testing.T) {
	seen := map[api.Errno]int{}
	keys := []string{"", "k", "\xff"}
	vals := []string{"", "v", val512, val512 + "v"}
	for kind := -1; kind < 15; kind++ {
		for choice := range 32 {
			m := api.Msg{Kind: kind, Rid: 1, Code: uint8(choice & 1), Has: choice&2 != 0, ID: uint64(choice & 4), Peer: api.Peer{ID: uint64(choice & 8), Addr: uint16(choice & 16)}}
			for _, m.Key = range keys {
				for _, m.Val = range vals {
					for _, m.Peers = range [][]api.Peer{nil, {}, somePeers(1), somePeers(16), somePeers(17)} {
						for _, m.Pairs = range [][]api.Pair{nil, {}, somePairs(1), somePairs(8), somePairs(9), {{}}} {
							checkEnc(t, m)
							seen[msg.Right(m)]++
						}
					}
				}
			}
		}
	}
	for _, err := range []api.Errno{api.OK, api.ErrKind, api.ErrArg, api.ErrText, api.ErrLong, api.ErrShort} {
		if seen[err] == 0 {
			t.Errorf("no message gets %d", err)
		}
	}
}

// 9.2: every encoding, cut off after each of its bytes, is short, and nothing of it is told.
func TestDecOfCutEncodings(t *testing.T) {
	check := func(m api.Msg) {
		b := encode(m)
		for n := range b {
			if got, err := Dec(b[:n]); err != api.ErrShort || !same(got, api.Msg{}) {
				t.Fatalf("the first %d bytes of %s: Dec = %s, %d, want the error %d", n, show(m), show(got), err, api.ErrShort)
			}
		}
	}
	for _, m := range someValid() {
		check(m)
	}
	eachValid(func(m api.Msg) {
		if m.Rid == 1 && len(encode(m)) < 200 {
			check(m)
		}
	})
}

// 9.2: every encoding with a byte more, or with more than one, is refused as that, also if it is followed by a whole encoding.
func TestDecOfMoreBytes(t *testing.T) {
	eachValid(func(m api.Msg) {
		b := encode(m)
		for _, tail := range [][]byte{{0}, {1}, {255}, {0, 0}, {11, 0, 0, 0, 1}} {
			if got, err := Dec(join(b, tail)); err != api.ErrMore || !same(got, api.Msg{}) {
				t.Fatalf("%s and %d: Dec = %s, %d, want the error %d", show(m), tail, show(got), err, api.ErrMore)
			}
		}
	})
	for c := range 256 {
		for _, m := range someValid() {
			expectDec(t, show(m), cat(encode(m), byte(c)), api.ErrMore)
		}
	}
}

// 9.2: the Kind is judged ahead of whatever is behind it, and needs nothing behind it.
func TestDecOfKinds(t *testing.T) {
	for kind := range 256 {
		isKind := kind >= 1 && kind <= 12
		for _, tail := range [][]byte{nil, {0}, {0, 0, 0}, {0, 0, 0, 1}, run(5, 0), run(9, 255), run(5000, 1)} {
			b := cat([]byte{byte(kind)}, tail...)
			if !isKind {
				expectDec(t, "no kind", b, api.ErrKind)
			}
			if err := checkDec(t, b); isKind && err == api.ErrKind {
				t.Errorf("the Kind %d is refused", kind)
			}
			if isKind && len(tail) < 4 {
				expectDec(t, "a short Rid", b, api.ErrShort)
			}
		}
	}
}

// 9.2: a Has is 0 or 1, with or without anything behind it.
func TestDecOfHas(t *testing.T) {
	tails := map[int][][]byte{
		api.KHop:  {nil, {0}, {1}, {1, 0, 0, 0, 0, 0, 0, 0, 1, 0, 2}, {17}, run(100, 255)},
		api.KTell: {nil, {0}, {1}, {1, 0, 0, 0, 0, 0, 0, 0, 1, 0, 2}, {17}, run(11, 0), run(100, 255)},
		api.KGot:  {nil, {0}, {0, 0}, {0, 1, 'v'}, {2, 1}, run(100, 255)},
		api.KMove: {nil, {0}, {1, 1, 'k', 0, 0}, {9}, run(100, 255)},
	}
	for kind, l := range tails {
		for _, tail := range l {
			for has := range 256 {
				b := cat(head(kind, byte(has)), tail...)
				if has > 1 {
					expectDec(t, "a Has", b, api.ErrForm)
				}
				if err := checkDec(t, b); has <= 1 && err == api.ErrForm {
					t.Errorf("Dec(%s): the Has %d is refused", show(b), has)
				}
			}
		}
	}
}

// lengths are the heads of all fields that have a length or a number ahead of them, with the size of that, the greatest that is taken, and the bytes of one element with nothing in it that has a length.
func lengths() []struct {
	name       string
	head       []byte
	size, most int
	element    []byte
} {
	pair := cat([]byte{96}, []byte(key96)...)
	return []struct {
		name       string
		head       []byte
		size, most int
		element    []byte
	}{
		{"Key of a put", head(api.KPut), 1, 96, []byte{'k'}},
		{"Key of a get", head(api.KGet), 1, 96, []byte{'k'}},
		{"Val of a put", head(api.KPut, 1, 'k'), 2, 512, []byte{'v'}},
		{"Val of a got", head(api.KGot, 1), 2, 512, []byte{'v'}},
		{"Peers of a hop", head(api.KHop, 0), 1, 16, run(10, 1)},
		{"Peers of a hop with Has", head(api.KHop, 1), 1, 16, run(10, 1)},
		{"Peers of a tell", head(api.KTell, 0), 1, 16, run(10, 1)},
		{"Peers of a tell with Has", cat(head(api.KTell, 1), run(10, 9)...), 1, 16, run(10, 1)},
		{"Pairs of a move", head(api.KMove, 0), 1, 8, []byte{1, 'k', 0, 0}},
		{"Pairs of a move with Has", head(api.KMove, 1), 1, 8, []byte{1, 'k', 0, 0}},
		{"Key of a move's first pair", head(api.KMove, 0, 1), 1, 96, []byte{'k'}},
		{"Val of a move's first pair", head(api.KMove, 0, 1, 1, 'k'), 2, 512, []byte{'v'}},
		{"Key of a move's second pair", cat(join(head(api.KMove, 1, 8), pair), 0, 0), 1, 96, []byte{'k'}},
		{"Val of a move's second pair", cat(join(head(api.KMove, 1, 8), pair), 0, 1, 'v', 1, 'k'), 2, 512, []byte{'v'}},
	}
}

// 9.2: each length and each number that a byte can tell, and many of those that two can: one that is too great is refused as that, with nothing, with little and with all behind it; any other asks for just what it tells.
func TestDecOfLengths(t *testing.T) {
	for _, c := range lengths() {
		for n := range 1 << (8 * c.size) {
			if n > 1024 && n%251 != 0 && n%256 != 0 && n != math.MaxUint16 {
				continue
			}
			b := cat(c.head, []byte{byte(n >> 8), byte(n)}[2-c.size:]...)
			whole := join(b, bytes.Repeat(c.element, n))
			if n > c.most {
				expectDec(t, c.name+", alone", b, api.ErrLong)
				expectDec(t, c.name+", with a byte", cat(b, 'v'), api.ErrLong)
				expectDec(t, c.name+", with all of it", whole, api.ErrLong)
				expectDec(t, c.name+", with much", cat(b, run(600, 255)...), api.ErrLong)
				continue
			}
			if n > 0 {
				expectDec(t, c.name+", alone", b, api.ErrShort)
				expectDec(t, c.name+", without its last byte", whole[:len(whole)-1], api.ErrShort)
			}
			for _, tail := range [][]byte{nil, {0}, {0, 0}, {0, 0, 0}} {
				if err := checkDec(t, join(whole, tail)); err == api.ErrLong {
					t.Errorf("%s: %d is refused with %d", c.name, n, err)
				}
			}
		}
	}
}

// 9.2: a length of two bytes of which but one is there is short, however great the first byte makes it.
func TestDecOfHalfALength(t *testing.T) {
	for _, c := range lengths() {
		for high := range 256 {
			if c.size == 2 {
				expectDec(t, c.name, cat(c.head, byte(high)), api.ErrShort)
			}
		}
		expectDec(t, c.name, c.head, api.ErrShort)
	}
}

// 9.2: the greatest of each length and number, taken, and one more, refused.
func TestDecOfGreatest(t *testing.T) {
	for _, m := range []api.Msg{
		{Kind: api.KHop, Rid: 1, Peers: somePeers(16)},
		{Kind: api.KTell, Rid: 1, Peers: somePeers(16)},
		{Kind: api.KTell, Rid: 1, Has: true, Peer: api.Peer{ID: 1}, Peers: somePeers(16)},
		{Kind: api.KMove, Rid: 1, Pairs: somePairs(8)},
		{Kind: api.KMove, Rid: 1, Has: true, Pairs: samePairs(8, key96, val512)},
		{Kind: api.KGet, Rid: 1, Key: key96},
		{Kind: api.KPut, Rid: 1, Key: key96, Val: val512},
		{Kind: api.KGot, Rid: 1, Has: true, Val: val512},
	} {
		if got, err := Dec(encode(m)); err != api.OK || !same(got, m) {
			t.Errorf("Dec of the encoding of %s is %s, %d", show(m), show(got), err)
		}
	}
	for _, m := range []api.Msg{
		{Kind: api.KHop, Rid: 1, Peers: somePeers(17)},
		{Kind: api.KTell, Rid: 1, Peers: somePeers(17)},
		{Kind: api.KTell, Rid: 1, Has: true, Peer: api.Peer{ID: 1}, Peers: somePeers(17)},
		{Kind: api.KMove, Rid: 1, Pairs: somePairs(9)},
		{Kind: api.KMove, Rid: 1, Pairs: append(somePairs(7), api.Pair{Key: strings.Repeat("k", 97)})},
		{Kind: api.KMove, Rid: 1, Pairs: append(somePairs(7), api.Pair{Key: "k", Val: val512 + "v"})},
		{Kind: api.KGet, Rid: 1, Key: key96 + "k"},
		{Kind: api.KPut, Rid: 1, Key: key96 + "k", Val: val512},
		{Kind: api.KPut, Rid: 1, Key: key96, Val: val512 + "v"},
		{Kind: api.KGot, Rid: 1, Has: true, Val: val512 + "v"},
	} {
		expectDec(t, show(m), encode(m), api.ErrLong)
	}
}

// 9.2: bytes that are read whole, but whose message is not valid, get Right's error; with a byte more, or without the last, they get the reader's.
func TestDecOfWhatIsNotValid(t *testing.T) {
	for _, c := range []struct {
		name string
		b    []byte
		want api.Errno
	}{
		{"a put with the empty Key", head(api.KPut, 0, 0, 1, 'v'), api.ErrText},
		{"a put with a stray byte in the Key", head(api.KPut, 2, 'k', 255, 0, 0), api.ErrText},
		{"a get with the empty Key", head(api.KGet, 0), api.ErrText},
		{"a get with a stray byte", head(api.KGet, 1, 128), api.ErrText},
		{"a get with a cut rune", head(api.KGet, 1, 195), api.ErrText},
		{"a get with a surrogate", head(api.KGet, 3, 237, 160, 128), api.ErrText},
		{"a get with a rune in too many bytes", head(api.KGet, 2, 192, 128), api.ErrText},
		{"a get with 33 runes", cat(head(api.KGet, 33), run(33, 'k')...), api.ErrText},
		{"a get with 96 runes", cat(head(api.KGet, 96), run(96, 'k')...), api.ErrText},
		{"a get with 96 stray bytes", cat(head(api.KGet, 96), run(96, 255)...), api.ErrText},
		{"a move whose Key is empty", head(api.KMove, 0, 1, 0, 0, 1, 'v'), api.ErrText},
		{"a move whose second Key is none", head(api.KMove, 1, 2, 1, 'k', 0, 0, 1, 255, 0, 0), api.ErrText},
		{"a move whose first Key is none", head(api.KMove, 1, 2, 1, 255, 0, 0, 1, 'k', 0, 0), api.ErrText},
		{"a hop without Peers", head(api.KHop, 0, 0), api.ErrShort},
		{"a hop with Has without Peers", head(api.KHop, 1, 0), api.ErrShort},
		{"a move without Pairs", head(api.KMove, 0, 0), api.ErrShort},
		{"a move with Has without Pairs", head(api.KMove, 1, 0), api.ErrShort},
		{"a nay with the Code 0", head(api.KNay, 0), api.ErrShort},
	} {
		expectDec(t, c.name, c.b, c.want)
		expectDec(t, c.name+", and a byte", cat(c.b, 0), api.ErrMore)
		expectDec(t, c.name+", and a byte 255", cat(c.b, 255), api.ErrMore)
		expectDec(t, c.name+", without the last byte", c.b[:len(c.b)-1], api.ErrShort)
	}
}

// 9.2, R2: bytes with several faults get the first from left to right.
func TestDecOfSeveralFaults(t *testing.T) {
	many := run(600, 255)
	for _, c := range []struct {
		name string
		b    []byte
		want api.Errno
	}{
		{"no kind, and a short Rid", []byte{0, 1, 2}, api.ErrKind},
		{"no kind, and a great deal more", cat([]byte{13}, many...), api.ErrKind},
		{"a kind, and a short Rid", []byte{2, 255, 255, 255}, api.ErrShort},
		{"a Has of 2, and 17 Peers", head(api.KHop, 2, 17), api.ErrForm},
		{"a Has of 2 ahead of a short Peer", head(api.KTell, 2, 1), api.ErrForm},
		{"a Has of 255, and bytes left", cat(head(api.KGot, 255), many...), api.ErrForm},
		{"a short Peer ahead of 17 Peers", head(api.KTell, 1, 0, 17), api.ErrShort},
		{"17 Peers, short", head(api.KHop, 0, 17, 1, 2, 3), api.ErrLong},
		{"17 Peers, and bytes left", cat(head(api.KHop, 0, 17), many...), api.ErrLong},
		{"a Key of 97 bytes, short", head(api.KPut, 97, 'k'), api.ErrLong},
		{"a Key of 97 bytes ahead of a Val of 513", join(head(api.KPut, 97), run(97, 'k'), []byte{2, 1}), api.ErrLong},
		{"a Key of 3 bytes, short, that would be followed by a Val of 513", head(api.KPut, 3, 2, 1), api.ErrShort},
		{"a Key that is none ahead of a Val of 513", head(api.KPut, 0, 2, 1), api.ErrLong},
		{"a Key that is none ahead of a short Val", head(api.KPut, 1, 255, 0, 5, 'v'), api.ErrShort},
		{"a Key that is none ahead of bytes left", head(api.KGet, 1, 255, 0), api.ErrMore},
		{"a Val of 513 bytes, short", head(api.KPut, 1, 'k', 2, 1), api.ErrLong},
		{"a Val of 513 bytes, and bytes left", join(head(api.KGot, 1, 2, 1), many), api.ErrLong},
		{"9 Pairs, the first with a Key that is none", head(api.KMove, 0, 9, 1, 255, 0, 0), api.ErrLong},
		{"a short first pair ahead of a long second", head(api.KMove, 0, 2, 1, 'k', 0, 5, 97), api.ErrShort},
		{"a pair whose Key is none ahead of one whose Key is long", head(api.KMove, 0, 2, 1, 255, 0, 0, 97), api.ErrLong},
		{"a pair whose Val is long ahead of one whose Key is none", head(api.KMove, 0, 2, 1, 'k', 2, 1, 1, 255, 0, 0), api.ErrLong},
		{"a pair whose Key is none ahead of no second pair", head(api.KMove, 0, 2, 1, 255, 0, 0), api.ErrShort},
		{"a hop without Peers, and bytes left", head(api.KHop, 0, 0, 0), api.ErrMore},
		{"a move without Pairs, and bytes left", head(api.KMove, 0, 0, 0), api.ErrMore},
		{"a nay with the Code 0, and bytes left", head(api.KNay, 0, 1), api.ErrMore},
		{"a got without Has, and a Val", head(api.KGot, 0, 0, 1, 'v'), api.ErrMore},
		{"a tell without Has, and a Peer", cat(head(api.KTell, 0, 0), run(10, 0)...), api.ErrMore},
	} {
		expectDec(t, c.name, c.b, c.want)
		if err := checkDec(t, c.b); err != c.want {
			t.Errorf("%s: the words say %d, want %d", c.name, err, c.want)
		}
	}
}

// checkTaken holds 9.3 to bytes: if Dec takes them, Enc returns them.
func checkTaken(t *testing.T, b []byte) bool {
	t.Helper()
	m, err := Dec(b)
	if err != api.OK {
		return false
	}
	if again, fault := Enc(m); fault != api.OK || !bytes.Equal(again, b) {
		t.Fatalf("Dec(%s) = %s, whose encoding is %s, %d", show(b), show(m), show(again), fault)
	}
	return true
}

// 9.2, 9.3, R1: all rows of up to two bytes, and longer ones behind each kind, of the bytes at which something begins or ends.
func TestDecOfShortBytes(t *testing.T) {
	var all []byte
	for c := range 256 {
		all = append(all, byte(c))
	}
	check := func(b []byte) {
		checkDec(t, b)
		checkTaken(t, b)
	}
	for length := range 3 {
		combine(all, length, check)
	}
	edges := []byte{0, 1, 2, 3, 'k', 97, 255}
	for kind := 1; kind <= 12; kind++ {
		for length := range 6 {
			combine(edges, length, func(b []byte) { check(join(head(kind), b)) })
		}
	}
}

// combine yields all rows of that length over the alphabet.
func combine(alphabet []byte, length int, f func([]byte)) {
	if length == 0 {
		f(nil)
		return
	}
	combine(alphabet, length-1, func(b []byte) {
		for _, c := range alphabet {
			f(cat(b, c))
		}
	})
}

// 9.2, 9.3: encodings in which a byte is changed, left out, or put in, at each place.
func TestDecOfSpoiltEncodings(t *testing.T) {
	taken, refused := 0, map[api.Errno]int{}
	check := func(b []byte) {
		refused[checkDec(t, b)]++
		if checkTaken(t, b) {
			taken++
		}
	}
	for _, m := range someValid() {
		b := encode(m)
		for at := range b {
			if at > 300 && at%50 != 0 {
				continue
			}
			for _, c := range []byte{0, 1, 2, 8, 9, 16, 17, 96, 97, 128, 255, b[at] + 1, b[at] - 1, b[at] ^ 128} {
				check(join(b[:at], []byte{c}, b[at+1:]))
				check(join(b[:at], []byte{c}, b[at:]))
			}
			check(join(b[:at], b[at+1:]))
			check(join(b[:at], b[at:], b[at:]))
		}
	}
	for _, err := range []api.Errno{api.OK, api.ErrShort, api.ErrKind, api.ErrForm, api.ErrLong, api.ErrMore, api.ErrText} {
		if refused[err] == 0 {
			t.Errorf("no bytes get %d", err)
		}
	}
	if taken != refused[api.OK] || taken < 1000 {
		t.Errorf("%d taken", taken)
	}
}

// mixed are count numbers that look as if there were no rule to them.
func mixed(count int) []uint64 {
	l := make([]uint64, count)
	x := uint64(88172645463325252)
	for i := range l {
		x ^= x << 13
		x ^= x >> 7
		x ^= x << 17
		l[i] = x
	}
	return l
}

// 9.2, 9.3, R1: bytes without a rule to them, most of them small, of many lengths.
func TestDecOfAnyBytes(t *testing.T) {
	taken := 0
	numbers := mixed(400000)
	for len(numbers) > 100 {
		b := make([]byte, numbers[0]%40)
		for i := range b {
			n := numbers[1+i]
			b[i] = byte(n >> 8)
			if n&7 != 0 {
				b[i] = byte(n>>8) % 3
			}
		}
		if len(b) > 0 {
			b[0] = byte(numbers[50] % 14)
		}
		checkDec(t, b)
		if checkTaken(t, b) {
			taken++
		}
		numbers = numbers[1+len(b):]
	}
	if taken < 100 {
		t.Errorf("only %d taken", taken)
	}
}

// 9.1, 9.3: no two messages have one encoding, and none is the beginning of another's.
func TestEncTellsMessagesApart(t *testing.T) {
	seen := map[string]api.Msg{}
	eachValid(func(m api.Msg) {
		b, _ := Enc(m)
		if other, known := seen[string(b)]; known && !same(m, other) {
			t.Fatalf("%s and %s have one encoding", show(m), show(other))
		}
		seen[string(b)] = m
	})
	for b, m := range seen {
		for n := range min(len(b), 30) {
			if other, known := seen[b[:n]]; known {
				t.Fatalf("the encoding of %s begins with that of %s", show(m), show(other))
			}
		}
	}
}

// 9.1, R4: Enc leaves its argument as it is, with all that is behind its slices, and returns new memory.
func TestEncLeavesItsArgument(t *testing.T) {
	for _, m := range someValid() {
		peers := append(deep(m).Peers, somePeers(5)...)
		pairs := append(deep(m).Pairs, somePairs(5)...)
		beforePeers, beforePairs := append([]api.Peer(nil), peers...), append([]api.Pair(nil), pairs...)
		given := m
		given.Peers, given.Pairs = peers[:len(m.Peers)], pairs[:len(m.Pairs)]
		first, _ := Enc(given)
		second, _ := Enc(given)
		if !same(given, m) || !reflect.DeepEqual(peers, beforePeers) || !reflect.DeepEqual(pairs, beforePairs) {
			t.Errorf("Enc(%s) changed its argument", show(m))
		}
		want := bytes.Clone(second)
		for i := range first[:cap(first)] {
			first[:cap(first)][i] = 77
		}
		for i := range peers {
			peers[i] = api.Peer{ID: 77, Addr: 77}
		}
		for i := range pairs {
			pairs[i] = api.Pair{Key: "spoilt", Val: "spoilt"}
		}
		if !bytes.Equal(second, want) {
			t.Errorf("Enc(%s): a change of the argument or of another result changed the result", show(m))
		}
	}
}

// 9.2, R4: Dec leaves its argument as it is, with all that is behind it, and what it returns doesn't change with it; two results share nothing.
func TestDecLeavesItsArgument(t *testing.T) {
	for _, m := range someValid() {
		all := join(encode(m), run(20, 33))
		before := bytes.Clone(all)
		b := all[:len(all)-20]
		first, _ := Dec(b)
		second, err := Dec(b)
		if err != api.OK || !bytes.Equal(all, before) {
			t.Errorf("Dec(%s) = %s, %d, or it changed its argument", show(b), show(second), err)
		}
		for i := range all {
			all[i] = 77
		}
		for i := range first.Peers[:cap(first.Peers)] {
			first.Peers[:cap(first.Peers)][i] = api.Peer{ID: 77, Addr: 77}
		}
		for i := range first.Pairs[:cap(first.Pairs)] {
			first.Pairs[:cap(first.Pairs)][i] = api.Pair{Key: "spoilt", Val: "spoilt"}
		}
		if !same(second, m) {
			t.Errorf("Dec of the encoding of %s became %s", show(m), show(second))
		}
	}
	for _, b := range [][]byte{{}, {13, 0}, {11, 0, 0, 0}, head(api.KHop, 2), head(api.KGet, 97, 'k'), head(api.KNay, 0), head(api.KPing, 0)} {
		before := bytes.Clone(b)
		if Dec(b); !bytes.Equal(b, before) {
			t.Errorf("Dec(%d) changed its argument", before)
		}
	}
}

// 9.1, 9.2, R5: what is refused leaves nothing behind, nor does what is taken.
func TestCallsLeaveNothingBehind(t *testing.T) {
	spoilt := [][]byte{{}, {13, 0}, {11, 0, 0, 0}, head(api.KHop, 2), head(api.KGet, 97, 'k'), head(api.KNay, 0), head(api.KPing, 0)}
	for _, m := range someValid() {
		for i, c := range spoiltMessages() {
			Enc(c.m)
			Dec(spoilt[i%len(spoilt)])
			checkEnc(t, m)
			checkDec(t, encode(m))
		}
	}
}
