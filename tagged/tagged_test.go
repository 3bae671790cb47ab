package tagged

import (
	"bytes"
	"fmt"
	"math"
	"math/big"
	"reflect"
	"strconv"
	"strings"
	"testing"

	"annulet/api"
	"annulet/msg"
)

// table is the table of chapter 8, word by word, without the replies: the columns are named by columns.
const table = `
| KFind 1 | find | | | yes | | | | | |
| KHop 2 | hop | | yes | | | yes | | | |
| KAsk 3 | ask | | | | | | | | |
| KTell 4 | tell | | yes | | if Has | yes | | | |
| KNote 5 | note | | | | yes | | | | |
| KOkay 6 | okay | | | | | | | | |
| KPut 7 | put | | | | | | yes | yes | |
| KGet 8 | get | | | | | | yes | | |
| KGot 9 | got | | yes | | | | | if Has | |
| KMove 10 | move | | yes | | | | | | yes |
| KPing 11 | ping | | | | | | | | |
| KNay 12 | nay | yes | | | | | | | |
`

// columns are the table's columns in its order.
var columns = []string{"Code", "Has", "ID", "Peer", "Peers", "Key", "Val", "Pairs"}

// tagOrder are the fields in the order in which chapter 10 writes them: the first has the tag 1.
var tagOrder = []string{"Rid", "Code", "Has", "ID", "Key", "Val", "Peer", "Peers", "Pairs"}

var cells = readTable()

// readTable yields the cells of the columns, by kind and column.
func readTable() map[int]map[string]string {
	all := map[int]map[string]string{}
	for _, line := range strings.Split(strings.TrimSpace(table), "\n") {
		row := strings.Split(strings.Trim(line, "|"), "|")
		_, digits, _ := strings.Cut(strings.TrimSpace(row[0]), " ")
		kind, err := strconv.Atoi(digits)
		if err != nil || len(row) != len(columns)+2 {
			panic("a bad line: " + line)
		}
		all[kind] = map[string]string{}
		for i, c := range columns {
			all[kind][c] = strings.TrimSpace(row[2+i])
		}
	}
	return all
}

// owns tells whether the kind of m has the field, by the table.
func owns(m api.Msg, column string) bool {
	cell := cells[m.Kind][column]
	return cell == "yes" || cell == "if Has" && m.Has
}

// value is the field of m with that name.
func value(m api.Msg, field string) any {
	return reflect.ValueOf(m).FieldByName(field).Interface()
}

// isZero tells what has no tag: 0, false, the empty string, an empty slice, a Peer of zeros.
func isZero(v any) bool {
	if r := reflect.ValueOf(v); r.Kind() == reflect.Slice {
		return r.Len() == 0
	}
	return reflect.ValueOf(v).IsZero()
}

// encode follows the chapter's words on the encoding of a valid message.
func encode(m api.Msg) []byte {
	b := number(uint64(m.Kind))
	for i, f := range tagOrder {
		if v := value(m, f); !isZero(v) {
			b = join(b, number(uint64(i+1)), content(v))
		}
	}
	return b
}

// content is what is behind a tag.
func content(v any) []byte {
	var b []byte
	switch v := v.(type) {
	case bool:
	case uint8:
		b = number(uint64(v))
	case uint32:
		b = number(uint64(v))
	case uint64:
		b = number(v)
	case string:
		b = join(number(uint64(len(v))), []byte(v))
	case api.Peer:
		b = join(number(v.ID), number(uint64(v.Addr)))
	case []api.Peer:
		b = number(uint64(len(v)))
		for _, p := range v {
			b = join(b, content(p))
		}
	case []api.Pair:
		b = number(uint64(len(v)))
		for _, p := range v {
			b = join(b, content(p.Key), content(p.Val))
		}
	default:
		panic("no such field")
	}
	return b
}

// number follows the words of chapter 1 on the encoding of a number.
func number(n uint64) []byte {
	digits := new(big.Int).SetUint64(n).Text(2)
	for len(digits)%7 != 0 {
		digits = "0" + digits
	}
	var b []byte
	for ; len(digits) > 0; digits = digits[:len(digits)-7] {
		group, err := strconv.ParseUint(digits[len(digits)-7:], 2, 8)
		if err != nil {
			panic(err)
		}
		b = append(b, byte(group)+128)
	}
	b[len(b)-1] -= 128
	return b
}

// source is what decode has not read yet; an error is told by a panic.
type source struct{ rest []byte }

// number follows the words of chapter 1 on Get, and judges the number at last.
func (s *source) number(most uint64) uint64 {
	size := 0
	for size < len(s.rest) && s.rest[size] >= 128 {
		size++
	}
	switch {
	case size >= 10:
		panic(api.ErrForm)
	case size == len(s.rest):
		panic(api.ErrShort)
	}
	n := new(big.Int)
	for i := size; i >= 0; i-- {
		n.Lsh(n, 7).Or(n, big.NewInt(int64(s.rest[i]%128)))
	}
	if !n.IsUint64() || size > 0 && s.rest[size] == 0 {
		panic(api.ErrForm)
	}
	if n.Uint64() > most {
		panic(api.ErrLong)
	}
	s.rest = s.rest[size+1:]
	return n.Uint64()
}

func (s *source) text(most uint64) string {
	size := s.number(most)
	if uint64(len(s.rest)) < size {
		panic(api.ErrShort)
	}
	piece := string(s.rest[:size])
	s.rest = s.rest[size:]
	return piece
}

func (s *source) peer() api.Peer {
	p := api.Peer{ID: s.number(math.MaxUint64)}
	p.Addr = uint16(s.number(65535))
	return p
}

// field reads what is behind a tag into m.
func (s *source) field(m *api.Msg, name string) {
	switch name {
	case "Rid":
		m.Rid = uint32(s.number(1<<32 - 1))
	case "Code":
		m.Code = uint8(s.number(255))
	case "Has":
		m.Has = true
	case "ID":
		m.ID = s.number(math.MaxUint64)
	case "Key":
		m.Key = s.text(96)
	case "Val":
		m.Val = s.text(512)
	case "Peer":
		m.Peer = s.peer()
	case "Peers":
		for range s.number(16) {
			m.Peers = append(m.Peers, s.peer())
		}
	case "Pairs":
		for range s.number(8) {
			p := api.Pair{Key: s.text(96)}
			p.Val = s.text(512)
			m.Pairs = append(m.Pairs, p)
		}
	}
}

// decode follows the words of 10.2.
func decode(b []byte) (m api.Msg, err api.Errno) {
	defer func() {
		if fault := recover(); fault != nil {
			m, err = api.Msg{}, fault.(api.Errno)
		}
	}()
	s := &source{b}
	kind := s.number(math.MaxUint64)
	if kind < 1 || kind > 12 {
		panic(api.ErrKind)
	}
	m.Kind = int(kind)
	for last := uint64(0); len(s.rest) > 0; {
		tag := s.number(math.MaxUint64)
		if tag < 1 || tag > 9 || tag <= last {
			panic(api.ErrForm)
		}
		s.field(&m, tagOrder[tag-1])
		if isZero(value(m, tagOrder[tag-1])) {
			panic(api.ErrForm)
		}
		last = tag
	}
	if fault := msg.Right(m); fault != api.OK {
		panic(fault)
	}
	return m, api.OK
}

// show keeps what a failed test prints short.
func show(v any) string {
	s := fmt.Sprintf("%+v", v)
	if len(s) > 400 {
		return s[:400] + " and more"
	}
	return s
}

// same tells whether all fields are equal; an empty slice is equal to none (R3).
func same(a, b api.Msg) bool {
	for _, m := range []*api.Msg{&a, &b} {
		if len(m.Peers) == 0 {
			m.Peers = nil
		}
		if len(m.Pairs) == 0 {
			m.Pairs = nil
		}
	}
	return reflect.DeepEqual(a, b)
}

// deep is a copy that shares nothing with m.
func deep(m api.Msg) api.Msg {
	m.Peers = append([]api.Peer(nil), m.Peers...)
	m.Pairs = append([]api.Pair(nil), m.Pairs...)
	m.Key, m.Val = strings.Clone(m.Key), strings.Clone(m.Val)
	return m
}

// checkEnc holds Enc to the chapter's words, and to R2.
func checkEnc(t *testing.T, m api.Msg) {
	t.Helper()
	got, err := Enc(m)
	wantErr := msg.Right(m)
	var want []byte
	if wantErr == api.OK {
		want = encode(m)
	}
	if err != wantErr || !bytes.Equal(got, want) {
		t.Fatalf("Enc(%s) = %s, %d, want %s, %d", show(m), show(got), err, show(want), wantErr)
	}
}

// checkDec holds Dec to the chapter's words, and to R2; it returns the error.
func checkDec(t *testing.T, b []byte) api.Errno {
	t.Helper()
	got, err := Dec(b)
	want, wantErr := decode(b)
	if err != wantErr || !same(got, want) {
		t.Fatalf("Dec(%s) = %s, %d, want %s, %d", show(b), show(got), err, show(want), wantErr)
	}
	return err
}

// expectDec holds Dec to an error, without any of the message.
func expectDec(t *testing.T, name string, b []byte, want api.Errno) {
	t.Helper()
	if got, err := Dec(b); err != want || !same(got, api.Msg{}) {
		t.Errorf("%s: Dec(%s) = %s, %d, want the error %d", name, show(b), show(got), err, want)
	}
}

// run is count times the byte c.
func run(count int, c byte) []byte {
	return bytes.Repeat([]byte{c}, count)
}

// join is all of that, one behind the other.
func join(pieces ...[]byte) []byte {
	return bytes.Join(pieces, nil)
}

// cat is head with the bytes of tail behind it.
func cat(head []byte, tail ...byte) []byte {
	return join(head, tail)
}

// head is the Kind and a Rid of 1 behind its tag.
func head(kind int, tail ...byte) []byte {
	return cat([]byte{byte(kind), 1, 1}, tail...)
}

var (
	key32  = strings.Repeat("k", 32)
	key96  = strings.Repeat("\u20ac", 32)
	val511 = strings.Repeat("v", 511)
	val512 = strings.Repeat("\xff", 512)
)

// somePeers are count peers that differ, with bytes that differ.
func somePeers(count int) []api.Peer {
	l := make([]api.Peer, count)
	for i := range l {
		l[i] = api.Peer{ID: 0x0102030405060708 * uint64(i+1), Addr: uint16(0x0f0e * (i + 1))}
	}
	return l
}

// somePairs are count pairs that differ; the first one's value is empty.
func somePairs(count int) []api.Pair {
	l := make([]api.Pair, count)
	for i := range l {
		l[i] = api.Pair{Key: "k" + strconv.Itoa(i), Val: strings.Repeat("v", 70*i)}
	}
	return l
}

// samePairs are count pairs that are equal.
func samePairs(count int, key, val string) []api.Pair {
	l := make([]api.Pair, count)
	for i := range l {
		l[i] = api.Pair{Key: key, Val: val}
	}
	return l
}

// choices are the values of each field that the tests put beside each other; they begin with the least and end with the greatest that is valid.
func choices() map[string][]any {
	peers := []any{api.Peer{}, api.Peer{ID: 1}, api.Peer{Addr: 1}, api.Peer{ID: 127, Addr: 128}, api.Peer{ID: 128, Addr: 127}, api.Peer{ID: 1 << 63, Addr: 1 << 14}, api.Peer{ID: math.MaxUint64, Addr: math.MaxUint16}}
	return map[string][]any{
		"Rid":  {uint32(0), uint32(1), uint32(127), uint32(128), uint32(300), uint32(1<<28 - 1), uint32(1 << 28), uint32(math.MaxUint32)},
		"Code": {uint8(1), uint8(2), uint8(127), uint8(128), uint8(255)},
		"Has":  {false, true},
		"ID":   {uint64(0), uint64(1), uint64(127), uint64(128), uint64(0x0102030405060708), uint64(1 << 32), uint64(1<<63 - 1), uint64(1 << 63), uint64(math.MaxUint64)},
		"Peer": peers,
		"Peers": {
			[]api.Peer(nil), []api.Peer{}, []api.Peer{{}}, []api.Peer{{ID: math.MaxUint64, Addr: math.MaxUint16}},
			[]api.Peer{{ID: 1, Addr: 2}, {ID: 1, Addr: 2}}, []api.Peer{{}, {ID: 1}, {Addr: 1}}, somePeers(2), somePeers(15), somePeers(16), make([]api.Peer, 16),
		},
		"Key": {"k", "\x00", " ", "ab", "\u00e9", "\U0001f511", key32, key96},
		"Val": {"", "v", "\x00", "\xff\x80", strings.Repeat("v", 127), strings.Repeat("v", 128), strings.Repeat("v", 255), strings.Repeat("v", 256), val511, val512},
		"Pairs": {
			[]api.Pair{{Key: "k"}}, []api.Pair{{Key: "k", Val: "v"}}, []api.Pair{{Key: "k", Val: "v"}, {Key: "k", Val: "v"}},
			somePairs(2), somePairs(7), somePairs(8), samePairs(8, key96, val512), []api.Pair{{Key: key96}, {Key: "\x00", Val: val512}},
		},
	}
}

// eachChoice yields messages of the kind in which each field that it has takes each of its choices beside each of the others'.
func eachChoice(kind int, f func(api.Msg)) {
	l := choices()
	var set func(m api.Msg, names []string)
	set = func(m api.Msg, names []string) {
		if len(names) == 0 {
			f(m)
			return
		}
		if names[0] != "Rid" && !owns(m, names[0]) {
			set(m, names[1:])
			return
		}
		for _, v := range l[names[0]] {
			next := m
			reflect.ValueOf(&next).Elem().FieldByName(names[0]).Set(reflect.ValueOf(v))
			set(next, names[1:])
		}
	}
	set(api.Msg{Kind: kind}, append([]string{"Rid"}, columns...))
}

// eachValid yields the valid ones among the messages of all kinds.
func eachValid(f func(api.Msg)) {
	for kind := 1; kind <= 12; kind++ {
		eachChoice(kind, func(m api.Msg) {
			if msg.Right(m) == api.OK {
				f(m)
			}
		})
	}
}

// someValid are a few messages of all kinds, the greatest among them.
func someValid() []api.Msg {
	peer := api.Peer{ID: 0x1122334455667788, Addr: 0x99aa}
	return []api.Msg{
		{Kind: api.KFind, Rid: 0x01020304, ID: 0x1112131415161718},
		{Kind: api.KHop, Rid: 5, Peers: somePeers(1)},
		{Kind: api.KHop, Rid: 6, Has: true, Peers: somePeers(16)},
		{Kind: api.KAsk, Rid: math.MaxUint32},
		{Kind: api.KTell, Rid: 7},
		{Kind: api.KTell, Rid: 8, Has: true, Peer: peer},
		{Kind: api.KTell, Rid: 9, Peers: somePeers(3)},
		{Kind: api.KTell, Rid: 10, Has: true, Peer: peer, Peers: somePeers(16)},
		{Kind: api.KNote, Rid: 11, Peer: peer},
		{Kind: api.KOkay, Rid: 12},
		{Kind: api.KPut, Rid: 13, Key: "k"},
		{Kind: api.KPut, Rid: 14, Key: key96, Val: val512},
		{Kind: api.KPut, Rid: 15, Key: "key", Val: "value"},
		{Kind: api.KGet, Rid: 16, Key: "key"},
		{Kind: api.KGet, Rid: 17, Key: key96},
		{Kind: api.KGot, Rid: 18},
		{Kind: api.KGot, Rid: 19, Has: true},
		{Kind: api.KGot, Rid: 20, Has: true, Val: val512},
		{Kind: api.KMove, Rid: 21, Pairs: samePairs(1, "k", "")},
		{Kind: api.KMove, Rid: 22, Has: true, Pairs: somePairs(3)},
		{Kind: api.KMove, Rid: 23, Has: true, Pairs: samePairs(8, key96, val512)},
		{Kind: api.KPing, Rid: 24},
		{Kind: api.KNay, Rid: 25, Code: 21},
	}
}

// written are messages and their bytes, both written out here.
func written() []struct {
	m api.Msg
	b []byte
} {
	return []struct {
		m api.Msg
		b []byte
	}{
		{api.Msg{Kind: api.KPing, Rid: 300}, []byte{11, 1, 172, 2}},
		{api.Msg{Kind: api.KPing}, []byte{11}},
		{api.Msg{Kind: api.KPing, Rid: 7}, []byte{11, 1, 7}},
		{api.Msg{Kind: api.KPing, Rid: 127}, []byte{11, 1, 127}},
		{api.Msg{Kind: api.KPing, Rid: 128}, []byte{11, 1, 128, 1}},
		{api.Msg{Kind: api.KPing, Rid: math.MaxUint32}, []byte{11, 1, 255, 255, 255, 255, 15}},
		{api.Msg{Kind: api.KAsk, Rid: 1}, []byte{3, 1, 1}},
		{api.Msg{Kind: api.KOkay, Rid: 16384}, []byte{6, 1, 128, 128, 1}},
		{api.Msg{Kind: api.KNay, Code: 1}, []byte{12, 2, 1}},
		{api.Msg{Kind: api.KNay, Rid: 1, Code: 255}, []byte{12, 1, 1, 2, 255, 1}},
		{api.Msg{Kind: api.KFind}, []byte{1}},
		{api.Msg{Kind: api.KFind, Rid: 1}, []byte{1, 1, 1}},
		{api.Msg{Kind: api.KFind, ID: 1}, []byte{1, 4, 1}},
		{api.Msg{Kind: api.KFind, Rid: 2, ID: 300}, []byte{1, 1, 2, 4, 172, 2}},
		{api.Msg{Kind: api.KFind, Rid: 1, ID: math.MaxUint64}, []byte{1, 1, 1, 4, 255, 255, 255, 255, 255, 255, 255, 255, 255, 1}},
		{api.Msg{Kind: api.KHop, Peers: []api.Peer{{}}}, []byte{2, 8, 1, 0, 0}},
		{api.Msg{Kind: api.KHop, Rid: 1, Peers: []api.Peer{{ID: 258, Addr: 3}}}, []byte{2, 1, 1, 8, 1, 130, 2, 3}},
		{api.Msg{Kind: api.KHop, Rid: 1, Has: true, Peers: []api.Peer{{ID: 1, Addr: 65535}, {ID: 4}}}, []byte{2, 1, 1, 3, 8, 2, 1, 255, 255, 3, 4, 0}},
		{api.Msg{Kind: api.KTell}, []byte{4}},
		{api.Msg{Kind: api.KTell, Has: true}, []byte{4, 3}},
		{api.Msg{Kind: api.KTell, Has: true, Peer: api.Peer{ID: 10, Addr: 11}}, []byte{4, 3, 7, 10, 11}},
		{api.Msg{Kind: api.KTell, Has: true, Peer: api.Peer{ID: 10}}, []byte{4, 3, 7, 10, 0}},
		{api.Msg{Kind: api.KTell, Has: true, Peer: api.Peer{Addr: 11}}, []byte{4, 3, 7, 0, 11}},
		{api.Msg{Kind: api.KTell, Peers: []api.Peer{{ID: 10, Addr: 11}}}, []byte{4, 8, 1, 10, 11}},
		{api.Msg{Kind: api.KTell, Rid: 9, Has: true, Peer: api.Peer{ID: 5, Addr: 6}, Peers: []api.Peer{{ID: 7, Addr: 8}}}, []byte{4, 1, 9, 3, 7, 5, 6, 8, 1, 7, 8}},
		{api.Msg{Kind: api.KNote}, []byte{5}},
		{api.Msg{Kind: api.KNote, Rid: 1, Peer: api.Peer{ID: 128, Addr: 256}}, []byte{5, 1, 1, 7, 128, 1, 128, 2}},
		{api.Msg{Kind: api.KPut, Key: "k"}, []byte{7, 5, 1, 'k'}},
		{api.Msg{Kind: api.KPut, Rid: 1, Key: "ab", Val: "cde"}, []byte{7, 1, 1, 5, 2, 'a', 'b', 6, 3, 'c', 'd', 'e'}},
		{api.Msg{Kind: api.KPut, Rid: 1, Key: key96, Val: val512}, join([]byte{7, 1, 1, 5, 96}, []byte(key96), []byte{6, 128, 4}, []byte(val512))},
		{api.Msg{Kind: api.KGet, Key: "\x00"}, []byte{8, 5, 1, 0}},
		{api.Msg{Kind: api.KGet, Rid: 1, Key: "\u00e9"}, []byte{8, 1, 1, 5, 2, 195, 169}},
		{api.Msg{Kind: api.KGot}, []byte{9}},
		{api.Msg{Kind: api.KGot, Rid: 1, Has: true}, []byte{9, 1, 1, 3}},
		{api.Msg{Kind: api.KGot, Rid: 1, Has: true, Val: "\xff"}, []byte{9, 1, 1, 3, 6, 1, 255}},
		{api.Msg{Kind: api.KGot, Has: true, Val: val511}, join([]byte{9, 3, 6, 255, 3}, []byte(val511))},
		{api.Msg{Kind: api.KMove, Pairs: []api.Pair{{Key: "k"}}}, []byte{10, 9, 1, 1, 'k', 0}},
		{api.Msg{Kind: api.KMove, Rid: 1, Has: true, Pairs: []api.Pair{{Key: "k", Val: "v"}, {Key: "ab"}}}, []byte{10, 1, 1, 3, 9, 2, 1, 'k', 1, 'v', 2, 'a', 'b', 0}},
	}
}

// 10.1, 10.2: the chapter's examples, and messages whose bytes are written out here, both ways.
func TestWrittenOut(t *testing.T) {
	for _, c := range written() {
		if b, err := Enc(c.m); err != api.OK || !bytes.Equal(b, c.b) {
			t.Errorf("Enc(%s) = %s, %d, want %s", show(c.m), show(b), err, show(c.b))
		}
		if m, err := Dec(c.b); err != api.OK || !same(m, c.m) {
			t.Errorf("Dec(%s) = %s, %d, want %s", show(c.b), show(m), err, show(c.m))
		}
	}
	expectDec(t, "a Rid of 0", []byte{11, 1, 0}, api.ErrForm)
	expectDec(t, "no bytes", []byte{}, api.ErrShort)
	expectDec(t, "nil", nil, api.ErrShort)
}

// 10.1, 10.2, R3: all fields' choices beside each other, by the chapter's words, and back; empty slices are as good as none.
func TestEncAndDecFollowWords(t *testing.T) {
	kinds := map[int]int{}
	eachValid(func(m api.Msg) {
		kinds[m.Kind]++
		checkEnc(t, m)
		b, _ := Enc(m)
		if got, err := Dec(b); err != api.OK || !same(got, m) {
			t.Fatalf("Dec of the encoding of %s is %s, %d", show(m), show(got), err)
		}
	})
	for kind := 1; kind <= 12; kind++ {
		if kinds[kind] < 5 {
			t.Errorf("%d messages of the kind %d, want more", kinds[kind], kind)
		}
	}
}

// spoiltMessages are messages that are not valid, with the error that they must get.
func spoiltMessages() []struct {
	m    api.Msg
	want api.Errno
} {
	type row = struct {
		m    api.Msg
		want api.Errno
	}
	l := []row{
		{api.Msg{}, api.ErrKind},
		{api.Msg{Kind: 13, Rid: 1}, api.ErrKind},
		{api.Msg{Kind: -1}, api.ErrKind},
		{api.Msg{Kind: 255}, api.ErrKind},
		{api.Msg{Kind: 256 + api.KPing, Rid: 1}, api.ErrKind},
		{api.Msg{Kind: 1<<32 + api.KPing, Rid: 1}, api.ErrKind},
		{api.Msg{Kind: math.MinInt}, api.ErrKind},
		{api.Msg{Kind: math.MaxInt}, api.ErrKind},
		{api.Msg{Kind: api.KTell, Peer: api.Peer{ID: 1}}, api.ErrArg},
		{api.Msg{Kind: api.KTell, Peer: api.Peer{Addr: 1}}, api.ErrArg},
		{api.Msg{Kind: api.KGot, Val: "v"}, api.ErrArg},
		{api.Msg{Kind: api.KGot, Val: val512 + "v"}, api.ErrArg},
		{api.Msg{Kind: api.KHop, ID: 1}, api.ErrArg},
		{api.Msg{Kind: api.KPut, Val: "v"}, api.ErrText},
		{api.Msg{Kind: api.KPut, Key: "\xff"}, api.ErrText},
		{api.Msg{Kind: api.KGet, Key: key32 + "k"}, api.ErrText},
		{api.Msg{Kind: api.KGet, Key: key96 + "k"}, api.ErrText},
		{api.Msg{Kind: api.KGet, Key: strings.Repeat("k", 256)}, api.ErrText},
		{api.Msg{Kind: api.KMove, Pairs: append(somePairs(8), api.Pair{})}, api.ErrText},
		{api.Msg{Kind: api.KMove, Pairs: samePairs(8, "", "")}, api.ErrText},
		{api.Msg{Kind: api.KPut, Key: "k", Val: val512 + "v"}, api.ErrLong},
		{api.Msg{Kind: api.KPut, Key: "k", Val: strings.Repeat("v", 1<<16)}, api.ErrLong},
		{api.Msg{Kind: api.KGot, Has: true, Val: val512 + "v"}, api.ErrLong},
		{api.Msg{Kind: api.KHop, Peers: somePeers(17)}, api.ErrLong},
		{api.Msg{Kind: api.KHop, Peers: somePeers(256 + 1)}, api.ErrLong},
		{api.Msg{Kind: api.KTell, Peers: somePeers(17)}, api.ErrLong},
		{api.Msg{Kind: api.KMove, Pairs: somePairs(9)}, api.ErrLong},
		{api.Msg{Kind: api.KMove, Pairs: samePairs(1, "k", val512+"v")}, api.ErrLong},
		{api.Msg{Kind: api.KMove, Pairs: samePairs(256+1, "k", "v")}, api.ErrLong},
		{api.Msg{Kind: api.KHop}, api.ErrShort},
		{api.Msg{Kind: api.KHop, Has: true, Peers: []api.Peer{}}, api.ErrShort},
		{api.Msg{Kind: api.KMove}, api.ErrShort},
		{api.Msg{Kind: api.KMove, Has: true, Pairs: []api.Pair{}}, api.ErrShort},
		{api.Msg{Kind: api.KNay}, api.ErrShort},
	}
	for _, m := range someValid() {
		for _, c := range columns {
			if !owns(m, c) {
				more, all := deep(m), choices()[c]
				reflect.ValueOf(&more).Elem().FieldByName(c).Set(reflect.ValueOf(all[len(all)-1]))
				if c != "Has" || m.Kind != api.KTell && m.Kind != api.KGot {
					l = append(l, row{more, api.ErrArg})
				}
			}
		}
	}
	return l
}

// 10.1, R2: what is not valid is refused with Right's error, without any bytes.
func TestEncOfWhatIsNotValid(t *testing.T) {
	for _, c := range spoiltMessages() {
		if b, err := Enc(c.m); err != c.want || len(b) != 0 {
			t.Errorf("Enc(%s) = %s, %d, want the error %d", show(c.m), show(b), err, c.want)
		}
		checkEnc(t, c.m)
	}
}

// 10.1, R2: fields of all kinds, own or not, beside each other, by the words: the error is always Right's.
func TestEncOfAnyFields(t *testing.T) {
	seen := map[api.Errno]int{}
	keys := []string{"", "k", "\xff"}
	vals := []string{"", "v", val512, val512 + "v"}
	for kind := -1; kind < 15; kind++ {
		for choice := range 32 {
			m := api.Msg{Kind: kind, Rid: 1, Code: uint8(choice & 1), Has: choice&2 != 0, ID: uint64(choice & 4), Peer: api.Peer{ID: uint64(choice & 8), Addr: uint16(choice & 16)}}
			for _, m.Key = range keys {
				for _, m.Val = range vals {
					for _, m.Peers = range [][]api.Peer{nil, {}, somePeers(1), somePeers(16), somePeers(17)} {
						for _, m.Pairs = range [][]api.Pair{nil, {}, somePairs(1), somePairs(8), somePairs(9), {{}}} {
							checkEnc(t, m)
							seen[msg.Right(m)]++
						}
					}
				}
			}
		}
	}
	for _, err := range []api.Errno{api.OK, api.ErrKind, api.ErrArg, api.ErrText, api.ErrLong, api.ErrShort} {
		if seen[err] == 0 {
			t.Errorf("no message gets %d", err)
		}
	}
}

// 10.2: every encoding, cut off after each of its bytes, by the words: short, unless a tag could begin there; then what is left is judged as a whole.
func TestDecOfCutEncodings(t *testing.T) {
	seen := map[api.Errno]int{}
	check := func(m api.Msg) {
		b := encode(m)
		for n := range b {
			seen[checkDec(t, b[:n])]++
			checkTaken(t, b[:n])
		}
	}
	for _, m := range someValid() {
		check(m)
	}
	eachValid(func(m api.Msg) {
		if m.Rid == 128 && len(encode(m)) < 200 {
			check(m)
		}
	})
	for _, err := range []api.Errno{api.OK, api.ErrShort, api.ErrText} {
		if seen[err] == 0 {
			t.Errorf("no beginning gets %d", err)
		}
	}
}

// 10.2: what becomes of some encodings cut off after each of their bytes, written out here.
func TestDecOfCutsWrittenOut(t *testing.T) {
	for _, c := range []struct {
		b    []byte
		want []api.Errno
	}{
		{[]byte{11, 1, 172, 2}, []api.Errno{api.ErrShort, api.OK, api.ErrShort, api.ErrShort, api.OK}},
		{[]byte{12, 1, 7, 2, 255, 1}, []api.Errno{api.ErrShort, api.ErrShort, api.ErrShort, api.ErrShort, api.ErrShort, api.ErrShort, api.OK}},
		{[]byte{1, 4, 128, 1}, []api.Errno{api.ErrShort, api.OK, api.ErrShort, api.ErrShort, api.OK}},
		{[]byte{2, 3, 8, 2, 1, 0, 0, 3}, []api.Errno{api.ErrShort, api.ErrShort, api.ErrShort, api.ErrShort, api.ErrShort, api.ErrShort, api.ErrShort, api.ErrShort, api.OK}},
		{[]byte{4, 3, 7, 0, 5, 8, 1, 0, 0}, []api.Errno{api.ErrShort, api.OK, api.OK, api.ErrShort, api.ErrShort, api.OK, api.ErrShort, api.ErrShort, api.ErrShort, api.OK}},
		{[]byte{7, 5, 2, 'a', 'b', 6, 1, 'v'}, []api.Errno{api.ErrShort, api.ErrText, api.ErrShort, api.ErrShort, api.ErrShort, api.OK, api.ErrShort, api.ErrShort, api.OK}},
		{[]byte{9, 3, 6, 1, 255}, []api.Errno{api.ErrShort, api.OK, api.OK, api.ErrShort, api.ErrShort, api.OK}},
		{[]byte{10, 3, 9, 1, 1, 'k', 1, 'v'}, []api.Errno{api.ErrShort, api.ErrShort, api.ErrShort, api.ErrShort, api.ErrShort, api.ErrShort, api.ErrShort, api.ErrShort, api.OK}},
	} {
		for n, want := range c.want {
			if err := checkDec(t, c.b[:n]); err != want {
				t.Errorf("Dec(%d) is refused with %d, want %d", c.b[:n], err, want)
			}
		}
	}
}

// numbers are the bytes ahead of each place of a number, with the greatest that the place takes; what is there is no message yet.
func numbers() []struct {
	name string
	head []byte
	most uint64
} {
	any := uint64(math.MaxUint64)
	return []struct {
		name string
		head []byte
		most uint64
	}{
		{"Kind", nil, any},
		{"Rid", []byte{11, 1}, math.MaxUint32},
		{"Rid of a put", []byte{7, 1}, math.MaxUint32},
		{"Code", []byte{12, 2}, 255},
		{"Code behind a Rid", head(api.KNay, 2), 255},
		{"Code of a ping", []byte{11, 2}, 255},
		{"ID", []byte{1, 4}, any},
		{"ID of a ping", []byte{11, 4}, any},
		{"length of a Key", []byte{8, 5}, 96},
		{"length of a put's Key", head(api.KPut, 5), 96},
		{"length of a ping's Key", []byte{11, 5}, 96},
		{"length of a Val", []byte{7, 5, 1, 'k', 6}, 512},
		{"length of a got's Val", []byte{9, 3, 6}, 512},
		{"length of a ping's Val", []byte{11, 6}, 512},
		{"Peer's ID", []byte{5, 7}, any},
		{"Peer's Addr", []byte{5, 7, 1}, 65535},
		{"Peer's Addr behind an ID of 0", []byte{4, 3, 7, 0}, 65535},
		{"number of Peers", []byte{2, 8}, 16},
		{"number of a tell's Peers", []byte{4, 3, 7, 1, 1, 8}, 16},
		{"number of a ping's Peers", []byte{11, 8}, 16},
		{"first ID of the Peers", []byte{2, 8, 2}, any},
		{"first Addr of the Peers", []byte{2, 8, 2, 0}, 65535},
		{"second ID of the Peers", []byte{4, 8, 2, 0, 0}, any},
		{"second Addr of the Peers", []byte{2, 8, 2, 1, 1, 0}, 65535},
		{"number of Pairs", []byte{10, 9}, 8},
		{"number of Pairs behind Has", head(api.KMove, 3, 9), 8},
		{"number of a ping's Pairs", []byte{11, 9}, 8},
		{"length of the first pair's Key", []byte{10, 9, 2}, 96},
		{"length of the first pair's Val", []byte{10, 9, 2, 1, 'k'}, 512},
		{"length of the second pair's Key", []byte{10, 9, 2, 1, 'k', 0}, 96},
		{"length of the second pair's Val", []byte{10, 9, 2, 0, 1, 'v', 1, 'k'}, 512},
	}
}

// tagPlaces are bytes behind which a tag, or the end, could come.
func tagPlaces() [][]byte {
	return [][]byte{{11}, head(api.KPing), {12, 2, 1}, {12, 1, 7, 2, 128, 1}, {4, 3}, {1, 4, 5}, {8, 5, 1, 'k'}, {7, 5, 1, 'k', 6, 1, 'v'}, {5, 7, 0, 1}, {2, 8, 1, 0, 0}, {10, 9, 1, 1, 'k', 0}, {11, 9, 1, 0, 0}}
}

// badNumbers are bytes that uvar's Get refuses, with its error.
func badNumbers() []struct {
	b    []byte
	want api.Errno
} {
	return []struct {
		b    []byte
		want api.Errno
	}{
		{[]byte{128}, api.ErrShort},
		{[]byte{255}, api.ErrShort},
		{run(2, 128), api.ErrShort},
		{run(9, 128), api.ErrShort},
		{run(9, 255), api.ErrShort},
		{run(10, 128), api.ErrForm},
		{run(10, 255), api.ErrForm},
		{run(11, 128), api.ErrForm},
		{run(40, 255), api.ErrForm},
		{cat(run(10, 128), 1), api.ErrForm},
		{[]byte{128, 0}, api.ErrForm},
		{[]byte{129, 0}, api.ErrForm},
		{[]byte{255, 128, 0}, api.ErrForm},
		{cat(run(8, 128), 0), api.ErrForm},
		{cat(run(9, 255), 0), api.ErrForm},
		{cat(run(9, 128), 2), api.ErrForm},
		{cat(run(9, 255), 2), api.ErrForm},
		{cat(run(9, 255), 127), api.ErrForm},
	}
}

// 10.2: numbers that Get refuses get its error at each place of a number, a tag's among them, and what is behind a form that it refuses doesn't matter.
func TestDecOfBadNumbers(t *testing.T) {
	check := func(name string, head []byte) {
		for _, c := range badNumbers() {
			expectDec(t, name, join(head, c.b), c.want)
			if c.want == api.ErrForm {
				expectDec(t, name+", with more", join(head, c.b, run(20, 1)), c.want)
				expectDec(t, name+", with great ones", join(head, c.b, run(20, 255)), c.want)
			}
		}
	}
	for _, c := range numbers() {
		expectDec(t, c.name+", missing", c.head, api.ErrShort)
		check(c.name, c.head)
	}
	for _, place := range tagPlaces() {
		check("a tag", place)
	}
}

// 10.2: at each place the greatest number is not refused as too great, and the next one is, with nothing, with little and with much behind it.
func TestDecOfGreatNumbers(t *testing.T) {
	for _, c := range numbers() {
		if c.name == "Kind" {
			continue
		}
		for _, tail := range [][]byte{nil, {0}, {1, 1}, run(600, 255), run(600, 1)} {
			if err := checkDec(t, join(c.head, number(c.most), tail)); err == api.ErrLong {
				t.Errorf("%s: %d is refused", c.name, c.most)
			}
			if c.most == math.MaxUint64 {
				continue
			}
			for _, n := range []uint64{c.most + 1, c.most + 2, 2*c.most + 1, 256 * (c.most + 1), 1 << 31, 1 << 32, 1<<32 + 1, 1 << 63, 1<<63 + 1, math.MaxUint64} {
				if n > c.most {
					expectDec(t, c.name, join(c.head, number(n), tail), api.ErrLong)
				}
			}
		}
	}
}

// 10.2: the Kind is judged ahead of whatever is behind it, however great it is.
func TestDecOfKinds(t *testing.T) {
	kinds := []uint64{0, 13, 1 << 31, 1<<31 + 11, 1<<32 - 1, 1 << 32, 1<<32 + 1, 1<<32 + 11, 1 << 63, 1<<63 + 11, math.MaxUint64 - 244, math.MaxUint64 - 11, math.MaxUint64}
	for n := range uint64(1000) {
		kinds = append(kinds, n)
	}
	for _, kind := range kinds {
		isKind := kind >= 1 && kind <= 12
		for _, tail := range [][]byte{nil, {0}, {1}, {1, 0}, {1, 1}, {3, 3}, {10}, run(5, 0), run(20, 255), run(5000, 1)} {
			b := join(number(kind), tail)
			if !isKind {
				expectDec(t, "no kind", b, api.ErrKind)
			}
			if err := checkDec(t, b); isKind && err == api.ErrKind {
				t.Errorf("the Kind %d is refused", kind)
			}
		}
	}
	for kind, want := range []api.Errno{api.ErrKind, api.OK, api.ErrShort, api.OK, api.OK, api.OK, api.OK, api.ErrText, api.ErrText, api.OK, api.ErrShort, api.OK, api.ErrShort, api.ErrKind} {
		if err := checkDec(t, []byte{byte(kind)}); err != want {
			t.Errorf("the Kind %d alone is refused with %d, want %d", kind, err, want)
		}
	}
}

// fields are each tag's shortest field, with its tag ahead of it.
func fields() [][]byte {
	return [][]byte{{1, 1}, {2, 1}, {3}, {4, 1}, {5, 1, 'k'}, {6, 1, 'v'}, {7, 0, 1}, {8, 1, 0, 0}, {9, 1, 1, 'k', 0}}
}

// 10.2: behind each field, each tag: one that is 0, greater than 9, the same again or less is refused, whatever is behind it; a greater one is read.
func TestDecOfTags(t *testing.T) {
	great := []uint64{128, 255, 256, 257, 1<<32 + 5, 1<<63 + 5, math.MaxUint64 - 4, math.MaxUint64}
	for kind := 1; kind <= 12; kind++ {
		for last := 0; last <= 9; last++ {
			start := []byte{byte(kind)}
			if last > 0 {
				start = join(start, fields()[last-1])
			}
			for tag := range 20 {
				if tag > last && tag <= 9 {
					whole := join(start, fields()[tag-1])
					if err := checkDec(t, whole); err == api.ErrForm {
						t.Errorf("Dec(%d): the tag %d is refused", whole, tag)
					}
					checkTaken(t, whole)
					continue
				}
				for _, tail := range [][]byte{nil, {0}, {1}, {1, 'k'}, {1, 1, 1, 0}, run(30, 255)} {
					expectDec(t, "a tag", cat(cat(start, byte(tag)), tail...), api.ErrForm)
				}
			}
			for _, tag := range great {
				expectDec(t, "a great tag", join(start, number(tag), []byte{1, 'k'}), api.ErrForm)
			}
		}
	}
}

// 10.2: all choices of fields, in all orders of two: Dec takes none but rising ones, and judges by Right those that are whole.
func TestDecOfFieldsTogether(t *testing.T) {
	taken := map[int]int{}
	for kind := 1; kind <= 12; kind++ {
		for choice := range 1 << 9 {
			b := []byte{byte(kind)}
			for i, f := range fields() {
				if choice>>i&1 == 1 {
					b = join(b, f)
				}
			}
			if err := checkDec(t, b); err == api.ErrForm || err == api.ErrLong {
				t.Errorf("Dec(%d) is refused with %d", b, err)
			}
			if checkTaken(t, b) {
				taken[kind]++
			}
		}
		for _, f := range fields() {
			for _, g := range fields() {
				checkDec(t, join([]byte{byte(kind)}, f, g))
			}
		}
	}
	want := map[int]int{api.KFind: 4, api.KHop: 4, api.KAsk: 2, api.KTell: 12, api.KNote: 4, api.KOkay: 2, api.KPut: 4, api.KGet: 2, api.KGot: 6, api.KMove: 4, api.KPing: 2, api.KNay: 2}
	if !reflect.DeepEqual(taken, want) {
		t.Errorf("taken: %v, want %v", taken, want)
	}
}

// 10.2: a field of zero behind its tag is refused once it has been read, ahead of whatever is behind it, whether the kind has it or not.
func TestDecOfZeroFields(t *testing.T) {
	zeros := [][]byte{{1, 0}, {2, 0}, {4, 0}, {5, 0}, {6, 0}, {7, 0, 0}, {8, 0}, {9, 0}}
	for kind := 1; kind <= 12; kind++ {
		for _, z := range zeros {
			for _, start := range [][]byte{{byte(kind)}, head(kind)} {
				if len(start) > 1 && z[0] == 1 {
					continue
				}
				for _, tail := range [][]byte{nil, {0}, {9}, {10}, {128}, {9, 9}, {9, 1, 1, 'k', 0}, run(20, 255)} {
					expectDec(t, "a zero field", join(start, z, tail), api.ErrForm)
				}
			}
		}
	}
	expectDec(t, "half a Peer of zeros", []byte{5, 7, 0}, api.ErrShort)
	expectDec(t, "a Peer whose Addr is too great", join([]byte{5, 7, 0}, number(65536)), api.ErrLong)
}

// 10.2: a length in each string, with nothing, with all but a byte and with all behind it.
func TestDecOfLengths(t *testing.T) {
	for _, c := range numbers() {
		if !strings.HasPrefix(c.name, "length") {
			continue
		}
		for n := range 1100 {
			b := join(c.head, number(uint64(n)))
			whole := join(b, run(n, 'k'))
			if n > int(c.most) {
				expectDec(t, c.name+", alone", b, api.ErrLong)
				expectDec(t, c.name+", with all of it", whole, api.ErrLong)
				continue
			}
			if n > 0 {
				expectDec(t, c.name+", alone", b, api.ErrShort)
				expectDec(t, c.name+", without its last byte", whole[:len(whole)-1], api.ErrShort)
			}
			for _, tail := range [][]byte{nil, {0}, {1, 'v'}, {9}} {
				if err := checkDec(t, join(whole, tail)); err == api.ErrLong {
					t.Errorf("%s: %d is refused with %d", c.name, n, err)
				}
			}
		}
	}
}

// 10.2: a number of elements, with none, with all but one and with all of them.
func TestDecOfCounts(t *testing.T) {
	for _, c := range numbers() {
		if !strings.HasPrefix(c.name, "number") {
			continue
		}
		element := []byte{7, 200, 1}
		if c.most == 8 {
			element = []byte{1, 'k', 1, 'v'}
		}
		for n := range 300 {
			b := join(c.head, number(uint64(n)))
			whole := join(b, bytes.Repeat(element, n))
			switch {
			case n == 0:
				expectDec(t, c.name, b, api.ErrForm)
			case n > int(c.most):
				expectDec(t, c.name+", alone", b, api.ErrLong)
				expectDec(t, c.name+", with some", join(b, element), api.ErrLong)
				expectDec(t, c.name+", with all", whole, api.ErrLong)
				expectDec(t, c.name+", with what cannot be read", cat(b, run(20, 255)...), api.ErrLong)
			default:
				for short := len(b); short < len(whole); short++ {
					expectDec(t, c.name+", cut", whole[:short], api.ErrShort)
				}
				if err := checkDec(t, whole); err != api.OK && err != api.ErrArg {
					t.Errorf("%s: %d is refused with %d", c.name, n, err)
				}
			}
		}
	}
}

// 10.2: the greatest of each length, number and count, taken, and one more, refused.
func TestDecOfGreatest(t *testing.T) {
	for _, m := range []api.Msg{
		{Kind: api.KPing, Rid: math.MaxUint32},
		{Kind: api.KNay, Code: 255},
		{Kind: api.KFind, ID: math.MaxUint64},
		{Kind: api.KNote, Peer: api.Peer{ID: math.MaxUint64, Addr: 65535}},
		{Kind: api.KHop, Peers: somePeers(16)},
		{Kind: api.KHop, Peers: make([]api.Peer, 16)},
		{Kind: api.KTell, Has: true, Peer: api.Peer{ID: 1}, Peers: somePeers(16)},
		{Kind: api.KMove, Pairs: somePairs(8)},
		{Kind: api.KMove, Has: true, Pairs: samePairs(8, key96, val512)},
		{Kind: api.KGet, Key: key96},
		{Kind: api.KPut, Key: key96, Val: val512},
		{Kind: api.KGot, Has: true, Val: val512},
	} {
		if got, err := Dec(encode(m)); err != api.OK || !same(got, m) {
			t.Errorf("Dec of the encoding of %s is %s, %d", show(m), show(got), err)
		}
	}
	for _, m := range []api.Msg{
		{Kind: api.KHop, Peers: somePeers(17)},
		{Kind: api.KTell, Has: true, Peer: api.Peer{ID: 1}, Peers: somePeers(17)},
		{Kind: api.KMove, Pairs: somePairs(9)},
		{Kind: api.KMove, Pairs: append(somePairs(7), api.Pair{Key: key96 + "k"})},
		{Kind: api.KMove, Pairs: append(somePairs(7), api.Pair{Key: "k", Val: val512 + "v"})},
		{Kind: api.KGet, Key: key96 + "k"},
		{Kind: api.KPut, Key: key96 + "k", Val: val512},
		{Kind: api.KPut, Key: key96, Val: val512 + "v"},
		{Kind: api.KGot, Has: true, Val: val512 + "v"},
	} {
		expectDec(t, show(m), encode(m), api.ErrLong)
	}
	expectDec(t, "a Rid of 2^32", join([]byte{11, 1}, number(1<<32)), api.ErrLong)
	expectDec(t, "a Code of 256", []byte{12, 2, 128, 2}, api.ErrLong)
	expectDec(t, "an Addr of 65536", []byte{5, 7, 1, 128, 128, 4}, api.ErrLong)
	expectDec(t, "an ID of 2^64", join([]byte{1, 4}, run(9, 128), []byte{2}), api.ErrForm)
}

// 10.2: bytes that are read whole, but whose message is not valid, get Right's error; with a tag of 10 behind them, they get the reader's.
func TestDecOfWhatIsNotValid(t *testing.T) {
	for _, c := range []struct {
		name string
		b    []byte
		want api.Errno
	}{
		{"a ping with a Code", head(api.KPing, 2, 5), api.ErrArg},
		{"a ping with Has", []byte{11, 3}, api.ErrArg},
		{"a ping with an ID", []byte{11, 4, 1}, api.ErrArg},
		{"a find with a Key", []byte{1, 5, 1, 'k'}, api.ErrArg},
		{"a get with a Val", []byte{8, 5, 1, 'k', 6, 1, 'v'}, api.ErrArg},
		{"a get with a Val, whose Key is none", []byte{8, 5, 1, 255, 6, 1, 'v'}, api.ErrArg},
		{"a hop with a Peer", []byte{2, 7, 1, 1, 8, 1, 0, 0}, api.ErrArg},
		{"a hop with an ID, without Peers", []byte{2, 4, 1}, api.ErrArg},
		{"a note with Peers", []byte{5, 8, 1, 0, 0}, api.ErrArg},
		{"a put with Pairs", []byte{7, 5, 1, 'k', 9, 1, 1, 'k', 0}, api.ErrArg},
		{"a ping with Pairs whose Key is none", []byte{11, 9, 1, 0, 0}, api.ErrArg},
		{"a tell with a Peer, without Has", []byte{4, 7, 1, 1}, api.ErrArg},
		{"a got with a Val, without Has", []byte{9, 6, 1, 'v'}, api.ErrArg},
		{"a put without a Key", []byte{7}, api.ErrText},
		{"a put without a Key, with a Val", []byte{7, 6, 1, 'v'}, api.ErrText},
		{"a put with a stray byte in the Key", []byte{7, 5, 2, 'k', 255}, api.ErrText},
		{"a get without a Key", []byte{8, 1, 1}, api.ErrText},
		{"a get with a cut rune", []byte{8, 5, 1, 195}, api.ErrText},
		{"a get with a surrogate", []byte{8, 5, 3, 237, 160, 128}, api.ErrText},
		{"a get with a rune in too many bytes", []byte{8, 5, 2, 192, 128}, api.ErrText},
		{"a get with 33 runes", cat([]byte{8, 5, 33}, run(33, 'k')...), api.ErrText},
		{"a get with 96 runes", cat([]byte{8, 5, 96}, run(96, 'k')...), api.ErrText},
		{"a get with 96 stray bytes", cat([]byte{8, 5, 96}, run(96, 255)...), api.ErrText},
		{"a move whose Key is empty", []byte{10, 9, 1, 0, 1, 'v'}, api.ErrText},
		{"a move whose second Key is none", []byte{10, 3, 9, 2, 1, 'k', 0, 1, 255, 0}, api.ErrText},
		{"a move whose first Key is none", []byte{10, 9, 2, 1, 255, 0, 1, 'k', 0}, api.ErrText},
		{"a hop without Peers", []byte{2}, api.ErrShort},
		{"a hop with Has without Peers", head(api.KHop, 3), api.ErrShort},
		{"a move without Pairs", head(api.KMove), api.ErrShort},
		{"a move with Has without Pairs", []byte{10, 3}, api.ErrShort},
		{"a nay with the Code 0", head(api.KNay), api.ErrShort},
	} {
		expectDec(t, c.name, c.b, c.want)
		expectDec(t, c.name+", and a tag of 0", cat(c.b, 0), api.ErrForm)
		expectDec(t, c.name+", and a tag of 10", cat(c.b, 10), api.ErrForm)
		expectDec(t, c.name+", and half a tag", cat(c.b, 255), api.ErrShort)
	}
}

// 10.2, R2: bytes with several faults get the first from left to right.
func TestDecOfSeveralFaults(t *testing.T) {
	many := run(600, 255)
	for _, c := range []struct {
		name string
		b    []byte
		want api.Errno
	}{
		{"a Kind that cannot be read, and more", cat([]byte{128, 0}, many...), api.ErrForm},
		{"no kind, and a tag that is none", []byte{0, 0}, api.ErrKind},
		{"no kind, and a great deal more", cat([]byte{13}, many...), api.ErrKind},
		{"a kind, and half a tag", []byte{2, 255}, api.ErrShort},
		{"a Rid of 0, ahead of a tag that falls", []byte{11, 1, 0, 1}, api.ErrForm},
		{"a Rid of 2^32, ahead of a tag of 0", join([]byte{11, 1}, number(1<<32), []byte{0}), api.ErrLong},
		{"a tag twice, ahead of a Code of 256", []byte{12, 2, 1, 2, 128, 2}, api.ErrForm},
		{"a tag that falls, ahead of a Rid that cannot be read", []byte{12, 2, 1, 1, 128}, api.ErrForm},
		{"a Code of 256 ahead of a tag that falls", []byte{12, 2, 128, 2, 1}, api.ErrLong},
		{"a Code of 256 that the kind does not have", []byte{11, 2, 128, 2}, api.ErrLong},
		{"Has twice", []byte{4, 3, 3}, api.ErrForm},
		{"a Key of no bytes ahead of a Val of 513", []byte{7, 5, 0, 6, 129, 4}, api.ErrForm},
		{"a Key of 97 bytes, short", []byte{7, 5, 97, 'k'}, api.ErrLong},
		{"a Key of 97 bytes ahead of a Val of 513", join([]byte{7, 5, 97}, run(97, 'k'), []byte{6, 129, 4}), api.ErrLong},
		{"a Key of 3 bytes, short, that would be followed by a Val of 513", []byte{7, 5, 3, 6, 129}, api.ErrShort},
		{"a Key that is none ahead of a Val of 513", []byte{7, 5, 1, 255, 6, 129, 4}, api.ErrLong},
		{"a Key that is none ahead of a short Val", []byte{7, 5, 1, 255, 6, 5, 'v'}, api.ErrShort},
		{"a Key that is none ahead of a tag that falls", []byte{8, 5, 1, 255, 5}, api.ErrForm},
		{"a Val of 513 bytes, short", []byte{9, 3, 6, 129, 4}, api.ErrLong},
		{"a short Peer ahead of nothing", []byte{4, 7, 0}, api.ErrShort},
		{"a Peer of zeros ahead of 17 Peers", []byte{4, 3, 7, 0, 0, 8, 17}, api.ErrForm},
		{"an Addr of 65536 behind an ID of 0", []byte{4, 3, 7, 0, 128, 128, 4, 8, 17}, api.ErrLong},
		{"17 Peers, short", []byte{2, 8, 17, 1, 2, 3}, api.ErrLong},
		{"17 Peers, and what cannot be read", cat([]byte{2, 8, 17}, many...), api.ErrLong},
		{"2 Peers, the first with an Addr of 65536, the second short", []byte{2, 8, 2, 1, 128, 128, 4, 1}, api.ErrLong},
		{"2 Peers, the first with an ID that cannot be read, with an Addr of 65536", []byte{2, 8, 2, 128, 0, 128, 128, 4, 1, 1}, api.ErrForm},
		{"9 Pairs, the first with a Key that is none", []byte{10, 9, 9, 1, 255, 0}, api.ErrLong},
		{"a short first pair ahead of a long second", []byte{10, 9, 2, 1, 'k', 5, 97}, api.ErrShort},
		{"a pair whose Key is none ahead of one whose Key is long", []byte{10, 9, 2, 1, 255, 0, 97}, api.ErrLong},
		{"a pair whose Val is long ahead of one whose Key is none", []byte{10, 9, 2, 1, 'k', 129, 4, 1, 255, 0}, api.ErrLong},
		{"a pair whose Key is none ahead of no second pair", []byte{10, 9, 2, 1, 255, 0}, api.ErrShort},
		{"Pairs, and a tag behind them", []byte{10, 9, 1, 1, 'k', 0, 9}, api.ErrForm},
		{"Pairs that the kind does not have, and 9 of them", []byte{11, 9, 9}, api.ErrLong},
		{"a field that the kind does not have, ahead of a Rid of 0", []byte{11, 1, 0, 4, 1}, api.ErrForm},
		{"a field that the kind does not have, ahead of a short one", []byte{11, 4, 1, 5, 9}, api.ErrShort},
		{"a hop without Peers, and a tag of 10", []byte{2, 3, 10}, api.ErrForm},
		{"a nay with the Code 0 behind its tag", []byte{12, 2, 0}, api.ErrForm},
		{"a got without Has, with a short Val", []byte{9, 6, 2, 'v'}, api.ErrShort},
	} {
		expectDec(t, c.name, c.b, c.want)
		if err := checkDec(t, c.b); err != c.want {
			t.Errorf("%s: the words say %d, want %d", c.name, err, c.want)
		}
	}
}

// 10.2, 10.3, R1: all rows of up to two bytes, and longer ones behind each kind, of the bytes at which something begins or ends.
func TestDecOfShortBytes(t *testing.T) {
	var all []byte
	for c := range 256 {
		all = append(all, byte(c))
	}
	check := func(b []byte) {
		checkDec(t, b)
		checkTaken(t, b)
	}
	for length := range 3 {
		combine(all, length, check)
	}
	small := []byte{0, 1, 2, 3, 4, 5, 6, 7, 8, 9, 10, 128, 255}
	for kind := 1; kind <= 12; kind++ {
		for length := range 5 {
			combine(small, length, func(b []byte) { check(cat([]byte{byte(kind)}, b...)) })
		}
	}
}

// checkTaken holds 10.3 to bytes: if Dec takes them, Enc returns them.
func checkTaken(t *testing.T, b []byte) bool {
	t.Helper()
	m, err := Dec(b)
	if err != api.OK {
		return false
	}
	if again, fault := Enc(m); fault != api.OK || !bytes.Equal(again, b) {
		t.Fatalf("Dec(%s) = %s, whose encoding is %s, %d", show(b), show(m), show(again), fault)
	}
	return true
}

// combine yields all rows of that length over the alphabet.
func combine(alphabet []byte, length int, f func([]byte)) {
	if length == 0 {
		f(nil)
		return
	}
	combine(alphabet, length-1, func(b []byte) {
		for _, c := range alphabet {
			f(cat(b, c))
		}
	})
}

// mixed are count numbers that look as if there were no rule to them.
func mixed(count int) []uint64 {
	l := make([]uint64, count)
	x := uint64(88172645463325252)
	for i := range l {
		x ^= x << 13
		x ^= x >> 7
		x ^= x << 17
		l[i] = x
	}
	return l
}

// 10.2, 10.3, R1: bytes without a rule to them, most of them small, of many lengths.
func TestDecOfAnyBytes(t *testing.T) {
	taken := 0
	numbers := mixed(400000)
	for len(numbers) > 100 {
		b := make([]byte, numbers[0]%12)
		for i := range b {
			n := numbers[1+i]
			b[i] = byte(n >> 8)
			if n&7 != 0 {
				b[i] = byte(n>>8) % 11
			}
		}
		if len(b) > 0 {
			b[0] = byte(numbers[50] % 14)
		}
		checkDec(t, b)
		if checkTaken(t, b) {
			taken++
		}
		numbers = numbers[1+len(b):]
	}
	if taken < 100 {
		t.Errorf("only %d taken", taken)
	}
}

// 10.1, 10.3: no two messages have one encoding.
func TestEncTellsMessagesApart(t *testing.T) {
	seen := map[string]api.Msg{}
	eachValid(func(m api.Msg) {
		b, _ := Enc(m)
		if other, known := seen[string(b)]; known && !same(m, other) {
			t.Fatalf("%s and %s have one encoding", show(m), show(other))
		}
		seen[string(b)] = m
	})
}

// 10.1, R4: Enc leaves its argument as it is, with all that is behind its slices, and returns new memory.
func TestEncLeavesItsArgument(t *testing.T) {
	for _, m := range someValid() {
		peers := append(deep(m).Peers, somePeers(5)...)
		pairs := append(deep(m).Pairs, somePairs(5)...)
		beforePeers, beforePairs := append([]api.Peer(nil), peers...), append([]api.Pair(nil), pairs...)
		given := m
		given.Peers, given.Pairs = peers[:len(m.Peers)], pairs[:len(m.Pairs)]
		first, _ := Enc(given)
		second, _ := Enc(given)
		if !same(given, m) || !reflect.DeepEqual(peers, beforePeers) || !reflect.DeepEqual(pairs, beforePairs) {
			t.Errorf("Enc(%s) changed its argument", show(m))
		}
		want := bytes.Clone(second)
		for i := range first[:cap(first)] {
			first[:cap(first)][i] = 77
		}
		for i := range peers {
			peers[i] = api.Peer{ID: 77, Addr: 77}
		}
		for i := range pairs {
			pairs[i] = api.Pair{Key: "spoilt", Val: "spoilt"}
		}
		if !bytes.Equal(second, want) {
			t.Errorf("Enc(%s): a change of the argument or of another result changed the result", show(m))
		}
	}
}

// refusedBytes are bytes that Dec refuses, each with an error of its own or at a place of its own.
func refusedBytes() [][]byte {
	return [][]byte{{}, {13, 1, 1}, {11, 1, 0}, {11, 2, 9}, {2, 8, 2, 1}, {8, 5, 97, 'k'}, {8, 5, 1, 255}, head(api.KNay), head(api.KPing, 1, 1), {10, 9, 2, 1, 'k', 0}}
}

// 10.2, R4: Dec leaves its argument as it is, with all that is behind it, and what it returns doesn't change with it; two results share nothing.
func TestDecLeavesItsArgument(t *testing.T) {
	for _, m := range someValid() {
		all := join(encode(m), run(20, 33))
		before := bytes.Clone(all)
		b := all[:len(all)-20]
		first, _ := Dec(b)
		second, err := Dec(b)
		if err != api.OK || !bytes.Equal(all, before) {
			t.Errorf("Dec(%s) = %s, %d, or it changed its argument", show(b), show(second), err)
		}
		for i := range all {
			all[i] = 77
		}
		for i := range first.Peers[:cap(first.Peers)] {
			first.Peers[:cap(first.Peers)][i] = api.Peer{ID: 77, Addr: 77}
		}
		for i := range first.Pairs[:cap(first.Pairs)] {
			first.Pairs[:cap(first.Pairs)][i] = api.Pair{Key: "spoilt", Val: "spoilt"}
		}
		if !same(second, m) {
			t.Errorf("Dec of the encoding of %s became %s", show(m), show(second))
		}
	}
	for _, b := range refusedBytes() {
		before := bytes.Clone(b)
		if _, err := Dec(b); err == api.OK || !bytes.Equal(b, before) {
			t.Errorf("Dec(%d) took its argument or changed it", before)
		}
	}
}

// 10.1, 10.2, R5: what is refused leaves nothing behind, nor does what is taken.
func TestCallsLeaveNothingBehind(t *testing.T) {
	spoilt := refusedBytes()
	for _, m := range someValid() {
		for i, c := range spoiltMessages() {
			Enc(c.m)
			Dec(spoilt[i%len(spoilt)])
			checkEnc(t, m)
			checkDec(t, encode(m))
		}
	}
}

// 10.2, 10.3: encodings in which a byte is changed, left out, or put in, at each place.
func TestDecOfSpoiltEncodings(t *testing.T) {
	taken, refused := 0, map[api.Errno]int{}
	check := func(b []byte) {
		refused[checkDec(t, b)]++
		if checkTaken(t, b) {
			taken++
		}
	}
	for _, m := range someValid() {
		b := encode(m)
		for at := range b {
			if at > 300 && at%50 != 0 {
				continue
			}
			for _, c := range []byte{0, 1, 2, 8, 9, 16, 17, 96, 97, 128, 255, b[at] + 1, b[at] - 1, b[at] ^ 128} {
				check(join(b[:at], []byte{c}, b[at+1:]))
				check(join(b[:at], []byte{c}, b[at:]))
			}
			check(join(b[:at], b[at+1:]))
			check(join(b[:at], b[at:], b[at:]))
		}
	}
	for _, err := range []api.Errno{api.OK, api.ErrShort, api.ErrKind, api.ErrForm, api.ErrLong, api.ErrArg, api.ErrText} {
		if refused[err] == 0 {
			t.Errorf("no bytes get %d", err)
		}
	}
	if taken != refused[api.OK] || taken < 1000 {
		t.Errorf("%d taken", taken)
	}
}
