package dict

import (
	"fmt"
	"math"
	"math/big"
	"math/rand"
	"reflect"
	"slices"
	"strconv"
	"strings"
	"testing"

	"annulet/api"
	"annulet/ben"
	"annulet/msg"
	"annulet/tree"
)

// kindTable is the table of chapter 8, word by word, without the replies: the columns are named by columns.
const kindTable = `
| KFind 1 | find | | | yes | | | | | |
| KHop 2 | hop | | yes | | | yes | | | |
| KAsk 3 | ask | | | | | | | | |
| KTell 4 | tell | | yes | | if Has | yes | | | |
| KNote 5 | note | | | | yes | | | | |
| KOkay 6 | okay | | | | | | | | |
| KPut 7 | put | | | | | | yes | yes | |
| KGet 8 | get | | | | | | yes | | |
| KGot 9 | got | | yes | | | | | if Has | |
| KMove 10 | move | | yes | | | | | | yes |
| KPing 11 | ping | | | | | | | | |
| KNay 12 | nay | yes | | | | | | | |
`

// columns are the columns of kindTable in its order.
var columns = []string{"Code", "Has", "ID", "Peer", "Peers", "Key", "Val", "Pairs"}

// keyTable is the table of the chapter, word by word, but for a remark on Peer.
const keyTable = `
| c | Code | an integer |
| h | Has | the integer 1 |
| i | ID | a string of eight bytes, the most significant first |
| k | Key | a string |
| o | Peer | the string of a peer |
| p | Peers | a list of strings of peers |
| q | Kind | its name (chapter 8), a string |
| r | Rid | an integer |
| t | Pairs | a list of lists, each of two strings: Key, Val |
| v | Val | a string |
`

// row is a line of keyTable.
type row struct{ key, field string }

var (
	cells = readKinds()
	names = map[int]string{}
	rows  = readKeys()
)

// lines are the cells of a table, line by line.
func lines(table string) [][]string {
	var all [][]string
	for _, line := range strings.Split(strings.TrimSpace(table), "\n") {
		l := strings.Split(strings.Trim(line, "|"), "|")
		for i := range l {
			l[i] = strings.TrimSpace(l[i])
		}
		all = append(all, l)
	}
	return all
}

// readKinds yields the cells of the columns, by kind and column.
func readKinds() map[int]map[string]string {
	all := map[int]map[string]string{}
	for _, line := range lines(kindTable) {
		_, digits, _ := strings.Cut(line[0], " ")
		kind, err := strconv.Atoi(digits)
		if err != nil || len(line) != len(columns)+2 {
			panic("a bad line")
		}
		all[kind] = map[string]string{}
		for i, c := range columns {
			all[kind][c] = line[2+i]
		}
	}
	return all
}

// readKeys yields the keys in the order of the table, which is that of their bytes.
func readKeys() []row {
	for _, line := range lines(kindTable) {
		_, digits, _ := strings.Cut(line[0], " ")
		kind, _ := strconv.Atoi(digits)
		names[kind] = line[1]
	}
	var l []row
	for _, line := range lines(keyTable) {
		l = append(l, row{line[0], line[1]})
	}
	return l
}

// kindOf is the kind with that name, 0 if there is none.
func kindOf(name string) int {
	for kind, n := range names {
		if n == name {
			return kind
		}
	}
	return 0
}

// owns tells whether the kind of m has the field, by the table.
func owns(m api.Msg, column string) bool {
	cell := cells[m.Kind][column]
	return cell == "yes" || cell == "if Has" && m.Has
}

// value is the field of m with that name.
func value(m api.Msg, field string) any {
	return reflect.ValueOf(m).FieldByName(field).Interface()
}

// set is m with another value in the field.
func set(m api.Msg, field string, v any) api.Msg {
	reflect.ValueOf(&m).Elem().FieldByName(field).Set(reflect.ValueOf(v))
	return m
}

// isZero tells what has no key: 0, false, the empty string, an empty slice, a Peer of zeros.
func isZero(v any) bool {
	if r := reflect.ValueOf(v); r.Kind() == reflect.Slice {
		return r.Len() == 0
	}
	return reflect.ValueOf(v).IsZero()
}

// The trees that the tests build are written out, so that they do not hang on other layers.
func number(n int64) api.Tree          { return api.Tree{Kind: 1, N: n} }
func text(s string) api.Tree           { return api.Tree{Kind: 2, S: s} }
func list(l ...api.Tree) api.Tree      { return api.Tree{Kind: 3, Kids: l} }
func pair(key, val string) api.Tree    { return list(text(key), text(val)) }
func keys(l ...string) []string        { return l }
func kids(l ...api.Tree) []api.Tree    { return l }
func entry(k string, t api.Tree) field { return field{k, t} }

// field is a key and its value.
type field struct {
	key   string
	value api.Tree
}

// dict is a dictionary of those entries in that order.
func dict(l ...field) api.Tree {
	t := api.Tree{Kind: 4}
	for _, f := range l {
		t.Keys = append(t.Keys, f.key)
		t.Kids = append(t.Kids, f.value)
	}
	return t
}

// fields are the entries of a dictionary.
func fields(t api.Tree) []field {
	var l []field
	for i, k := range t.Keys {
		l = append(l, field{k, t.Kids[i]})
	}
	return l
}

// with is t with that value at the key; the key is put where the keys go on rising if it isn't there.
func with(t api.Tree, key string, v api.Tree) api.Tree {
	l := fields(t)
	for i, f := range l {
		if f.key == key {
			l[i].value = v
			return dict(l...)
		}
		if f.key > key {
			return dict(slices.Insert(l, i, field{key, v})...)
		}
	}
	return dict(append(l, field{key, v})...)
}

// without is t without that key.
func without(t api.Tree, key string) api.Tree {
	return dict(slices.DeleteFunc(fields(t), func(f field) bool { return f.key == key })...)
}

// at is the value at the key of t.
func at(t api.Tree, key string) api.Tree {
	return t.Kids[slices.Index(t.Keys, key)]
}

// big endian bytes of a number, by its hexadecimal digits.
func bigEndian(n uint64, size int) string {
	digits := fmt.Sprintf("%0*x", 2*size, n)
	var b []byte
	for ; digits != ""; digits = digits[2:] {
		c, err := strconv.ParseUint(digits[:2], 16, 8)
		if err != nil {
			panic(err)
		}
		b = append(b, byte(c))
	}
	return string(b)
}

// unBigEndian is the number that those bytes are.
func unBigEndian(s string) uint64 {
	return new(big.Int).SetBytes([]byte(s)).Uint64()
}

// peerText follows the chapter's words on the string of a peer.
func peerText(p api.Peer) string {
	return bigEndian(p.ID, 8) + bigEndian(uint64(p.Addr), 2)
}

// build follows the chapter's words on the tree of a message, valid or not, of one of the twelve kinds.
func build(m api.Msg) api.Tree {
	t := dict()
	for _, r := range rows {
		v := value(m, r.field)
		if r.field == "Kind" {
			v = names[m.Kind]
		}
		if r.field == "Kind" || !isZero(v) {
			t.Keys = append(t.Keys, r.key)
			t.Kids = append(t.Kids, content(v))
		}
	}
	return t
}

// content is the value of a field that is not zero.
func content(v any) api.Tree {
	switch v := v.(type) {
	case bool:
		return number(1)
	case uint8:
		return number(int64(v))
	case uint32:
		return number(int64(v))
	case uint64:
		return text(bigEndian(v, 8))
	case string:
		return text(v)
	case api.Peer:
		return text(peerText(v))
	case []api.Peer:
		t := list()
		for _, p := range v {
			t.Kids = append(t.Kids, text(peerText(p)))
		}
		return t
	case []api.Pair:
		t := list()
		for _, p := range v {
			t.Kids = append(t.Kids, pair(p.Key, p.Val))
		}
		return t
	}
	panic("no such field")
}

// refuse panics with the error if it applies.
func refuse(err api.Errno, applies bool) {
	if applies {
		panic(err)
	}
}

// integer is the number that t is, if it is an integer and nothing else, from least to most.
func integer(t api.Tree, least, most int64) int64 {
	refuse(api.ErrForm, t.Kind != 1 || t.S != "" || len(t.Keys)+len(t.Kids) > 0 || t.N < least || t.N > most)
	return t.N
}

// bytesOf is the string that t is, if it is a string and nothing else.
func bytesOf(t api.Tree) string {
	refuse(api.ErrForm, t.Kind != 2 || t.N != 0 || len(t.Keys)+len(t.Kids) > 0)
	return t.S
}

// filled is the string that t is, if it is not empty.
func filled(t api.Tree) string {
	refuse(api.ErrForm, bytesOf(t) == "")
	return t.S
}

// elements are those of the list that t is, if it is a list and nothing else.
func elements(t api.Tree) []api.Tree {
	refuse(api.ErrForm, t.Kind != 3 || t.N != 0 || t.S != "" || len(t.Keys) > 0)
	return t.Kids
}

// peerOf is the peer whose string t is.
func peerOf(t api.Tree) api.Peer {
	s := bytesOf(t)
	refuse(api.ErrForm, len(s) != 10)
	return api.Peer{ID: unBigEndian(s[:8]), Addr: uint16(unBigEndian(s[8:]))}
}

// read puts the value of the key into m, if the tree of a message could have it there.
func read(m *api.Msg, key string, v api.Tree) {
	switch key {
	case "c":
		m.Code = uint8(integer(v, 1, 255))
	case "h":
		m.Has = integer(v, 1, 1) == 1
	case "i":
		refuse(api.ErrForm, len(bytesOf(v)) != 8 || unBigEndian(v.S) == 0)
		m.ID = unBigEndian(v.S)
	case "k":
		m.Key = filled(v)
	case "o":
		m.Peer = peerOf(v)
		refuse(api.ErrForm, m.Peer == api.Peer{})
	case "p":
		refuse(api.ErrForm, len(elements(v)) == 0)
		for _, k := range v.Kids {
			m.Peers = append(m.Peers, peerOf(k))
		}
	case "q":
		m.Kind = kindOf(bytesOf(v))
	case "r":
		m.Rid = uint32(integer(v, 1, 1<<32-1))
	case "t":
		refuse(api.ErrForm, len(elements(v)) == 0)
		for _, k := range v.Kids {
			refuse(api.ErrForm, len(elements(k)) != 2)
			m.Pairs = append(m.Pairs, api.Pair{Key: bytesOf(k.Kids[0]), Val: bytesOf(k.Kids[1])})
		}
	case "v":
		m.Val = filled(v)
	default:
		panic(api.ErrForm)
	}
}

// extract follows the words of 13.2.
func extract(t api.Tree) (m api.Msg, err api.Errno) {
	defer func() {
		if fault := recover(); fault != nil {
			m, err = api.Msg{}, fault.(api.Errno)
		}
	}()
	refuse(api.ErrForm, t.Kind != 4 || len(t.Kids) != len(t.Keys))
	kind := 0
	for i := len(t.Keys) - 1; i >= 0; i-- {
		if t.Keys[i] == "q" {
			kind = 0
			if t.Kids[i].Kind == 2 {
				kind = kindOf(t.Kids[i].S)
			}
		}
	}
	refuse(api.ErrKind, kind == 0)
	refuse(api.ErrForm, t.N != 0 || t.S != "")
	for i, k := range t.Keys {
		refuse(api.ErrForm, i > 0 && k <= t.Keys[i-1])
		read(&m, k, t.Kids[i])
	}
	if fault := msg.Right(m); fault != api.OK {
		panic(fault)
	}
	return m, api.OK
}

// show keeps what a failed test prints short.
func show(v any) string {
	s := fmt.Sprintf("%+q", fmt.Sprintf("%+v", v))
	if len(s) > 600 {
		return s[:600] + " and more"
	}
	return s
}

// same tells whether all fields are equal; an empty slice is equal to none (R3).
func same(a, b api.Msg) bool {
	for _, m := range []*api.Msg{&a, &b} {
		if len(m.Peers) == 0 {
			m.Peers = nil
		}
		if len(m.Pairs) == 0 {
			m.Pairs = nil
		}
	}
	return reflect.DeepEqual(a, b)
}

// sameTree tells whether all fields are equal on all levels; an empty slice is equal to none (R3).
func sameTree(a, b api.Tree) bool {
	return a.Kind == b.Kind && a.N == b.N && a.S == b.S && slices.Equal(a.Keys, b.Keys) && slices.EqualFunc(a.Kids, b.Kids, sameTree)
}

// deep is a copy that shares nothing with m.
func deep(m api.Msg) api.Msg {
	m.Peers = append([]api.Peer(nil), m.Peers...)
	m.Pairs = append([]api.Pair(nil), m.Pairs...)
	m.Key, m.Val = strings.Clone(m.Key), strings.Clone(m.Val)
	return m
}

// deepTree is a copy that shares nothing with t, and in which empty slices are nil.
func deepTree(t api.Tree) api.Tree {
	c := api.Tree{Kind: t.Kind, N: t.N, S: strings.Clone(t.S)}
	for _, k := range t.Keys {
		c.Keys = append(c.Keys, strings.Clone(k))
	}
	for _, k := range t.Kids {
		c.Kids = append(c.Kids, deepTree(k))
	}
	return c
}

// whole is a copy of t with its spare capacity as if that were a part of it.
func whole(t api.Tree) api.Tree {
	c := api.Tree{Kind: t.Kind, N: t.N, S: t.S}
	c.Keys = slices.Clone(t.Keys[:cap(t.Keys)])
	for _, k := range t.Kids[:cap(t.Kids)] {
		c.Kids = append(c.Kids, whole(k))
	}
	return c
}

// roomy is a copy of t with slices that have spare capacity, and something in it.
func roomy(t api.Tree) api.Tree {
	c := api.Tree{Kind: t.Kind, N: t.N, S: t.S}
	c.Keys = append(slices.Clone(t.Keys), "spare", "spare")[:len(t.Keys)]
	for _, k := range t.Kids {
		c.Kids = append(c.Kids, roomy(k))
	}
	c.Kids = append(c.Kids, api.Tree{Kind: 77}, api.Tree{Kind: 78, Kids: kids(number(1))})[:len(t.Kids)]
	return c
}

// places are those of all elements of all slices of t, on all levels, those of the spare capacity too.
func places(t api.Tree) []any {
	var l []any
	for i := range t.Keys[:cap(t.Keys)] {
		l = append(l, &t.Keys[:cap(t.Keys)][i])
	}
	for i := range t.Kids[:cap(t.Kids)] {
		l = append(l, &t.Kids[:cap(t.Kids)][i])
	}
	for _, k := range t.Kids {
		l = append(l, places(k)...)
	}
	return l
}

// areNew tells whether no two slices of the trees, nor of one of them, share memory (R4).
func areNew(l ...api.Tree) bool {
	taken := map[any]int{}
	for _, t := range l {
		for _, c := range places(t) {
			if taken[c] > 0 {
				return false
			}
			taken[c] = 1
		}
	}
	return true
}

// spoil changes all that the slices of t lead to, on all levels.
func spoil(t api.Tree) {
	for _, k := range t.Kids {
		spoil(k)
	}
	for i := range t.Keys[:cap(t.Keys)] {
		t.Keys[:cap(t.Keys)][i] = "spoilt"
	}
	for i := range t.Kids[:cap(t.Kids)] {
		t.Kids[:cap(t.Kids)][i] = api.Tree{Kind: 77, N: 77, S: "spoilt"}
	}
}

// spoilMsg changes all that the slices of m lead to.
func spoilMsg(m api.Msg) {
	for i := range m.Peers[:cap(m.Peers)] {
		m.Peers[:cap(m.Peers)][i] = api.Peer{ID: 77, Addr: 77}
	}
	for i := range m.Pairs[:cap(m.Pairs)] {
		m.Pairs[:cap(m.Pairs)][i] = api.Pair{Key: "spoilt", Val: "spoilt"}
	}
}

// checkTo holds To to the chapter's words, and to R2; it returns the error.
func checkTo(t *testing.T, m api.Msg) api.Errno {
	t.Helper()
	got, err := To(m)
	wantErr := msg.Right(m)
	var want api.Tree
	if wantErr == api.OK {
		want = build(m)
	}
	if err != wantErr || !sameTree(got, want) {
		t.Fatalf("To(%s) = %s, %d, want %s, %d", show(m), show(got), err, show(want), wantErr)
	}
	return err
}

// checkFrom holds From to the chapter's words, to R2 and to 13.3; it returns the error.
func checkFrom(t *testing.T, x api.Tree) api.Errno {
	t.Helper()
	got, err := From(x)
	want, wantErr := extract(x)
	if err != wantErr || !same(got, want) {
		t.Fatalf("From(%s) = %s, %d, want %s, %d", show(x), show(got), err, show(want), wantErr)
	}
	if err != api.OK {
		return err
	}
	if again, fault := To(got); fault != api.OK || !sameTree(again, x) {
		t.Fatalf("From(%s) = %s, whose tree is %s, %d", show(x), show(got), show(again), fault)
	}
	return api.OK
}

// expectFrom holds From to an error, without any of the message; the words must say the same.
func expectFrom(t *testing.T, name string, x api.Tree, want api.Errno) {
	t.Helper()
	if got, err := From(x); err != want || !same(got, api.Msg{}) {
		t.Errorf("%s: From(%s) = %s, %d, want the error %d", name, show(x), show(got), err, want)
	}
	if _, err := extract(x); err != want {
		t.Errorf("%s: of %s the words say %d, want %d", name, show(x), err, want)
	}
}

var (
	key32  = strings.Repeat("k", 32)
	key96  = strings.Repeat("\u20ac", 32)
	val512 = strings.Repeat("\xff", 512)
	zero8  = strings.Repeat("\x00", 8)
	zero10 = strings.Repeat("\x00", 10)
)

// somePeers are count peers that differ, with bytes that differ.
func somePeers(count int) []api.Peer {
	l := make([]api.Peer, count)
	for i := range l {
		l[i] = api.Peer{ID: 0x0102030405060708 * uint64(i+1), Addr: uint16(0x0f0e * (i + 1))}
	}
	return l
}

// somePairs are count pairs that differ; the first one's value is empty.
func somePairs(count int) []api.Pair {
	l := make([]api.Pair, count)
	for i := range l {
		l[i] = api.Pair{Key: "k" + strconv.Itoa(i), Val: strings.Repeat("v", 70*i)}
	}
	return l
}

// samePairs are count pairs that are equal.
func samePairs(count int, key, val string) []api.Pair {
	l := make([]api.Pair, count)
	for i := range l {
		l[i] = api.Pair{Key: key, Val: val}
	}
	return l
}

// choices are the values of each field that the tests put beside each other; they begin with the least and end with the greatest that is valid.
func choices() map[string][]any {
	return map[string][]any{
		"Rid":  {uint32(0), uint32(1), uint32(255), uint32(256), uint32(math.MaxInt32), uint32(1 << 31), uint32(math.MaxUint32)},
		"Code": {uint8(1), uint8(2), uint8(127), uint8(128), uint8(255)},
		"Has":  {false, true},
		"ID":   {uint64(0), uint64(1), uint64(255), uint64(0x0102030405060708), uint64(1 << 32), uint64(1<<63 - 1), uint64(1 << 63), uint64(math.MaxUint64)},
		"Peer": {api.Peer{}, api.Peer{ID: 1}, api.Peer{Addr: 1}, api.Peer{ID: 0x1122334455667788, Addr: 0x99aa}, api.Peer{Addr: 256}, api.Peer{ID: 1 << 63}, api.Peer{ID: math.MaxUint64, Addr: math.MaxUint16}},
		"Peers": {
			[]api.Peer(nil), []api.Peer{}, []api.Peer{{}}, []api.Peer{{ID: math.MaxUint64, Addr: math.MaxUint16}},
			[]api.Peer{{ID: 1, Addr: 2}, {ID: 1, Addr: 2}}, []api.Peer{{}, {ID: 1}, {Addr: 1}}, somePeers(2), somePeers(15), make([]api.Peer, 16), somePeers(16),
		},
		"Key": {"k", "\x00", " ", "ab", "\u00e9", "\U0001f511", key32, key96},
		"Val": {"", "v", "\x00", "\xff\x80", "ping", strings.Repeat("v", 255), strings.Repeat("v", 511), val512},
		"Pairs": {
			[]api.Pair{{Key: "k"}}, []api.Pair{{Key: "k", Val: "v"}}, []api.Pair{{Key: "k", Val: "v"}, {Key: "k", Val: "v"}}, []api.Pair{{Key: "v", Val: "k"}, {Key: "\x00", Val: val512}},
			somePairs(2), somePairs(7), somePairs(8), samePairs(8, key96, val512),
		},
	}
}

// eachChoice yields messages of the kind in which each field that it has takes each of its choices beside each of the others'.
func eachChoice(kind int, f func(api.Msg)) {
	l := choices()
	var next func(m api.Msg, names []string)
	next = func(m api.Msg, names []string) {
		if len(names) == 0 {
			f(m)
			return
		}
		if names[0] != "Rid" && !owns(m, names[0]) {
			next(m, names[1:])
			return
		}
		for _, v := range l[names[0]] {
			next(set(m, names[0], v), names[1:])
		}
	}
	next(api.Msg{Kind: kind}, append([]string{"Rid"}, columns...))
}

// eachValid yields the valid ones among the messages of all kinds.
func eachValid(f func(api.Msg)) {
	for kind := 1; kind <= 12; kind++ {
		eachChoice(kind, func(m api.Msg) {
			if msg.Right(m) == api.OK {
				f(m)
			}
		})
	}
}

// someValid are a few messages of all kinds, the greatest among them.
func someValid() []api.Msg {
	peer := api.Peer{ID: 0x1122334455667788, Addr: 0x99aa}
	return []api.Msg{
		{Kind: api.KFind, Rid: 0x01020304, ID: 0x1112131415161718},
		{Kind: api.KFind},
		{Kind: api.KHop, Rid: 5, Peers: somePeers(1)},
		{Kind: api.KHop, Rid: 6, Has: true, Peers: somePeers(16)},
		{Kind: api.KAsk, Rid: math.MaxUint32},
		{Kind: api.KTell, Rid: 7},
		{Kind: api.KTell, Rid: 8, Has: true, Peer: peer},
		{Kind: api.KTell, Rid: 9, Peers: somePeers(3)},
		{Kind: api.KTell, Rid: 10, Has: true, Peer: peer, Peers: somePeers(16)},
		{Kind: api.KNote, Rid: 11, Peer: peer},
		{Kind: api.KOkay, Rid: 12},
		{Kind: api.KPut, Rid: 13, Key: "k"},
		{Kind: api.KPut, Rid: 14, Key: key96, Val: val512},
		{Kind: api.KPut, Rid: 15, Key: "key", Val: "value"},
		{Kind: api.KGet, Rid: 16, Key: "key"},
		{Kind: api.KGet, Rid: 17, Key: key96},
		{Kind: api.KGot, Rid: 18},
		{Kind: api.KGot, Rid: 19, Has: true},
		{Kind: api.KGot, Rid: 20, Has: true, Val: val512},
		{Kind: api.KMove, Rid: 21, Pairs: samePairs(1, "k", "")},
		{Kind: api.KMove, Rid: 22, Has: true, Pairs: somePairs(3)},
		{Kind: api.KMove, Rid: 23, Has: true, Pairs: samePairs(8, key96, val512)},
		{Kind: api.KPing, Rid: 24},
		{Kind: api.KNay, Rid: 25, Code: 21},
	}
}

// bad is a message that is not valid, with the error that it must get.
type bad struct {
	m    api.Msg
	want api.Errno
}

// ofNoKind are messages of kinds that are none: they have no tree.
func ofNoKind() []bad {
	var l []bad
	for _, kind := range []int{0, 13, -1, -11, 255, 256 + api.KPing, 1<<32 + api.KPing, math.MinInt, math.MaxInt} {
		l = append(l, bad{api.Msg{Kind: kind}, api.ErrKind}, bad{api.Msg{Kind: kind, Rid: 1, Key: "\xff", Val: val512 + "v", Peers: somePeers(17)}, api.ErrKind})
	}
	return l
}

// spoiltMessages are messages of the twelve kinds that are not valid: they have a tree.
func spoiltMessages() []bad {
	l := []bad{
		{api.Msg{Kind: api.KTell, Peer: api.Peer{ID: 1}}, api.ErrArg},
		{api.Msg{Kind: api.KTell, Peer: api.Peer{Addr: 1}}, api.ErrArg},
		{api.Msg{Kind: api.KGot, Val: "v"}, api.ErrArg},
		{api.Msg{Kind: api.KGot, Val: val512 + "v"}, api.ErrArg},
		{api.Msg{Kind: api.KHop, ID: 1}, api.ErrArg},
		{api.Msg{Kind: api.KMove, Key: "k"}, api.ErrArg},
		{api.Msg{Kind: api.KPut, Val: "v"}, api.ErrText},
		{api.Msg{Kind: api.KPut}, api.ErrText},
		{api.Msg{Kind: api.KPut, Key: "\xff"}, api.ErrText},
		{api.Msg{Kind: api.KGet}, api.ErrText},
		{api.Msg{Kind: api.KGet, Key: "\xc3"}, api.ErrText},
		{api.Msg{Kind: api.KGet, Key: "\xed\xa0\x80"}, api.ErrText},
		{api.Msg{Kind: api.KGet, Key: key32 + "k"}, api.ErrText},
		{api.Msg{Kind: api.KGet, Key: key96 + "k"}, api.ErrText},
		{api.Msg{Kind: api.KGet, Key: strings.Repeat("k", 1<<20+1)}, api.ErrText},
		{api.Msg{Kind: api.KMove, Pairs: append(somePairs(8), api.Pair{})}, api.ErrText},
		{api.Msg{Kind: api.KMove, Pairs: samePairs(8, "", "")}, api.ErrText},
		{api.Msg{Kind: api.KMove, Pairs: []api.Pair{{Key: "k"}, {Key: "\xff", Val: "v"}}}, api.ErrText},
		{api.Msg{Kind: api.KPut, Key: "k", Val: val512 + "v"}, api.ErrLong},
		{api.Msg{Kind: api.KPut, Key: "k", Val: strings.Repeat("v", 1<<20+1)}, api.ErrLong},
		{api.Msg{Kind: api.KGot, Has: true, Val: val512 + "v"}, api.ErrLong},
		{api.Msg{Kind: api.KHop, Peers: somePeers(17)}, api.ErrLong},
		{api.Msg{Kind: api.KHop, Peers: somePeers(1000)}, api.ErrLong},
		{api.Msg{Kind: api.KTell, Peers: make([]api.Peer, 17)}, api.ErrLong},
		{api.Msg{Kind: api.KTell, Has: true, Peer: api.Peer{ID: 1}, Peers: somePeers(17)}, api.ErrLong},
		{api.Msg{Kind: api.KMove, Pairs: somePairs(9)}, api.ErrLong},
		{api.Msg{Kind: api.KMove, Pairs: samePairs(1, "k", val512+"v")}, api.ErrLong},
		{api.Msg{Kind: api.KMove, Pairs: samePairs(1000, "k", "v")}, api.ErrLong},
		{api.Msg{Kind: api.KHop}, api.ErrShort},
		{api.Msg{Kind: api.KHop, Has: true, Peers: []api.Peer{}}, api.ErrShort},
		{api.Msg{Kind: api.KMove}, api.ErrShort},
		{api.Msg{Kind: api.KMove, Has: true, Pairs: []api.Pair{}}, api.ErrShort},
		{api.Msg{Kind: api.KNay}, api.ErrShort},
		{api.Msg{Kind: api.KNay, Rid: math.MaxUint32}, api.ErrShort},
	}
	for _, m := range someValid() {
		for _, c := range columns {
			if !owns(m, c) && (c != "Has" || m.Kind != api.KTell && m.Kind != api.KGot) {
				all := choices()[c]
				l = append(l, bad{set(deep(m), c, all[len(all)-1]), api.ErrArg})
			}
		}
	}
	return l
}

// eachMix yields messages of the kind in which all fields take a few values beside each other, whether the kind has them or not.
func eachMix(kind int, f func(api.Msg)) {
	for choice := range 64 {
		m := api.Msg{Kind: kind, Rid: uint32(choice & 1), Code: uint8(choice & 2), Has: choice&4 != 0, ID: uint64(choice & 8), Peer: api.Peer{ID: uint64(choice & 16), Addr: uint16(choice & 32)}}
		for _, m.Key = range []string{"", "k", "\xff"} {
			for _, m.Val = range []string{"", "v", val512 + "v"} {
				for _, m.Peers = range [][]api.Peer{nil, somePeers(1), make([]api.Peer, 17)} {
					for _, m.Pairs = range [][]api.Pair{{}, {{}}, somePairs(1), somePairs(9)} {
						f(m)
					}
				}
			}
		}
	}
}

// example is a message, its tree, and that tree's encoding, all written out.
type example struct {
	m    api.Msg
	x    api.Tree
	line string
}

// written are messages with all that becomes of them.
func written() []example {
	return []example{
		{api.Msg{Kind: api.KPing, Rid: 7}, dict(entry("q", text("ping")), entry("r", number(7))), "d1:q4:ping1:ri7ee"},
		{api.Msg{Kind: api.KPing}, dict(entry("q", text("ping"))), "d1:q4:pinge"},
		{api.Msg{Kind: api.KAsk, Rid: math.MaxUint32}, dict(entry("q", text("ask")), entry("r", number(4294967295))), "d1:q3:ask1:ri4294967295ee"},
		{api.Msg{Kind: api.KOkay, Rid: 1 << 31}, dict(entry("q", text("okay")), entry("r", number(2147483648))), "d1:q4:okay1:ri2147483648ee"},
		{api.Msg{Kind: api.KNay, Code: 1}, dict(entry("c", number(1)), entry("q", text("nay"))), "d1:ci1e1:q3:naye"},
		{api.Msg{Kind: api.KNay, Rid: 1, Code: 255}, dict(entry("c", number(255)), entry("q", text("nay")), entry("r", number(1))), "d1:ci255e1:q3:nay1:ri1ee"},
		{api.Msg{Kind: api.KFind}, dict(entry("q", text("find"))), "d1:q4:finde"},
		{api.Msg{Kind: api.KFind, ID: 1}, dict(entry("i", text("\x00\x00\x00\x00\x00\x00\x00\x01")), entry("q", text("find"))), "d1:i8:\x00\x00\x00\x00\x00\x00\x00\x011:q4:finde"},
		{api.Msg{Kind: api.KFind, Rid: 2, ID: 0x6162636465666768}, dict(entry("i", text("abcdefgh")), entry("q", text("find")), entry("r", number(2))), "d1:i8:abcdefgh1:q4:find1:ri2ee"},
		{api.Msg{Kind: api.KFind, ID: math.MaxUint64}, dict(entry("i", text("\xff\xff\xff\xff\xff\xff\xff\xff")), entry("q", text("find"))), "d1:i8:\xff\xff\xff\xff\xff\xff\xff\xff1:q4:finde"},
		{api.Msg{Kind: api.KHop, Peers: []api.Peer{{}}}, dict(entry("p", list(text(zero10))), entry("q", text("hop"))), "d1:pl10:\x00\x00\x00\x00\x00\x00\x00\x00\x00\x00e1:q3:hope"},
		{
			api.Msg{Kind: api.KHop, Rid: 1, Has: true, Peers: []api.Peer{{ID: 0x6162636465666768, Addr: 0x696a}, {ID: 0x4142434445464748, Addr: 0x494a}}},
			dict(entry("h", number(1)), entry("p", list(text("abcdefghij"), text("ABCDEFGHIJ"))), entry("q", text("hop")), entry("r", number(1))),
			"d1:hi1e1:pl10:abcdefghij10:ABCDEFGHIJe1:q3:hop1:ri1ee",
		},
		{api.Msg{Kind: api.KTell}, dict(entry("q", text("tell"))), "d1:q4:telle"},
		{api.Msg{Kind: api.KTell, Has: true}, dict(entry("h", number(1)), entry("q", text("tell"))), "d1:hi1e1:q4:telle"},
		{api.Msg{Kind: api.KTell, Has: true, Peer: api.Peer{ID: 10}}, dict(entry("h", number(1)), entry("o", text("\x00\x00\x00\x00\x00\x00\x00\x0a\x00\x00")), entry("q", text("tell"))), "d1:hi1e1:o10:\x00\x00\x00\x00\x00\x00\x00\x0a\x00\x001:q4:telle"},
		{api.Msg{Kind: api.KTell, Has: true, Peer: api.Peer{Addr: 10}}, dict(entry("h", number(1)), entry("o", text("\x00\x00\x00\x00\x00\x00\x00\x00\x00\x0a")), entry("q", text("tell"))), "d1:hi1e1:o10:\x00\x00\x00\x00\x00\x00\x00\x00\x00\x0a1:q4:telle"},
		{
			api.Msg{Kind: api.KTell, Rid: 9, Has: true, Peer: api.Peer{ID: 0x6162636465666768, Addr: 0x696a}, Peers: []api.Peer{{ID: 0x3031323334353637, Addr: 0x3839}}},
			dict(entry("h", number(1)), entry("o", text("abcdefghij")), entry("p", list(text("0123456789"))), entry("q", text("tell")), entry("r", number(9))),
			"d1:hi1e1:o10:abcdefghij1:pl10:0123456789e1:q4:tell1:ri9ee",
		},
		{api.Msg{Kind: api.KNote}, dict(entry("q", text("note"))), "d1:q4:notee"},
		{api.Msg{Kind: api.KNote, Peer: api.Peer{ID: 0x6162636465666768, Addr: 0x696a}}, dict(entry("o", text("abcdefghij")), entry("q", text("note"))), "d1:o10:abcdefghij1:q4:notee"},
		{api.Msg{Kind: api.KPut, Key: "k"}, dict(entry("k", text("k")), entry("q", text("put"))), "d1:k1:k1:q3:pute"},
		{api.Msg{Kind: api.KPut, Rid: 3, Key: "\u00e9", Val: "\xff"}, dict(entry("k", text("\xc3\xa9")), entry("q", text("put")), entry("r", number(3)), entry("v", text("\xff"))), "d1:k2:\xc3\xa91:q3:put1:ri3e1:v1:\xffe"},
		{api.Msg{Kind: api.KGet, Key: "q"}, dict(entry("k", text("q")), entry("q", text("get"))), "d1:k1:q1:q3:gete"},
		{api.Msg{Kind: api.KGot}, dict(entry("q", text("got"))), "d1:q3:gote"},
		{api.Msg{Kind: api.KGot, Has: true}, dict(entry("h", number(1)), entry("q", text("got"))), "d1:hi1e1:q3:gote"},
		{api.Msg{Kind: api.KGot, Rid: 4, Has: true, Val: "v\x00"}, dict(entry("h", number(1)), entry("q", text("got")), entry("r", number(4)), entry("v", text("v\x00"))), "d1:hi1e1:q3:got1:ri4e1:v2:v\x00e"},
		{api.Msg{Kind: api.KMove, Pairs: []api.Pair{{Key: "k"}}}, dict(entry("q", text("move")), entry("t", list(list(text("k"), text(""))))), "d1:q4:move1:tll1:k0:eee"},
		{
			api.Msg{Kind: api.KMove, Rid: 5, Has: true, Pairs: []api.Pair{{Key: "k", Val: "v"}, {Key: "ab", Val: "\xff"}}},
			dict(entry("h", number(1)), entry("q", text("move")), entry("r", number(5)), entry("t", list(list(text("k"), text("v")), list(text("ab"), text("\xff"))))),
			"d1:hi1e1:q4:move1:ri5e1:tll1:k1:vel2:ab1:\xffeee",
		},
	}
}

// 13.1, 13.2, 13.3: the chapter's examples, and messages whose trees are written out here, both ways, with their encodings.
func TestWrittenOut(t *testing.T) {
	seen := map[int]int{}
	for _, c := range written() {
		seen[c.m.Kind]++
		if x, err := To(c.m); err != api.OK || !sameTree(x, c.x) {
			t.Errorf("To(%s) = %s, %d, want %s", show(c.m), show(x), err, show(c.x))
		}
		if m, err := From(c.x); err != api.OK || !same(m, c.m) {
			t.Errorf("From(%s) = %s, %d, want %s", show(c.x), show(m), err, show(c.m))
		}
		x, _ := To(c.m)
		if b, err := ben.Print(x); err != api.OK || string(b) != c.line {
			t.Errorf("the tree of %s is written %q, %d, want %q", show(c.m), b, err, c.line)
		}
		x, _ = ben.Parse([]byte(c.line))
		if m, err := From(x); err != api.OK || !same(m, c.m) {
			t.Errorf("From(%s) = %s, %d, want %s", show(x), show(m), err, show(c.m))
		}
	}
	for kind := 1; kind <= 12; kind++ {
		if seen[kind] == 0 {
			t.Errorf("no message of the kind %d", kind)
		}
	}
	expectFrom(t, "a list", list(), api.ErrForm)
	expectFrom(t, "an empty dictionary", dict(), api.ErrKind)
}

// 13.1, 13.2, 13.3, R3: all fields' choices beside each other, by the chapter's words, and back; empty slices are as good as none.
func TestToAndFromFollowWords(t *testing.T) {
	kinds := map[int]int{}
	eachValid(func(m api.Msg) {
		kinds[m.Kind]++
		checkTo(t, m)
		x, _ := To(m)
		if got, err := From(x); err != api.OK || !same(got, m) {
			t.Fatalf("From of the tree of %s is %s, %d", show(m), show(got), err)
		}
		checkFrom(t, build(m))
		if err := tree.Right(x); err != api.OK {
			t.Fatalf("the tree of %s is not valid: %d", show(m), err)
		}
	})
	for kind := 1; kind <= 12; kind++ {
		if kinds[kind] < 5 {
			t.Errorf("%d messages of the kind %d, want more", kinds[kind], kind)
		}
	}
}

// 13.1, R2: messages that are not valid get Right's error, and nothing of a tree.
func TestToOfWhatIsNotValid(t *testing.T) {
	seen := map[api.Errno]int{}
	for _, c := range append(ofNoKind(), spoiltMessages()...) {
		seen[c.want]++
		if x, err := To(c.m); err != c.want || !sameTree(x, api.Tree{}) {
			t.Errorf("To(%s) = %s, %d, want the error %d", show(c.m), show(x), err, c.want)
		}
	}
	if len(seen) != 5 {
		t.Errorf("only %d errors", len(seen))
	}
}

// 13.2: the trees of messages that are not valid get the error of Right for just that message.
func TestFromOfWhatIsNotValid(t *testing.T) {
	seen := map[api.Errno]int{}
	for _, c := range spoiltMessages() {
		seen[c.want]++
		expectFrom(t, show(c.m), build(c.m), c.want)
	}
	if len(seen) != 4 {
		t.Errorf("only %d errors", len(seen))
	}
}

// 13.1, 13.2: fields of all kinds, own or not, beside each other: the error is always Right's, whether from the message or from its tree.
func TestAnyFields(t *testing.T) {
	seen := map[api.Errno]int{}
	for kind := -1; kind < 15; kind++ {
		eachMix(kind, func(m api.Msg) {
			want := checkTo(t, m)
			seen[want]++
			if kind < 1 || kind > 12 {
				return
			}
			if err := checkFrom(t, build(m)); err != want {
				t.Fatalf("From of the tree of %s is refused with %d, want %d", show(m), err, want)
			}
		})
	}
	for _, err := range []api.Errno{api.OK, api.ErrKind, api.ErrArg, api.ErrText, api.ErrLong, api.ErrShort} {
		if seen[err] == 0 {
			t.Errorf("no message gets %d", err)
		}
	}
}

// 13.1, 13.3: two messages that differ have trees that differ.
func TestTreesTellMessagesApart(t *testing.T) {
	taken := map[string]api.Msg{}
	eachValid(func(m api.Msg) {
		x, _ := To(m)
		id := fmt.Sprintf("%#v", x)
		if other, ok := taken[id]; ok && !same(m, other) {
			t.Fatalf("%s and %s have one tree", show(m), show(other))
		}
		taken[id] = m
	})
}

// 13.2: what is no dictionary gets ErrForm, whatever else it holds, on each kind that a tree can have or not have.
func TestFromOfNoDictionary(t *testing.T) {
	ping := build(api.Msg{Kind: api.KPing, Rid: 7})
	for _, kind := range []int{api.TInt, api.TText, api.TList, 0, 5, -1, -4, 256 + 4, 1<<32 + 4, math.MinInt, math.MaxInt} {
		for _, x := range []api.Tree{{}, {N: 5}, {S: "ping"}, {Kids: kids(text("ping"))}, {Keys: keys("q")}, {Keys: keys("q"), Kids: kids(text("none"))}, ping} {
			x.Kind = kind
			expectFrom(t, "a tree of the kind "+strconv.Itoa(kind), x, api.ErrForm)
		}
	}
	expectFrom(t, "a zero tree", api.Tree{}, api.ErrForm)
	expectFrom(t, "a list with a dictionary", list(ping), api.ErrForm)
	expectFrom(t, "a string that is an encoding", text("d1:q4:ping1:ri7ee"), api.ErrForm)
}

// 13.2: numbers of Kids and Keys that differ get ErrForm, ahead of all that is said of q.
func TestFromOfNumbersThatDiffer(t *testing.T) {
	ping, none := text("ping"), text("none")
	for _, c := range []struct {
		name string
		keys []string
		kids []api.Tree
	}{
		{"a key without a value", keys("q"), nil},
		{"a key without a value, of another field", keys("r"), nil},
		{"an empty key without a value", keys(""), nil},
		{"a value without a key", nil, kids(ping)},
		{"a value without a key, of no kind", nil, kids(none)},
		{"more keys", keys("q", "r"), kids(ping)},
		{"more keys, q the last", keys("c", "q"), kids(number(1))},
		{"more keys, q missing", keys("c", "r"), kids(number(1))},
		{"more keys, a q of no kind", keys("q", "r"), kids(none)},
		{"more values", keys("q"), kids(ping, number(7))},
		{"more values, q missing", keys("r"), kids(number(7), ping)},
		{"more values, a q of no kind", keys("q"), kids(none, number(7))},
		{"two more values", keys("q"), kids(ping, ping, ping)},
		{"two more keys", keys("q", "q", "q"), kids(ping)},
	} {
		expectFrom(t, c.name, api.Tree{Kind: api.TDict, Keys: c.keys, Kids: c.kids}, api.ErrForm)
	}
	for _, m := range someValid() {
		x := build(m)
		for n := range len(x.Keys) {
			fewer := deepTree(x)
			fewer.Keys = fewer.Keys[:n]
			expectFrom(t, "fewer keys", fewer, api.ErrForm)
			fewer = deepTree(x)
			fewer.Kids = fewer.Kids[:n]
			expectFrom(t, "fewer values", fewer, api.ErrForm)
		}
	}
}

// 13.2, R3: a dictionary without keys has no kind, be its slices nil or empty.
func TestFromOfNoKeys(t *testing.T) {
	for _, k := range [][]string{nil, {}, keys("q")[:0]} {
		for _, l := range [][]api.Tree{nil, {}, kids(text("ping"))[:0]} {
			expectFrom(t, "no keys", api.Tree{Kind: api.TDict, Keys: k, Kids: l}, api.ErrKind)
			expectFrom(t, "no keys, but a number", api.Tree{Kind: api.TDict, N: 7, Keys: k, Kids: l}, api.ErrKind)
			expectFrom(t, "no keys, but a string", api.Tree{Kind: api.TDict, S: "ping", Keys: k, Kids: l}, api.ErrKind)
		}
	}
}

// 13.2: the name of each kind, and strings that come near to one.
func TestNamesOfKinds(t *testing.T) {
	for kind := range 256 {
		x := dict(entry("q", text(msg.Name(kind))))
		if kind < 1 || kind > 12 {
			expectFrom(t, strconv.Itoa(kind), x, api.ErrKind)
			continue
		}
		checkFrom(t, x)
		if got, err := From(x); err == api.ErrKind || err == api.ErrForm || err == api.OK && got.Kind != kind {
			t.Errorf("%s has the kind %d, %d, want %d", msg.Name(kind), got.Kind, err, kind)
		}
	}
	l := []string{"", "?", " ", "0", "1", "11", "KPing", "4:ping", "pong", "q", "zero", "none", "\x00", "\xff", strings.Repeat("ping", 1000)}
	for _, name := range names {
		l = append(l, strings.ToUpper(name), strings.ToUpper(name[:1])+name[1:], name+" ", " "+name, name+"\x00", name+name, name[1:], name[:len(name)-1], name+"s")
	}
	for _, name := range l {
		expectFrom(t, "the name "+name, dict(entry("q", text(name))), api.ErrKind)
		expectFrom(t, "the name "+name, with(build(api.Msg{Kind: api.KPut, Rid: 1, Key: "k", Val: "v"}), "q", text(name)), api.ErrKind)
		expectFrom(t, "the name "+name+" ahead of what is no message's", dict(entry("q", text(name)), entry("b", list())), api.ErrKind)
	}
}

// 13.2: a q that is no string gets ErrKind, even if it holds a name; a string with more in it than a name gets ErrForm.
func TestFromOfKindsThatAreNoStrings(t *testing.T) {
	for _, kind := range []int{0, api.TInt, api.TList, api.TDict, 5, -1, -2, 256 + 2, 1<<32 + 2, math.MinInt, math.MaxInt} {
		for _, v := range []api.Tree{{}, {S: "ping"}, {N: 11}, {S: "ping", N: 11}, {Kids: kids(text("ping"))}, {Keys: keys("q"), Kids: kids(text("ping"))}} {
			v.Kind = kind
			expectFrom(t, "q alone", dict(entry("q", v)), api.ErrKind)
			expectFrom(t, "q with a Rid", dict(entry("q", v), entry("r", number(7))), api.ErrKind)
			expectFrom(t, "q with what is no message's", dict(entry("x", number(7)), entry("q", v), entry("a", number(7))), api.ErrKind)
		}
	}
	for _, v := range []api.Tree{{N: 1}, {N: -1}, {Keys: keys("")}, {Kids: kids(number(1))}, {Kids: kids(api.Tree{})}, {Keys: keys("q"), Kids: kids(text("ping"))}} {
		v.Kind, v.S = api.TText, "ping"
		expectFrom(t, "a name with more", dict(entry("q", v)), api.ErrForm)
		v.S = "none"
		expectFrom(t, "no name, with more", dict(entry("q", v)), api.ErrKind)
	}
}

// 13.2: of several keys q the first counts for ErrKind; if it names a kind, there is one too many.
func TestFromOfSeveralKinds(t *testing.T) {
	ping, nay, none := text("ping"), text("nay"), text("none")
	for _, c := range []struct {
		name string
		x    api.Tree
		want api.Errno
	}{
		{"twice", dict(entry("q", ping), entry("q", ping)), api.ErrForm},
		{"two kinds", dict(entry("q", ping), entry("q", nay)), api.ErrForm},
		{"a kind ahead of none", dict(entry("q", ping), entry("q", none)), api.ErrForm},
		{"none ahead of a kind", dict(entry("q", none), entry("q", ping)), api.ErrKind},
		{"an integer ahead of a kind", dict(entry("q", number(11)), entry("q", ping)), api.ErrKind},
		{"a kind ahead of an integer", dict(entry("q", ping), entry("q", number(11))), api.ErrForm},
		{"none ahead of two kinds", dict(entry("q", none), entry("q", ping), entry("q", ping)), api.ErrKind},
		{"none, a Rid, a kind", dict(entry("q", none), entry("r", number(7)), entry("q", ping)), api.ErrKind},
		{"a kind, a Rid, none", dict(entry("q", ping), entry("r", number(7)), entry("q", none)), api.ErrForm},
		{"a Rid, none, a kind", dict(entry("r", number(7)), entry("q", none), entry("q", ping)), api.ErrKind},
		{"a Rid ahead of a kind", dict(entry("r", number(7)), entry("q", ping)), api.ErrForm},
		{"a Rid ahead of none", dict(entry("r", number(7)), entry("q", none)), api.ErrKind},
		{"equal keys ahead of none", dict(entry("c", number(1)), entry("c", number(1)), entry("q", none)), api.ErrKind},
		{"a kind within a list", dict(entry("p", list(ping))), api.ErrKind},
		{"a kind within a dictionary", dict(entry("d", dict(entry("q", ping)))), api.ErrKind},
		{"keys that only look like q", dict(entry("Q", ping), entry("q ", ping), entry("q\x00", ping), entry("qq", ping), entry("", ping)), api.ErrKind},
		{"a key qq ahead of q", dict(entry("qq", none), entry("q", ping)), api.ErrForm},
	} {
		expectFrom(t, c.name, c.x, c.want)
	}
}

// 13.2: the keys of a tree, in each order but their own, are no message's; nor is a key that is there twice.
func TestFromOfOrders(t *testing.T) {
	for _, m := range append(someValid(), api.Msg{Kind: api.KPing, Rid: 1, Code: 2, Has: true, ID: 3, Key: "k", Val: "v", Peer: api.Peer{ID: 4}, Peers: somePeers(1), Pairs: somePairs(1)}) {
		l := fields(build(m))
		for i := range l {
			for j := range l {
				other := slices.Clone(l)
				other[i], other[j] = other[j], other[i]
				if i != j {
					expectFrom(t, "two keys changed about", dict(other...), api.ErrForm)
				}
				twice := slices.Insert(slices.Clone(l), j, l[i])
				expectFrom(t, "a key twice", dict(twice...), api.ErrForm)
			}
		}
		slices.Reverse(l)
		if len(l) > 1 {
			expectFrom(t, "all keys the other way round", dict(l...), api.ErrForm)
		}
	}
}

// 13.2: keys that no message has, at the place where they rise, with values of each kind.
func TestFromOfUnknownKeys(t *testing.T) {
	l := []string{"", "rid", "qq", "cc", "c\x00", "\x00c", "code", "kind", "\u00e9", "\xff\xff", strings.Repeat("c", 1000)}
	for c := range 256 {
		if one := string([]byte{byte(c)}); !strings.Contains("chikopqrtv", one) {
			l = append(l, one)
		}
	}
	for _, m := range someValid() {
		for _, k := range l {
			for _, v := range []api.Tree{{}, number(0), number(1), text(""), text("ping"), list(), dict()} {
				x := with(build(m), k, v)
				if _, err := From(x); err != api.ErrForm {
					t.Fatalf("the key %q: From(%s) is refused with %d", k, show(x), err)
				}
			}
		}
	}
}

// 13.2: a field that is zero has no key: with one, the tree is no message's.
func TestFromOfZeroFields(t *testing.T) {
	zeros := map[string][]api.Tree{
		"c": {number(0)}, "h": {number(0)}, "i": {text(zero8), text("")}, "k": {text("")}, "o": {text(zero10), text("")},
		"p": {list()}, "r": {number(0)}, "t": {list()}, "v": {text("")},
	}
	if len(zeros) != len(rows)-1 {
		t.Fatalf("%d keys", len(zeros))
	}
	for _, m := range someValid() {
		for k, l := range zeros {
			for _, v := range l {
				expectFrom(t, "a zero at "+k, with(build(m), k, v), api.ErrForm)
			}
		}
	}
}

// 13.2: a key more than the message has is judged as a field more, and a key less as a field that is zero.
func TestFromOfMoreAndFewerKeys(t *testing.T) {
	seen := map[api.Errno]int{}
	for _, m := range someValid() {
		for _, r := range rows {
			seen[checkFrom(t, without(build(m), r.key))]++
			if r.key != "q" {
				l := choices()[r.field]
				seen[checkFrom(t, with(build(m), r.key, content(l[len(l)-1])))]++
			}
		}
	}
	for _, err := range []api.Errno{api.OK, api.ErrKind, api.ErrArg, api.ErrText, api.ErrShort} {
		if seen[err] == 0 {
			t.Errorf("no tree gets %d", err)
		}
	}
}

// anyValues are trees of all kinds, valid and not.
func anyValues() []api.Tree {
	l := []api.Tree{
		{}, {Kind: 5}, {Kind: -1, N: 1}, {Kind: 5, S: "abcdefgh"}, number(0), number(1), number(2), number(-1), number(255), number(256), number(1 << 32), number(math.MaxInt64), number(math.MinInt64),
		text(""), text("a"), text("ping"), text("1"), text(zero8), text(zero10), text("abcdefgh"), text("abcdefghij"), text("\xff"), text(val512), text(val512 + "v"),
		list(), list(list()), list(text("")), list(number(1)), list(dict()), list(api.Tree{}), list(text("abcdefghij")), list(text("abcdefghij"), text("abcdefghij")), list(text(zero10)), list(text("abcdefghi")),
		pair("k", "v"), list(pair("k", "v")), list(pair("k", "")), list(pair("", "v")), list(pair("k", "v"), pair("k", "v")), list(pair("k", "v"), text("abcdefghij")), list(text("abcdefghij"), pair("k", "v")),
		list(list(text("k"))), list(list(text("k"), text("v"), text("w"))), list(list(number(1), text("v"))), list(list(text("k"), number(1))), list(list(text("k"), list())), list(list(pair("k", "v"))),
		dict(), dict(entry("", number(1))), dict(entry("k", text("v"))), list(dict(entry("k", text("v")), entry("l", text("w")))), dict(entry("q", text("ping"))),
	}
	for _, x := range []api.Tree{number(1), text("abcdefgh"), text("abcdefghij"), text("k"), text("ping"), list(text("abcdefghij")), list(pair("k", "v")), pair("k", "v")} {
		l = append(l, variants(x)...)
	}
	return l
}

// near are keys that differ a little from k.
func near(k string) []string {
	if k == "" {
		return []string{"\x00", "a", "q"}
	}
	return []string{"", k + "\x00", k + k, string([]byte{k[0] - 1}), string([]byte{k[0] + 1}), strings.ToUpper(k)}
}

// variants are trees that differ from x in one thing, at the top or deeper; not all of them differ in what From may see.
func variants(x api.Tree) []api.Tree {
	var l []api.Tree
	add := func(change func(y *api.Tree)) {
		y := deepTree(x)
		change(&y)
		l = append(l, y)
	}
	for _, kind := range []int{-1, 0, 1, 2, 3, 4, 5, x.Kind + 256} {
		if kind != x.Kind {
			add(func(y *api.Tree) { y.Kind = kind })
		}
	}
	add(func(y *api.Tree) { y.N++ })
	add(func(y *api.Tree) { y.N-- })
	add(func(y *api.Tree) { y.N = -x.N - 1 })
	add(func(y *api.Tree) { y.N += 1 << 8 })
	add(func(y *api.Tree) { y.N += 1 << 32 })
	add(func(y *api.Tree) { y.N = math.MinInt64 })
	add(func(y *api.Tree) { y.S += "\x00" })
	add(func(y *api.Tree) { y.S = "\x00" + y.S })
	if x.S != "" {
		add(func(y *api.Tree) { y.S = "" })
		add(func(y *api.Tree) { y.S = x.S[1:] })
		add(func(y *api.Tree) { y.S = x.S[:len(x.S)-1] })
		add(func(y *api.Tree) { y.S = strings.Repeat("\x00", len(x.S)) })
	}
	for _, k := range []string{"", "b", "q", "w"} {
		add(func(y *api.Tree) { y.Keys = append(y.Keys, k) })
		add(func(y *api.Tree) { y.Keys, y.Kids = append(y.Keys, k), append(y.Kids, number(1)) })
	}
	for i, k := range x.Keys {
		add(func(y *api.Tree) { y.Keys = slices.Delete(y.Keys, i, i+1) })
		if i < len(x.Kids) {
			add(func(y *api.Tree) { y.Keys, y.Kids = slices.Delete(y.Keys, i, i+1), slices.Delete(y.Kids, i, i+1) })
		}
		for _, other := range near(k) {
			add(func(y *api.Tree) { y.Keys[i] = other })
		}
	}
	for _, v := range []api.Tree{{}, number(1), text(""), text("abcdefghij"), list(), pair("k", "v"), dict()} {
		add(func(y *api.Tree) { y.Kids = append(y.Kids, v) })
		add(func(y *api.Tree) { y.Kids = slices.Insert(y.Kids, 0, v) })
	}
	if len(x.Kids) > 0 {
		add(func(y *api.Tree) { y.Kids = nil })
	}
	for i := range x.Kids {
		add(func(y *api.Tree) { y.Kids = slices.Delete(y.Kids, i, i+1) })
		add(func(y *api.Tree) { y.Kids = append(y.Kids, y.Kids[i]) })
		for _, v := range variants(x.Kids[i]) {
			add(func(y *api.Tree) { y.Kids[i] = v })
		}
	}
	return l
}

// 13.2: all sorts of values at each key, by the chapter's words; each of them is the right one for some key or for none.
func TestFromOfAnyValues(t *testing.T) {
	seen := map[string]map[api.Errno]int{}
	l := anyValues()
	for _, r := range rows {
		seen[r.key] = map[api.Errno]int{}
		for _, m := range someValid() {
			if m.Rid > 20 || m.Rid < 3 {
				continue
			}
			for _, v := range l {
				seen[r.key][checkFrom(t, with(build(m), r.key, v))]++
			}
		}
		if seen[r.key][api.OK] == 0 && r.key != "c" && r.key != "i" && r.key != "t" {
			t.Errorf("nothing is taken at %s", r.key)
		}
	}
	for _, m := range []api.Msg{{Kind: api.KNay, Code: 1}, {Kind: api.KFind, ID: 1}, {Kind: api.KMove, Pairs: somePairs(1)}} {
		for _, r := range rows {
			for _, v := range l {
				seen[r.key][checkFrom(t, with(build(m), r.key, v))]++
			}
		}
	}
	for _, r := range rows {
		if seen[r.key][api.OK] == 0 || seen[r.key][api.ErrForm] == 0 {
			t.Errorf("at %s only %v", r.key, seen[r.key])
		}
	}
}

// 13.2, 13.3: the trees of messages, valid or not, with one thing in them changed, at each place, by the chapter's words.
func TestFromOfSpoiltTrees(t *testing.T) {
	l := append(someValid(),
		api.Msg{Kind: api.KPing, Rid: 1, Code: 2, Has: true, ID: 3, Key: "k", Val: "v", Peer: api.Peer{ID: 4}, Peers: somePeers(2), Pairs: somePairs(2)},
		api.Msg{Kind: api.KHop, Peers: somePeers(17)}, api.Msg{Kind: api.KMove, Pairs: somePairs(9)}, api.Msg{Kind: api.KGet, Key: "\xff"})
	seen := map[api.Errno]int{}
	for _, m := range l {
		for _, x := range variants(build(m)) {
			seen[checkFrom(t, x)]++
		}
	}
	for _, err := range []api.Errno{api.OK, api.ErrForm, api.ErrKind, api.ErrArg, api.ErrText, api.ErrLong, api.ErrShort} {
		if seen[err] == 0 {
			t.Errorf("no tree gets %d", err)
		}
	}
}

// 13.2: two things changed, so that one error stands ahead of the other.
func TestFromOfTreesSpoiltTwice(t *testing.T) {
	for _, m := range []api.Msg{{Kind: api.KPing, Rid: 24}, {Kind: api.KTell, Has: true, Peer: api.Peer{ID: 9}}, {Kind: api.KHop, Peers: somePeers(1)}, {Kind: api.KMove, Pairs: samePairs(1, "k", "")}} {
		for _, x := range variants(build(m)) {
			for _, y := range variants(x) {
				checkFrom(t, y)
			}
		}
	}
}

// 13.2: values that hold what their kind has no use for, in the dictionary itself and at each place below.
func TestFromOfUselessFields(t *testing.T) {
	useless := func(x api.Tree) []api.Tree {
		var l []api.Tree
		add := func(fits bool, change func(y *api.Tree)) {
			if fits {
				y := deepTree(x)
				change(&y)
				l = append(l, y)
			}
		}
		add(x.Kind != api.TInt, func(y *api.Tree) { y.N = 1 })
		add(x.Kind != api.TInt, func(y *api.Tree) { y.N = math.MinInt64 })
		add(x.Kind != api.TText, func(y *api.Tree) { y.S = "s" })
		add(x.Kind != api.TDict, func(y *api.Tree) { y.Keys = keys("q") })
		add(x.Kind != api.TDict && x.Kind != api.TList, func(y *api.Tree) { y.Kids = kids(text("ping")) })
		add(x.Kind != api.TDict && x.Kind != api.TList, func(y *api.Tree) { y.Keys, y.Kids = keys("q"), kids(text("ping")) })
		add(x.Kind == api.TList, func(y *api.Tree) { y.Keys = make([]string, len(y.Kids)) })
		return l
	}
	var everywhere func(x api.Tree) []api.Tree
	everywhere = func(x api.Tree) []api.Tree {
		l := useless(x)
		for i := range x.Kids {
			for _, v := range everywhere(x.Kids[i]) {
				y := deepTree(x)
				y.Kids[i] = v
				l = append(l, y)
			}
		}
		return l
	}
	for _, m := range someValid() {
		for _, x := range everywhere(build(m)) {
			expectFrom(t, "a field too many", x, api.ErrForm)
		}
	}
}

// 13.2: integers that the field holds and that it doesn't.
func TestFromOfIntegers(t *testing.T) {
	nay := build(api.Msg{Kind: api.KNay, Code: 5})
	ping := build(api.Msg{Kind: api.KPing})
	got := build(api.Msg{Kind: api.KGot})
	edges := []int64{math.MinInt64, math.MinInt64 + 1, -1 << 40, -1<<32 - 1, -1 << 32, -1<<32 + 1, -1 << 31, -256, -255, -2, -1, 0, 1, 2, 127, 128, 254, 255, 256, 257, 1 << 16, 1<<31 - 1, 1 << 31, 1<<32 - 1, 1 << 32, 1<<32 + 1, 1<<32 + 255, 1 << 40, 1<<56 + 1, 1<<62 + 1, math.MaxInt64 - 1, math.MaxInt64}
	for _, n := range edges {
		for _, c := range []struct {
			name        string
			x           api.Tree
			least, most int64
			want        api.Msg
		}{
			{"Code", with(nay, "c", number(n)), 1, 255, api.Msg{Kind: api.KNay, Code: uint8(n)}},
			{"Rid", with(ping, "r", number(n)), 1, 1<<32 - 1, api.Msg{Kind: api.KPing, Rid: uint32(n)}},
			{"Has", with(got, "h", number(n)), 1, 1, api.Msg{Kind: api.KGot, Has: true}},
		} {
			if n < c.least || n > c.most {
				expectFrom(t, c.name+" "+strconv.FormatInt(n, 10), c.x, api.ErrForm)
				continue
			}
			if m, err := From(c.x); err != api.OK || !same(m, c.want) {
				t.Errorf("%s %d: From(%s) = %s, %d", c.name, n, show(c.x), show(m), err)
			}
		}
	}
}

// 13.2: strings of each length where an ID or a peer is asked for; each byte counts.
func TestFromOfLengths(t *testing.T) {
	for size := range 40 {
		s := strings.Repeat("\x01", size)
		for _, c := range []struct {
			name string
			x    api.Tree
			size int
			want api.Msg
		}{
			{"i", dict(entry("i", text(s)), entry("q", text("find"))), 8, api.Msg{Kind: api.KFind, ID: 0x0101010101010101}},
			{"o", dict(entry("o", text(s)), entry("q", text("note"))), 10, api.Msg{Kind: api.KNote, Peer: api.Peer{ID: 0x0101010101010101, Addr: 0x0101}}},
			{"p", dict(entry("p", list(text(s))), entry("q", text("hop"))), 10, api.Msg{Kind: api.KHop, Peers: []api.Peer{{ID: 0x0101010101010101, Addr: 0x0101}}}},
			{"the second of p", dict(entry("p", list(text(zero10), text(s), text(zero10))), entry("q", text("hop"))), 10, api.Msg{Kind: api.KHop, Peers: []api.Peer{{}, {ID: 0x0101010101010101, Addr: 0x0101}, {}}}},
		} {
			if size != c.size {
				expectFrom(t, c.name+" of "+strconv.Itoa(size)+" bytes", c.x, api.ErrForm)
				continue
			}
			if m, err := From(c.x); err != api.OK || !same(m, c.want) {
				t.Errorf("%s: From(%s) = %s, %d", c.name, show(c.x), show(m), err)
			}
		}
		expectFrom(t, "an ID of zeros", dict(entry("i", text(strings.Repeat("\x00", size))), entry("q", text("find"))), api.ErrForm)
		expectFrom(t, "a peer of zeros", dict(entry("o", text(strings.Repeat("\x00", size))), entry("q", text("note"))), api.ErrForm)
	}
	for at := range 10 {
		for bit := range 8 {
			b := make([]byte, 10)
			b[at] = 1 << bit
			want := peerOf(text(string(b)))
			if m, err := From(dict(entry("o", text(string(b))), entry("q", text("note")))); err != api.OK || m.Peer != want {
				t.Errorf("the peer of %v is %v, %d", b, m.Peer, err)
			}
			if at < 8 {
				if m, err := From(dict(entry("i", text(string(b[:8]))), entry("q", text("find")))); err != api.OK || m.ID != want.ID {
					t.Errorf("the ID of %v is %d, %d", b[:8], m.ID, err)
				}
			}
		}
	}
}

// 13.2: lists whose elements are not what they must be, at each place of the list.
func TestFromOfElements(t *testing.T) {
	notPeers := []api.Tree{{}, number(1), list(), dict(), list(text("abcdefghij")), pair("abcdefghij", "abcdefghij"), text(""), text("abcdefghi"), text("abcdefghijk"), text("abcdefgh"), {Kind: api.TText, S: "abcdefghij", N: 1}, {Kind: api.TList, S: "abcdefghij"}, {S: "abcdefghij"}}
	notPairs := []api.Tree{{}, number(1), text("k"), text("abcdefghij"), list(), list(text("k")), list(text("k"), text("v"), text("w")), list(text("k"), text("v"), text("k"), text("v")), list(number(1), text("v")), list(text("k"), number(1)),
		list(pair("k", "v")), list(list(text("k")), text("v")), list(text("k"), list()), list(text("k"), dict()), list(text("k"), api.Tree{}), list(api.Tree{S: "k"}, text("v")), dict(entry("k", text("v"))), dict(entry("a", text("k")), entry("b", text("v"))), {Kind: api.TDict, Kids: kids(text("k"), text("v"))}, {Kind: api.TList, N: 1, Kids: kids(text("k"), text("v"))}, {Kids: kids(text("k"), text("v"))}}
	for count := 1; count <= 18; count++ {
		for at := range count {
			peers := list(slices.Repeat(kids(text("0123456789")), count)...)
			pairs := list(slices.Repeat(kids(pair("k", "v")), count)...)
			for _, v := range notPeers {
				peers.Kids[at] = v
				expectFrom(t, "no peer", dict(entry("p", peers), entry("q", text("hop"))), api.ErrForm)
			}
			for _, v := range notPairs {
				pairs.Kids[at] = v
				expectFrom(t, "no pair", dict(entry("q", text("move")), entry("t", pairs)), api.ErrForm)
			}
		}
		wantPeers, wantPairs := api.OK, api.OK
		if count > 16 {
			wantPeers = api.ErrLong
		}
		if count > 8 {
			wantPairs = api.ErrLong
		}
		peers := dict(entry("p", list(slices.Repeat(kids(text("0123456789")), count)...)), entry("q", text("hop")))
		pairs := dict(entry("q", text("move")), entry("t", list(slices.Repeat(kids(pair("k", "v")), count)...)))
		if err := checkFrom(t, peers); err != wantPeers {
			t.Errorf("%d peers: %d, want %d", count, err, wantPeers)
		}
		if err := checkFrom(t, pairs); err != wantPairs {
			t.Errorf("%d pairs: %d, want %d", count, err, wantPairs)
		}
	}
	expectFrom(t, "peers in t", dict(entry("q", text("move")), entry("t", list(text("abcdefghij")))), api.ErrForm)
	expectFrom(t, "pairs in p", dict(entry("p", list(pair("k", "v"))), entry("q", text("hop"))), api.ErrForm)
	expectFrom(t, "one peer that is no list", dict(entry("p", text("abcdefghij")), entry("q", text("hop"))), api.ErrForm)
	expectFrom(t, "a list that is one pair", dict(entry("q", text("move")), entry("t", pair("k", "v"))), api.ErrForm)
}

// 13.2, R2: trees with several faults get the first error in the chapter's order.
func TestFromOfSeveralFaults(t *testing.T) {
	full := build(api.Msg{Kind: api.KPing, Rid: 1, Code: 2, Has: true, ID: 3, Key: "\xff", Val: val512 + "v", Peer: api.Peer{ID: 4}, Peers: somePeers(17), Pairs: somePairs(9)})
	listed, uneven := with(full, "q", text("none")), with(full, "q", text("none"))
	listed.Kind = api.TList
	uneven.Keys = uneven.Keys[1:]
	for _, c := range []struct {
		name string
		x    api.Tree
		want api.Errno
	}{
		{"all that is wrong with a message", full, api.ErrArg},
		{"no dictionary, and no kind", listed, api.ErrForm},
		{"numbers that differ, and no kind", uneven, api.ErrForm},
		{"no kind, and fields too many", with(full, "q", text("none")), api.ErrKind},
		{"no q, and an unknown key", with(without(full, "q"), "x", number(1)), api.ErrKind},
		{"no kind, and a Rid that is none", with(with(full, "q", number(1)), "r", text("1")), api.ErrKind},
		{"a field too many, and a Rid that is none", with(full, "r", text("1")), api.ErrForm},
		{"a field too many, and an unknown key", with(full, "x", number(1)), api.ErrForm},
		{"a key that is none, and an unknown key", with(build(api.Msg{Kind: api.KGet, Key: "\xff"}), "x", number(1)), api.ErrForm},
		{"17 peers, the last of them none", with(full, "p", list(slices.Concat(at(full, "p").Kids[:16], kids(text("short")))...)), api.ErrForm},
		{"a hop without Peers, with a p of none", dict(entry("p", list()), entry("q", text("hop"))), api.ErrForm},
		{"a nay with the Code 0", dict(entry("c", number(0)), entry("q", text("nay"))), api.ErrForm},
		{"a get with a Key of no bytes", dict(entry("k", text("")), entry("q", text("get"))), api.ErrForm},
		{"a ping with a Code of 256", dict(entry("c", number(256)), entry("q", text("ping"))), api.ErrForm},
		{"a put with a Key that is none and a long Val", dict(entry("k", text("\xff")), entry("q", text("put")), entry("v", text(val512+"v"))), api.ErrText},
		{"a move with a Key that is none among too many", dict(entry("q", text("move")), entry("t", list(slices.Repeat(kids(pair("", "")), 9)...))), api.ErrText},
		{"a got with a long Val, without Has", dict(entry("q", text("got")), entry("v", text(val512+"v"))), api.ErrArg},
		{"a got with a long Val, with Has", dict(entry("h", number(1)), entry("q", text("got")), entry("v", text(val512+"v"))), api.ErrLong},
		{"a got with a Val, with a Has of 2", dict(entry("h", number(2)), entry("q", text("got")), entry("v", text("v"))), api.ErrForm},
	} {
		expectFrom(t, c.name, c.x, c.want)
	}
}

// randomTree is any tree, often near to that of a message.
func randomTree(r *rand.Rand, values []api.Tree) api.Tree {
	x := api.Tree{Kind: api.TDict}
	for _, row := range rows {
		if r.Intn(3) != 0 && row.key != "q" {
			continue
		}
		x.Keys = append(x.Keys, row.key)
		v := values[r.Intn(len(values))]
		if l := choices()[row.field]; r.Intn(10) != 0 {
			if row.key == "q" {
				v = text(names[1+r.Intn(12)])
			} else {
				v = content(l[r.Intn(len(l))])
			}
		}
		x.Kids = append(x.Kids, v)
	}
	switch r.Intn(30) {
	case 0:
		x.N = int64(r.Intn(3))
	case 1:
		x.Keys = append(x.Keys, "q")
	case 2:
		x.Keys[r.Intn(len(x.Keys))] = rows[r.Intn(len(rows))].key
	}
	return x
}

// 13.2, 13.3, R1: trees without a rule to them, by the chapter's words.
func TestFromOfAnyTrees(t *testing.T) {
	r := rand.New(rand.NewSource(13))
	values := anyValues()
	seen := map[api.Errno]int{}
	for range 30000 {
		seen[checkFrom(t, randomTree(r, values))]++
	}
	for _, err := range []api.Errno{api.OK, api.ErrForm, api.ErrKind, api.ErrArg, api.ErrText, api.ErrShort} {
		if seen[err] == 0 {
			t.Errorf("no tree gets %d", err)
		}
	}
	for _, x := range values {
		checkFrom(t, x)
		checkFrom(t, dict(entry("q", x)))
	}
}

// 13.1, R4: To changes nothing, keeps nothing, and returns new memory on all levels.
func TestToKeepsNothing(t *testing.T) {
	for _, m := range someValid() {
		given := deep(m)
		given.Peers = append(given.Peers, api.Peer{ID: 78}, api.Peer{ID: 79})[:len(m.Peers)]
		given.Pairs = append(given.Pairs, api.Pair{Key: "a"}, api.Pair{Key: "b"})[:len(m.Pairs)]
		spare := deep(api.Msg{Peers: given.Peers[:cap(given.Peers)], Pairs: given.Pairs[:cap(given.Pairs)]})
		want := build(m)
		first, err := To(given)
		second, _ := To(given)
		if err != api.OK || !same(given, m) || !same(spare, api.Msg{Peers: given.Peers[:cap(given.Peers)], Pairs: given.Pairs[:cap(given.Pairs)]}) {
			t.Fatalf("To changed its argument to %s", show(given))
		}
		if !areNew(first, second) {
			t.Errorf("the trees of %s share memory", show(m))
		}
		spoilMsg(given)
		if !sameTree(first, want) {
			t.Errorf("To keeps %s", show(m))
		}
		spoil(first)
		if !sameTree(second, want) {
			t.Errorf("To keeps the tree of %s", show(m))
		}
	}
}

// 13.2, R4: From changes nothing, keeps nothing, and returns new memory.
func TestFromKeepsNothing(t *testing.T) {
	for _, m := range someValid() {
		x := roomy(build(m))
		before := whole(x)
		first, err := From(x)
		second, _ := From(x)
		if err != api.OK || !sameTree(whole(x), before) {
			t.Fatalf("From(%s) changed its argument, or returned %d", show(build(m)), err)
		}
		spoil(x)
		if !same(first, m) {
			t.Errorf("From keeps the tree of %s", show(m))
		}
		spoilMsg(first)
		if !same(second, m) {
			t.Errorf("From keeps %s", show(m))
		}
	}
	for _, c := range spoiltMessages() {
		x := roomy(build(c.m))
		before := whole(x)
		if From(x); !sameTree(whole(x), before) {
			t.Errorf("From changed the tree of %s", show(c.m))
		}
	}
	for _, v := range variants(build(api.Msg{Kind: api.KMove, Rid: 1, Has: true, Pairs: somePairs(2)})) {
		x := roomy(v)
		before := whole(x)
		if From(x); !sameTree(whole(x), before) {
			t.Errorf("From changed %s", show(v))
		}
	}
}

// 13.1, 13.2, R5: what was asked before has no effect on an answer.
func TestCallsLeaveNothingBehind(t *testing.T) {
	for _, m := range someValid() {
		x := build(m)
		for _, c := range append(ofNoKind(), spoiltMessages()...) {
			To(c.m)
			if names[c.m.Kind] != "" {
				From(build(c.m))
			}
			if got, err := To(m); err != api.OK || !sameTree(got, x) {
				t.Fatalf("behind %s, To(%s) = %s, %d", show(c.m), show(m), show(got), err)
			}
			if got, err := From(x); err != api.OK || !same(got, m) {
				t.Fatalf("behind %s, From(%s) = %s, %d", show(c.m), show(x), show(got), err)
			}
		}
	}
}

// chain is leaf within count lists.
func chain(count int, leaf api.Tree) api.Tree {
	for range count {
		leaf = list(leaf)
	}
	return leaf
}

// 13.2, R1: trees of many levels, and such as are in themselves, end at each place, as no message's tree has so many levels.
func TestFromOfDeepTrees(t *testing.T) {
	circle := list(text("abcdefghij"), text("abcdefghij"))
	circle.Kids[1] = circle
	l := []api.Tree{circle, chain(1<<16, number(1)), chain(1<<16, text("k")), chain(8, text("abcdefghij"))}
	for _, v := range l {
		for _, r := range rows {
			want := api.ErrForm
			if r.key == "q" {
				want = api.ErrKind
			}
			for _, m := range someValid() {
				if m, err := From(with(build(m), r.key, v)); err != want || !same(m, api.Msg{}) {
					t.Errorf("a deep tree at %s is refused with %d, want %d", r.key, err, want)
				}
			}
		}
		for _, x := range []api.Tree{dict(entry("p", list(v)), entry("q", text("hop"))), dict(entry("q", text("move")), entry("t", list(v))), dict(entry("q", text("move")), entry("t", list(list(v, v)))), dict(entry("q", text("ping")), entry("x", v)), v} {
			if _, err := From(x); err != api.ErrForm {
				t.Errorf("a deep tree is refused with %d", err)
			}
		}
	}
	self := dict(entry("q", text("ping")), entry("r", number(7)))
	self.Kids[1] = self
	if _, err := From(self); err != api.ErrForm {
		t.Errorf("a dictionary in itself is refused with %d", err)
	}
	self.Kids[0] = self
	if _, err := From(self); err != api.ErrKind {
		t.Errorf("a dictionary in itself is refused with %d", err)
	}
}

// 13.1, 13.2, R1: great messages and great trees.
func TestGreatInputs(t *testing.T) {
	many := 100000
	long := strings.Repeat("k", 1<<22)
	for _, c := range []bad{
		{api.Msg{Kind: api.KHop, Peers: somePeers(many)}, api.ErrLong},
		{api.Msg{Kind: api.KMove, Pairs: samePairs(many, "k", "v")}, api.ErrLong},
		{api.Msg{Kind: api.KMove, Pairs: append(samePairs(many, "k", "v"), api.Pair{})}, api.ErrText},
		{api.Msg{Kind: api.KPut, Key: long, Val: long}, api.ErrText},
		{api.Msg{Kind: api.KGot, Has: true, Val: long}, api.ErrLong},
	} {
		if x, err := To(c.m); err != c.want || !sameTree(x, api.Tree{}) {
			t.Errorf("To of a great message is refused with %d, want %d", err, c.want)
		}
		expectFrom(t, "a great message's tree", build(c.m), c.want)
	}
	twice, other := dict(), dict()
	for i := range many {
		twice.Keys, twice.Kids = append(twice.Keys, "q"), append(twice.Kids, text("ping"))
		other.Keys, other.Kids = append(other.Keys, strconv.Itoa(i)), append(other.Kids, number(int64(i)))
	}
	expectFrom(t, "many keys q", twice, api.ErrForm)
	expectFrom(t, "many keys", other, api.ErrKind)
	expectFrom(t, "many keys, and a q", dict(append(fields(other), entry("q", text("ping")))...), api.ErrForm)
	expectFrom(t, "a long name", dict(entry("q", text(long))), api.ErrKind)
	expectFrom(t, "a long ID", dict(entry("i", text(long)), entry("q", text("find"))), api.ErrForm)
	expectFrom(t, "a long peer", dict(entry("o", text(long)), entry("q", text("note"))), api.ErrForm)
	expectFrom(t, "a long key", dict(entry(long, text(long)), entry("q", text("ping"))), api.ErrForm)
}
