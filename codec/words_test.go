package codec

import (
	"encoding/binary"
	"fmt"
	"math"
	"reflect"
	"strconv"
	"strings"

	"annulet/api"
	"annulet/ben"
	"annulet/dict"
	"annulet/fixed"
	"annulet/msg"
	"annulet/tagged"
)

// owned are the fields that the kinds have beside Rid, in the order of chapter 8's table; one with a question mark only if Has is set.
var owned = map[int]string{
	api.KFind: "ID",
	api.KHop:  "Has Peers",
	api.KAsk:  "",
	api.KTell: "Has Peer? Peers",
	api.KNote: "Peer",
	api.KOkay: "",
	api.KPut:  "Key Val",
	api.KGet:  "Key",
	api.KGot:  "Has Val?",
	api.KMove: "Has Pairs",
	api.KPing: "",
	api.KNay:  "Code",
}

// fieldsOf are the names of the fields that m has.
func fieldsOf(m api.Msg) []string {
	var l []string
	for _, f := range strings.Fields(owned[m.Kind]) {
		name, isOptional := strings.CutSuffix(f, "?")
		if !isOptional || m.Has {
			l = append(l, name)
		}
	}
	return l
}

// inMode follows the words of the chapters on the encoding of a valid message.
func inMode(mode int, m api.Msg) []byte {
	switch mode {
	case 1:
		return inFixed(m)
	case 2:
		return inTagged(m)
	case 3:
		return inBencode(m)
	}
	panic("no such mode")
}

// inFixed follows the words of chapter 9.
func inFixed(m api.Msg) []byte {
	b := binary.BigEndian.AppendUint32([]byte{byte(m.Kind)}, m.Rid)
	for _, f := range fieldsOf(m) {
		switch f {
		case "Code":
			b = append(b, m.Code)
		case "Has":
			b = append(b, map[bool]byte{true: 1}[m.Has])
		case "ID":
			b = binary.BigEndian.AppendUint64(b, m.ID)
		case "Peer":
			b = append(b, peerBytes(m.Peer)...)
		case "Peers":
			b = append(b, byte(len(m.Peers)))
			for _, p := range m.Peers {
				b = append(b, peerBytes(p)...)
			}
		case "Key":
			b = append(append(b, byte(len(m.Key))), m.Key...)
		case "Val":
			b = append(binary.BigEndian.AppendUint16(b, uint16(len(m.Val))), m.Val...)
		case "Pairs":
			b = append(b, byte(len(m.Pairs)))
			for _, p := range m.Pairs {
				b = append(append(b, byte(len(p.Key))), p.Key...)
				b = append(binary.BigEndian.AppendUint16(b, uint16(len(p.Val))), p.Val...)
			}
		}
	}
	return b
}

// peerBytes are the ten bytes of a peer, which chapter 13 calls its string.
func peerBytes(p api.Peer) []byte {
	return binary.BigEndian.AppendUint16(binary.BigEndian.AppendUint64(nil, p.ID), p.Addr)
}

// inTagged follows the words of chapter 10.
func inTagged(m api.Msg) []byte {
	var b []byte
	num := func(l ...uint64) {
		for _, n := range l {
			b = binary.AppendUvarint(b, n)
		}
	}
	text := func(s string) {
		num(uint64(len(s)))
		b = append(b, s...)
	}
	num(uint64(m.Kind))
	if m.Rid > 0 {
		num(1, uint64(m.Rid))
	}
	if m.Code > 0 {
		num(2, uint64(m.Code))
	}
	if m.Has {
		num(3)
	}
	if m.ID > 0 {
		num(4, m.ID)
	}
	if len(m.Key) > 0 {
		num(5)
		text(m.Key)
	}
	if len(m.Val) > 0 {
		num(6)
		text(m.Val)
	}
	if m.Peer.ID > 0 || m.Peer.Addr > 0 {
		num(7, m.Peer.ID, uint64(m.Peer.Addr))
	}
	if len(m.Peers) > 0 {
		num(8, uint64(len(m.Peers)))
		for _, p := range m.Peers {
			num(p.ID, uint64(p.Addr))
		}
	}
	if len(m.Pairs) > 0 {
		num(9, uint64(len(m.Pairs)))
		for _, p := range m.Pairs {
			text(p.Key)
			text(p.Val)
		}
	}
	return b
}

// inBencode follows the words of chapters 12 and 13.
func inBencode(m api.Msg) []byte {
	b := []byte("d")
	put := func(l ...string) {
		for _, s := range l {
			b = append(b, s...)
		}
	}
	if m.Code > 0 {
		put("1:ci", fmt.Sprint(m.Code), "e")
	}
	if m.Has {
		put("1:hi1e")
	}
	if m.ID > 0 {
		put("1:i", textLine(string(binary.BigEndian.AppendUint64(nil, m.ID))))
	}
	if len(m.Key) > 0 {
		put("1:k", textLine(m.Key))
	}
	if m.Peer.ID > 0 || m.Peer.Addr > 0 {
		put("1:o", textLine(string(peerBytes(m.Peer))))
	}
	if len(m.Peers) > 0 {
		put("1:pl")
		for _, p := range m.Peers {
			put(textLine(string(peerBytes(p))))
		}
		put("e")
	}
	put("1:q", textLine(nameOf(m.Kind)))
	if m.Rid > 0 {
		put("1:ri", fmt.Sprint(m.Rid), "e")
	}
	if len(m.Pairs) > 0 {
		put("1:tl")
		for _, p := range m.Pairs {
			put("l", textLine(p.Key), textLine(p.Val), "e")
		}
		put("e")
	}
	if len(m.Val) > 0 {
		put("1:v", textLine(m.Val))
	}
	return append(b, 'e')
}

// textLine is a string with its length ahead of it.
func textLine(s string) string {
	return strconv.Itoa(len(s)) + ":" + s
}

// nameOf is the name of one of the twelve kinds, by chapter 8's table.
func nameOf(kind int) string {
	return strings.Fields("find hop ask tell note okay put get got move ping nay")[kind-1]
}

// decByLayers follows the words of 14.2, which leave it to the layers below what is refused with which error.
func decByLayers(mode int, b []byte) (api.Msg, api.Errno) {
	switch mode {
	case 1:
		return fixed.Dec(b)
	case 2:
		return tagged.Dec(b)
	case 3:
		t, err := ben.Parse(b)
		if err != api.OK {
			return api.Msg{}, err
		}
		return dict.From(t)
	}
	return api.Msg{}, api.ErrArg
}

var (
	key32  = strings.Repeat("k", 32)
	key96  = strings.Repeat("\u20ac", 32)
	wide96 = strings.Repeat("\U0001f511", 24)
	val512 = strings.Repeat("\xff", 512)
	zero8  = strings.Repeat("\x00", 8)
	zero10 = strings.Repeat("\x00", 10)

	greatPeer = api.Peer{ID: math.MaxUint64, Addr: math.MaxUint16}
)

// some are count values, each made from its index.
func some[T any](count int, at func(int) T) []T {
	l := make([]T, count)
	for i := range l {
		l[i] = at(i)
	}
	return l
}

// somePeers are count peers that differ.
func somePeers(count int) []api.Peer {
	return some(count, func(i int) api.Peer {
		return api.Peer{ID: 0x0102030405060708 * uint64(i+1), Addr: uint16(0x0f0e * (i + 1))}
	})
}

// somePairs are count pairs that differ; the first one's Val is empty.
func somePairs(count int) []api.Pair {
	return some(count, func(i int) api.Pair { return api.Pair{Key: "k" + strconv.Itoa(i), Val: strings.Repeat("v", 70*i)} })
}

// samePairs are count pairs that are equal.
func samePairs(count int, key, val string) []api.Pair {
	return some(count, func(int) api.Pair { return api.Pair{Key: key, Val: val} })
}

// choices are the values of each field that the tests put beside each other: they begin with zero, and end with the greatest.
func choices() map[string][]any {
	return map[string][]any{
		"Rid":   {uint32(0), uint32(7), uint32(128), uint32(1 << 31), uint32(math.MaxUint32)},
		"Code":  {uint8(0), uint8(1), uint8(127), uint8(128), uint8(255)},
		"Has":   {false, true},
		"ID":    {uint64(0), uint64(1), uint64(256), uint64(0x0102030405060708), uint64(1 << 63), uint64(math.MaxUint64)},
		"Peer":  {api.Peer{}, api.Peer{ID: 1}, api.Peer{Addr: 1}, api.Peer{ID: 0x0102030405060708, Addr: 0x090a}, greatPeer},
		"Peers": {[]api.Peer(nil), []api.Peer{}, []api.Peer{{}}, somePeers(2), make([]api.Peer, 16), somePeers(16), some(16, func(int) api.Peer { return greatPeer })},
		"Key":   {"", "k", "\x00", "1:", "\u00e9", key32, wide96, key96},
		"Val":   {"", "v", "\xff\x80", "e", strings.Repeat("v", 255), strings.Repeat("v", 256), val512},
		"Pairs": {[]api.Pair(nil), []api.Pair{}, somePairs(1), somePairs(2), samePairs(2, "k", "v"), somePairs(8), samePairs(8, key96, ""), samePairs(8, key96, val512)},
	}
}

// set is m with another value in the field.
func set(m api.Msg, field string, v any) api.Msg {
	reflect.ValueOf(&m).Elem().FieldByName(field).Set(reflect.ValueOf(v))
	return m
}

// allFields are the names of all fields but the Kind.
var allFields = strings.Fields("Rid Code Has ID Peer Peers Key Val Pairs")

// eachChoice yields the messages of the kind in which each of its own fields takes each of its choices beside each of the others'; not all of them are valid.
func eachChoice(kind int, f func(api.Msg)) {
	var next func(m api.Msg, names []string)
	next = func(m api.Msg, names []string) {
		if len(names) == 0 {
			f(m)
			return
		}
		for _, v := range choices()[names[0]] {
			next(set(m, names[0], v), names[1:])
		}
	}
	next(api.Msg{Kind: kind}, append([]string{"Rid"}, strings.Fields(strings.ReplaceAll(owned[kind], "?", ""))...))
}

// eachValid yields the valid ones among those of all kinds.
func eachValid(f func(api.Msg)) {
	for kind := 1; kind <= 12; kind++ {
		eachChoice(kind, func(m api.Msg) {
			if msg.Right(m) == api.OK {
				f(m)
			}
		})
	}
}

// greatest is the message of the kind with the greatest value in each field that it has.
func greatest(kind int) api.Msg {
	m := api.Msg{Kind: kind, Rid: math.MaxUint32}
	if strings.Contains(owned[kind], "Has") {
		m.Has = true
	}
	for _, f := range fieldsOf(m) {
		l := choices()[f]
		m = set(m, f, l[len(l)-1])
	}
	return m
}

// fewValid are some messages of each kind: one with nothing that it can leave out, and others up to the greatest.
func fewValid() []api.Msg {
	peer := api.Peer{ID: 0x1122334455667788, Addr: 0x99aa}
	l := []api.Msg{
		{Kind: api.KFind, Rid: 7, ID: 0x6162636465666768},
		{Kind: api.KHop, Rid: 300, Has: true, Peers: somePeers(2)},
		{Kind: api.KHop, Peers: make([]api.Peer, 1)},
		{Kind: api.KTell, Rid: 9, Has: true, Peer: peer, Peers: somePeers(3)},
		{Kind: api.KTell, Has: true},
		{Kind: api.KTell, Rid: 1, Peers: somePeers(1)},
		{Kind: api.KNote, Rid: 1 << 31, Peer: peer},
		{Kind: api.KPut, Rid: 13, Key: "key", Val: "value"},
		{Kind: api.KPut, Key: "e"},
		{Kind: api.KGet, Rid: 16, Key: "\u00e9"},
		{Kind: api.KGot, Rid: 19, Has: true},
		{Kind: api.KGot, Rid: 20, Has: true, Val: "\xff\x00"},
		{Kind: api.KMove, Rid: 21, Pairs: samePairs(1, "k", "")},
		{Kind: api.KMove, Rid: 22, Has: true, Pairs: somePairs(3)},
		{Kind: api.KNay, Rid: 25, Code: 21},
	}
	for kind := 1; kind <= 12; kind++ {
		if m := (api.Msg{Kind: kind}); msg.Right(m) == api.OK {
			l = append(l, m)
		}
		l = append(l, greatest(kind))
	}
	return l
}
