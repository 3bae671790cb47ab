package codec

import (
	"bytes"
	"fmt"
	"math"
	"math/rand"
	"reflect"
	"slices"
	"strings"
	"testing"

	"annulet/api"
	"annulet/ben"
	"annulet/dict"
	"annulet/msg"
)

// modes are the three, by the chapter's words.
var modes = []int{1, 2, 3}

// mosts are the greatest numbers of bytes in the modes, by the chapter's words.
var mosts = map[int]int{1: 4895, 2: 4898, 3: 4973}

// unknown are modes that are none, some of which would be one if a part of their bits was lost or their sign.
func unknown() []int {
	return []int{0, 4, -1, -2, -3, 5, 7, 255, 256, 256 + 1, 1<<16 + 2, 1<<32 + 3, math.MinInt + 1, math.MinInt, math.MaxInt}
}

// show keeps what a failed test prints short.
func show(v any) string {
	s := fmt.Sprintf("%+q", fmt.Sprintf("%+v", v))
	if b, ok := v.([]byte); ok {
		s = fmt.Sprintf("%+q", b)
	}
	if len(s) > 400 {
		return s[:400] + " and more"
	}
	return s
}

// same tells whether all fields are equal; an empty slice is equal to none (R3).
func same(a, b api.Msg) bool {
	for _, m := range []*api.Msg{&a, &b} {
		if len(m.Peers) == 0 {
			m.Peers = nil
		}
		if len(m.Pairs) == 0 {
			m.Pairs = nil
		}
	}
	return reflect.DeepEqual(a, b)
}

// checkEnc holds Enc to the words, and to R2; it returns the error.
func checkEnc(t *testing.T, mode int, m api.Msg) api.Errno {
	t.Helper()
	got, err := Enc(mode, m)
	want, wantErr := []byte(nil), msg.Right(m)
	switch {
	case mosts[mode] == 0:
		wantErr = api.ErrArg
	case wantErr == api.OK:
		want = inMode(mode, m)
	}
	if err != wantErr || !bytes.Equal(got, want) {
		t.Fatalf("Enc(%d, %s) = %s, %d, want %s, %d", mode, show(m), show(got), err, show(want), wantErr)
	}
	return err
}

// checkDec holds Dec to the words, to R2, and to the consequences; it returns the error.
func checkDec(t *testing.T, mode int, b []byte) api.Errno {
	t.Helper()
	got, err := Dec(mode, b)
	want, wantErr := decByLayers(mode, b)
	if err != wantErr || !same(got, want) {
		t.Fatalf("Dec(%d, %s) = %s, %d, want %s, %d", mode, show(b), show(got), err, show(want), wantErr)
	}
	if err != api.OK {
		return err
	}
	if msg.Right(got) != api.OK || !bytes.Equal(inMode(mode, got), b) || len(b) > mosts[mode] {
		t.Fatalf("Dec(%d, %s) = %s, whose encoding is another, or none", mode, show(b), show(got))
	}
	if again, err := Enc(mode, got); err != api.OK || !bytes.Equal(again, b) {
		t.Fatalf("Dec(%d, %s) = %s, of which Enc makes %s, %d", mode, show(b), show(got), show(again), err)
	}
	return api.OK
}

// expectDec holds Dec to an error, without any of the message.
func expectDec(t *testing.T, mode int, b []byte, want api.Errno) {
	t.Helper()
	if got, err := Dec(mode, b); err != want || !same(got, api.Msg{}) {
		t.Errorf("Dec(%d, %s) = %s, %d, want the error %d", mode, show(b), show(got), err, want)
	}
}

// 14.1: the modes in their order, in a new slice at each call.
func TestModes(t *testing.T) {
	for range 3 {
		l := Modes()
		if !slices.Equal(l, modes) {
			t.Fatalf("Modes() = %v", l)
		}
		again := Modes()
		whole := l[:cap(l)]
		for i := range whole {
			whole[i] = 77
		}
		if !slices.Equal(again, modes) {
			t.Fatalf("the slices that Modes returns share memory")
		}
	}
	if api.Fixed != 1 || api.Tagged != 2 || api.Bencode != 3 {
		t.Errorf("the modes have other names")
	}
}

// 14.1, 14.2: the chapter's examples, and messages whose bytes are written out here, both ways.
func TestWrittenOut(t *testing.T) {
	for _, c := range []struct {
		m     api.Msg
		lines [3]string
	}{
		{api.Msg{Kind: api.KPing, Rid: 7}, [3]string{"\x0b\x00\x00\x00\x07", "\x0b\x01\x07", "d1:q4:ping1:ri7ee"}},
		{api.Msg{Kind: api.KPing}, [3]string{"\x0b\x00\x00\x00\x00", "\x0b", "d1:q4:pinge"}},
		{api.Msg{Kind: api.KAsk, Rid: 300}, [3]string{"\x03\x00\x00\x01\x2c", "\x03\x01\xac\x02", "d1:q3:ask1:ri300ee"}},
		{api.Msg{Kind: api.KOkay, Rid: math.MaxUint32}, [3]string{"\x06\xff\xff\xff\xff", "\x06\x01\xff\xff\xff\xff\x0f", "d1:q4:okay1:ri4294967295ee"}},
		{api.Msg{Kind: api.KFind, Rid: 1, ID: 0x41}, [3]string{"\x01\x00\x00\x00\x01\x00\x00\x00\x00\x00\x00\x00A", "\x01\x01\x01\x04A", "d1:i8:\x00\x00\x00\x00\x00\x00\x00A1:q4:find1:ri1ee"}},
		{api.Msg{Kind: api.KHop, Rid: 2, Has: true, Peers: []api.Peer{{ID: 1, Addr: 2}}}, [3]string{"\x02\x00\x00\x00\x02\x01\x01\x00\x00\x00\x00\x00\x00\x00\x01\x00\x02", "\x02\x01\x02\x03\x08\x01\x01\x02", "d1:hi1e1:pl10:\x00\x00\x00\x00\x00\x00\x00\x01\x00\x02e1:q3:hop1:ri2ee"}},
		{api.Msg{Kind: api.KTell, Rid: 3}, [3]string{"\x04\x00\x00\x00\x03\x00\x00", "\x04\x01\x03", "d1:q4:tell1:ri3ee"}},
		{api.Msg{Kind: api.KTell, Has: true, Peer: api.Peer{Addr: 5}}, [3]string{"\x04\x00\x00\x00\x00\x01\x00\x00\x00\x00\x00\x00\x00\x00\x00\x05\x00", "\x04\x03\x07\x00\x05", "d1:hi1e1:o10:\x00\x00\x00\x00\x00\x00\x00\x00\x00\x051:q4:telle"}},
		{api.Msg{Kind: api.KNote, Peer: api.Peer{ID: 6}}, [3]string{"\x05\x00\x00\x00\x00\x00\x00\x00\x00\x00\x00\x00\x06\x00\x00", "\x05\x07\x06\x00", "d1:o10:\x00\x00\x00\x00\x00\x00\x00\x06\x00\x001:q4:notee"}},
		{api.Msg{Kind: api.KPut, Rid: 4, Key: "k", Val: "va"}, [3]string{"\x07\x00\x00\x00\x04\x01k\x00\x02va", "\x07\x01\x04\x05\x01k\x06\x02va", "d1:k1:k1:q3:put1:ri4e1:v2:vae"}},
		{api.Msg{Kind: api.KGet, Key: "key"}, [3]string{"\x08\x00\x00\x00\x00\x03key", "\x08\x05\x03key", "d1:k3:key1:q3:gete"}},
		{api.Msg{Kind: api.KGot, Rid: 5}, [3]string{"\x09\x00\x00\x00\x05\x00", "\x09\x01\x05", "d1:q3:got1:ri5ee"}},
		{api.Msg{Kind: api.KGot, Rid: 5, Has: true, Val: "\xff"}, [3]string{"\x09\x00\x00\x00\x05\x01\x00\x01\xff", "\x09\x01\x05\x03\x06\x01\xff", "d1:hi1e1:q3:got1:ri5e1:v1:\xffe"}},
		{api.Msg{Kind: api.KMove, Rid: 6, Pairs: []api.Pair{{Key: "k"}, {Key: "l", Val: "v"}}}, [3]string{"\x0a\x00\x00\x00\x06\x00\x02\x01k\x00\x00\x01l\x00\x01v", "\x0a\x01\x06\x09\x02\x01k\x00\x01l\x01v", "d1:q4:move1:ri6e1:tll1:k0:el1:l1:veee"}},
		{api.Msg{Kind: api.KNay, Rid: 8, Code: 200}, [3]string{"\x0c\x00\x00\x00\x08\xc8", "\x0c\x01\x08\x02\xc8\x01", "d1:ci200e1:q3:nay1:ri8ee"}},
	} {
		for i, line := range c.lines {
			if b, err := Enc(i+1, c.m); err != api.OK || string(b) != line {
				t.Errorf("Enc(%d, %s) = %s, %d, want %+q", i+1, show(c.m), show(b), err, line)
			}
			if m, err := Dec(i+1, []byte(line)); err != api.OK || !same(m, c.m) {
				t.Errorf("Dec(%d, %+q) = %s, %d, want %s", i+1, line, show(m), err, show(c.m))
			}
		}
	}
}

// invalid is a message that is not valid, with the error that it must get in all modes.
type invalid struct {
	m    api.Msg
	want api.Errno
}

// spoiltMessages are not valid, in one way each or in several.
func spoiltMessages() []invalid {
	long := val512 + "v"
	l := []invalid{
		{api.Msg{}, api.ErrKind},
		{api.Msg{Kind: 13, Rid: 1}, api.ErrKind},
		{api.Msg{Kind: -1, Code: 1, Key: "\xff"}, api.ErrKind},
		{api.Msg{Kind: 256 + api.KPing}, api.ErrKind},
		{api.Msg{Kind: 1<<32 + api.KPing}, api.ErrKind},
		{api.Msg{Kind: math.MinInt, Val: long}, api.ErrKind},
		{api.Msg{Kind: math.MaxInt, Peers: somePeers(17)}, api.ErrKind},
		{api.Msg{Kind: api.KTell, Peer: api.Peer{Addr: 1}}, api.ErrArg},
		{api.Msg{Kind: api.KGot, Val: "v"}, api.ErrArg},
		{api.Msg{Kind: api.KGot, Val: long}, api.ErrArg},
		{api.Msg{Kind: api.KHop, Code: 1}, api.ErrArg},
		{api.Msg{Kind: api.KPut, Key: "\xff", Val: long, ID: 1}, api.ErrArg},
		{api.Msg{Kind: api.KMove, Key: "k", Pairs: samePairs(9, "", long)}, api.ErrArg},
		{api.Msg{Kind: api.KPut, Val: "v"}, api.ErrText},
		{api.Msg{Kind: api.KPut, Key: "\xff", Val: long}, api.ErrText},
		{api.Msg{Kind: api.KGet, Key: key32 + "k"}, api.ErrText},
		{api.Msg{Kind: api.KGet, Key: key96 + "k"}, api.ErrText},
		{api.Msg{Kind: api.KMove, Pairs: append(somePairs(8), api.Pair{Val: long})}, api.ErrText},
		{api.Msg{Kind: api.KPut, Key: "k", Val: long}, api.ErrLong},
		{api.Msg{Kind: api.KPut, Key: "k", Val: strings.Repeat("v", 1<<16)}, api.ErrLong},
		{api.Msg{Kind: api.KGot, Has: true, Val: long}, api.ErrLong},
		{api.Msg{Kind: api.KHop, Peers: somePeers(17)}, api.ErrLong},
		{api.Msg{Kind: api.KHop, Peers: somePeers(256 + 1)}, api.ErrLong},
		{api.Msg{Kind: api.KTell, Peers: somePeers(17)}, api.ErrLong},
		{api.Msg{Kind: api.KMove, Pairs: somePairs(9)}, api.ErrLong},
		{api.Msg{Kind: api.KMove, Pairs: samePairs(1, "k", long)}, api.ErrLong},
		{api.Msg{Kind: api.KHop, Has: true}, api.ErrShort},
		{api.Msg{Kind: api.KMove, Has: true, Pairs: []api.Pair{}}, api.ErrShort},
		{api.Msg{Kind: api.KNay, Rid: 1}, api.ErrShort},
	}
	for _, m := range fewValid() {
		for _, f := range allFields[1:] {
			if !slices.Contains(fieldsOf(m), f) {
				all := choices()[f]
				l = append(l, invalid{set(m, f, all[len(all)-1]), api.ErrArg})
			}
		}
	}
	return l
}

// 14.1, 14.2, 14.4: an unknown mode is told ahead of whatever is wrong with a message or with bytes.
func TestUnknownModes(t *testing.T) {
	var lines [][]byte
	for _, m := range fewValid() {
		for _, mode := range modes {
			lines = append(lines, inMode(mode, m))
		}
	}
	lines = append(lines, nil, []byte{}, []byte{0}, []byte{13}, []byte{11, 1}, []byte("d"), []byte("de"), []byte("le"), []byte("i-0e"))
	for _, mode := range unknown() {
		for _, m := range fewValid() {
			if b, err := Enc(mode, m); err != api.ErrArg || len(b) != 0 {
				t.Errorf("Enc(%d, %s) = %s, %d", mode, show(m), show(b), err)
			}
		}
		for _, c := range spoiltMessages() {
			if b, err := Enc(mode, c.m); err != api.ErrArg || len(b) != 0 {
				t.Errorf("Enc(%d, %s) = %s, %d", mode, show(c.m), show(b), err)
			}
		}
		for _, b := range lines {
			expectDec(t, mode, b, api.ErrArg)
		}
		if n := Most(mode); n != 0 {
			t.Errorf("Most(%d) = %d", mode, n)
		}
	}
}

// 14.1, 14.3, R3: all fields' choices beside each other, by the words, and back; empty slices are as good as none.
func TestEncAndDecFollowWords(t *testing.T) {
	seen := map[int]int{}
	eachValid(func(m api.Msg) {
		seen[m.Kind]++
		for _, mode := range modes {
			checkEnc(t, mode, m)
			b, _ := Enc(mode, m)
			if got, err := Dec(mode, b); err != api.OK || !same(got, m) {
				t.Fatalf("Dec(%d, %s) = %s, %d, want %s", mode, show(b), show(got), err, show(m))
			}
			checkDec(t, mode, b)
		}
	})
	for kind := 1; kind <= 12; kind++ {
		if seen[kind] < 5 {
			t.Errorf("%d messages of the kind %d, want more", seen[kind], kind)
		}
	}
}

// 14.1, R2: what is not valid gets Right's error in each mode, and no bytes.
func TestEncOfWhatIsNotValid(t *testing.T) {
	for _, c := range spoiltMessages() {
		for _, mode := range modes {
			if b, err := Enc(mode, c.m); err != c.want || len(b) != 0 {
				t.Errorf("Enc(%d, %s) = %s, %d, want the error %d", mode, show(c.m), show(b), err, c.want)
			}
		}
	}
}

// 14.1, R2: fields of all kinds, own or not, valid or not, beside each other: the error is always Right's.
func TestEncOfAnyFields(t *testing.T) {
	seen := map[api.Errno]int{}
	peers := [][]api.Peer{nil, somePeers(1), somePeers(17)}
	pairs := [][]api.Pair{{}, {{}}, somePairs(1), somePairs(9)}
	for kind := -1; kind < 15; kind++ {
		for choice := range 32 {
			m := api.Msg{Kind: kind, Rid: 1, Code: uint8(choice & 1), Has: choice&2 != 0, ID: uint64(choice & 4), Peer: api.Peer{ID: uint64(choice & 8), Addr: uint16(choice & 16)}}
			for _, m.Key = range []string{"", "k", "\xff"} {
				for _, m.Val = range []string{"", "v", val512 + "v"} {
					for _, m.Peers = range peers {
						for _, m.Pairs = range pairs {
							for _, mode := range modes {
								seen[checkEnc(t, mode, m)]++
							}
						}
					}
				}
			}
		}
	}
	for _, err := range []api.Errno{api.OK, api.ErrKind, api.ErrArg, api.ErrText, api.ErrLong, api.ErrShort} {
		if seen[err] == 0 {
			t.Errorf("no message gets %d", err)
		}
	}
}

// refusal is bytes that Dec refuses, with the error.
type refusal struct {
	mode int
	b    string
	want api.Errno
}

// refusals are written out for each mode, and for Bencode for each of the two layers that it asks.
func refusals() []refusal {
	l := []refusal{
		{1, "", api.ErrShort},
		{1, "\x00", api.ErrKind},
		{1, "\x0d\x00", api.ErrKind},
		{1, "\x0b\x00\x00\x00", api.ErrShort},
		{1, "\x0b\x00\x00\x00\x07\x00", api.ErrMore},
		{1, "\x02\x00\x00\x00\x07\x02", api.ErrForm},
		{1, "\x08\x00\x00\x00\x07\x61", api.ErrLong},
		{1, "\x09\x00\x00\x00\x07\x01\x02\x01", api.ErrLong},
		{1, "\x08\x00\x00\x00\x07\x01\xff", api.ErrText},
		{1, "\x08\x00\x00\x00\x07\x00", api.ErrText},
		{1, "\x02\x00\x00\x00\x07\x00\x00", api.ErrShort},
		{1, "\x0c\x00\x00\x00\x07\x00", api.ErrShort},
		{2, "", api.ErrShort},
		{2, "\x00", api.ErrKind},
		{2, "\x0d", api.ErrKind},
		{2, "\x0b\x01", api.ErrShort},
		{2, "\x0b\x01\x00", api.ErrForm},
		{2, "\x0b\x01\x87\x00", api.ErrForm},
		{2, "\x0b\x0a", api.ErrForm},
		{2, "\x0b\x01\x07\x01\x07", api.ErrForm},
		{2, "\x0b\x01\x80\x80\x80\x80\x10", api.ErrLong},
		{2, "\x08\x05\x61", api.ErrLong},
		{2, "\x08\x05\x01\xff", api.ErrText},
		{2, "\x08", api.ErrText},
		{2, "\x0b\x02\x07", api.ErrArg},
		{2, "\x02", api.ErrShort},
		{2, "\x0c\x01\x07", api.ErrShort},
	}
	for _, c := range []struct {
		want  api.Errno
		lines []string
	}{
		// The errors of Parse.
		{api.ErrShort, []string{"", "d", "l", "i", "i7", "4", "4:pin", "d1:q4:ping", "d1:q4:ping1:ri7", "d1:q4:ping1:ri7e", "d1:q5:ping"}},
		{api.ErrForm, []string{"e", "x", "-", "\x00", "\x0b\x00\x00\x00\x07", "d1:q4:ping1:ri07ee", "d1:q4:ping1:ri-0ee", "d1:q4:ping1:riee", "d1:q04:pinge", "d01:q4:pinge", "d1:q4:pingi1ei1ee", "d1:ri7e1:q4:pinge", "d1:q4:ping1:q4:pinge", "d1:q4:ping1:ri9223372036854775808ee"}},
		{api.ErrLong, []string{"1048577:", "d1:q1048577:", "d1048577:"}},
		{api.ErrDeep, []string{"lllllllll", "d1:pllllllll", "d1:pllllllli1e"}},
		{api.ErrMore, []string{"d1:q4:ping1:ri7eee", "d1:q4:ping1:ri7eed1:q4:ping1:ri7ee", "d1:q4:pinge\x00"}},
		// The errors of Parse ahead of what From would find.
		{api.ErrMore, []string{"lex", "i7e0", "4:pingd", "dee", "d1:q4:pongee", "d1:q3:hopee", "d1:q4:ping1:ri0eee"}},
		{api.ErrShort, []string{"d1:q4:pong", "d1:q3:hop", "d1:a1:b1:q4:ping", "d1:q4:pong1:ri0e"}},
		{api.ErrForm, []string{"d1:q4:pong1:ri00ee", "d1:q4:pong1:a0:e", "d1:ri7e1:q4:ponge", "d1:q3:hop1:pli-0eee"}},
		{api.ErrLong, []string{"d1:q4:pong1:v1048577:e", "l1048577:e"}},
		{api.ErrDeep, []string{"d1:q4:pong1:tllllllll"}},
		// The errors of From: no dictionary, no kind, no message's tree, and those of Right.
		{api.ErrForm, []string{"le", "i7e", "0:", "4:ping", "ld1:q4:pingee", "l1:q4:pinge"}},
		{api.ErrKind, []string{"de", "d1:ri7ee", "d1:q0:e", "d1:q1:?e", "d1:q4:ponge", "d1:q4:PINGe", "d1:q5:ping e", "d1:qi11ee", "d1:ql4:pingee", "d1:qd4:ping0:ee", "d1:Q4:pinge", "d2:qq4:pinge", "d1:a1:be", "d1:q4:pong1:ri0e1:zlee"}},
		{api.ErrForm, []string{"d0:0:1:q4:pinge", "d1:a1:b1:q4:pinge", "d1:q4:ping1:zi1ee", "d1:q4:ping2:rri7ee", "d1:Ri7e1:q4:pinge", "d2:hhi1e1:q4:pinge"}},
		{api.ErrForm, []string{"d1:q4:ping1:ri0ee", "d1:hi0e1:q3:gote", "d1:ci0e1:q3:naye", "d1:i8:" + zero8 + "1:q4:finde", "d1:k0:1:q3:gete", "d1:o10:" + zero10 + "1:q4:notee", "d1:ple1:q3:hope", "d1:q4:move1:tlee", "d1:k1:k1:q3:put1:v0:e"}},
		{api.ErrForm, []string{"d1:q4:ping1:r1:7e", "d1:q4:ping1:rlee", "d1:q4:ping1:rdee", "d1:q4:ping1:ri-1ee", "d1:q4:ping1:ri4294967296ee", "d1:q4:ping1:ri-4294967295ee", "d1:hi2e1:q3:gote", "d1:hi-1e1:q3:gote", "d1:h1:11:q3:gote", "d1:ci256e1:q3:naye", "d1:ci-1e1:q3:naye", "d1:c1:11:q3:naye"}},
		{api.ErrForm, []string{"d1:ii7e1:q4:finde", "d1:i7:abcdefg1:q4:finde", "d1:i9:abcdefghi1:q4:finde", "d1:ki1e1:q3:gete", "d1:kl1:ke1:q3:gete", "d1:o9:abcdefghi1:q4:notee", "d1:o11:abcdefghijk1:q4:notee", "d1:ol10:abcdefghije1:q4:notee", "d1:k1:k1:q3:put1:vi1ee"}},
		{api.ErrForm, []string{"d1:p10:abcdefghij1:q3:hope", "d1:pl9:abcdefghie1:q3:hope", "d1:pli1ee1:q3:hope", "d1:pd1:a10:abcdefghije1:q3:hope", "d1:q4:move1:tl1:k1:vee", "d1:q4:move1:tll1:keee", "d1:q4:move1:tll1:k1:v1:weee", "d1:q4:move1:tlli1e1:veee", "d1:q4:move1:tld1:k1:veee", "d1:q4:move1:td1:kl1:k1:veee"}},
		{api.ErrArg, []string{"d1:ci1e1:q4:pinge", "d1:hi1e1:q4:pinge", "d1:o10:abcdefghij1:q4:telle", "d1:q3:got1:v1:ve", "d1:ci1e1:k1:\xff1:q3:gete"}},
		{api.ErrText, []string{"d1:q3:gete", "d1:k1:\xff1:q3:gete", "d1:k33:" + key32 + "k1:q3:gete", "d1:q4:move1:tll0:0:eee"}},
		{api.ErrLong, []string{"d1:hi1e1:q3:got1:v513:" + val512 + "ve", "d1:pl" + strings.Repeat("10:abcdefghij", 17) + "e1:q3:hope", "d1:q4:move1:tl" + strings.Repeat("l1:k1:ve", 9) + "ee"}},
		{api.ErrShort, []string{"d1:q3:hope", "d1:hi1e1:q4:movee", "d1:q3:naye", "d1:q3:nay1:ri7ee"}},
	} {
		for _, line := range c.lines {
			l = append(l, refusal{3, line, c.want})
		}
	}
	return l
}

// 14.2, R2: bytes that are refused in each of the modes, with each of the errors.
func TestDecRefuses(t *testing.T) {
	for _, c := range refusals() {
		expectDec(t, c.mode, []byte(c.b), c.want)
		for _, mode := range append(unknown(), modes...) {
			checkDec(t, mode, []byte(c.b))
		}
	}
	for _, mode := range modes {
		expectDec(t, mode, nil, api.ErrShort)
		expectDec(t, mode, []byte{}, api.ErrShort)
	}
}

// 14.2: for Bencode, whatever Parse refuses gets its error, and whatever it takes is left to From.
func TestDecOfTrees(t *testing.T) {
	parsed := map[api.Errno]int{}
	for _, c := range refusals() {
		b := []byte(c.b)
		x, err := ben.Parse(b)
		if c.mode == 3 && err == api.OK {
			_, err = dict.From(x)
			parsed[err]++
		}
		expectDec(t, 3, b, err)
	}
	for _, err := range []api.Errno{api.ErrForm, api.ErrKind, api.ErrArg, api.ErrText, api.ErrLong, api.ErrShort} {
		if parsed[err] == 0 {
			t.Errorf("no tree gets %d", err)
		}
	}
}

// 14.2, 14.3: every encoding, cut off after each of its bytes: in the modes Fixed and Bencode, none is the beginning of another.
func TestDecOfCutEncodings(t *testing.T) {
	for _, m := range fewValid() {
		for _, mode := range modes {
			b := inMode(mode, m)
			for size := range b {
				err := checkDec(t, mode, b[:size])
				if mode != 2 && err != api.ErrShort {
					t.Fatalf("Dec(%d, %s) returns %d", mode, show(b[:size]), err)
				}
			}
		}
	}
}

// 14.2, 14.3: every encoding with bytes behind it: in the mode Tagged, they can make another message of it.
func TestDecOfMoreBytes(t *testing.T) {
	for _, m := range fewValid() {
		for _, mode := range modes {
			b := inMode(mode, m)
			for c := range 256 {
				err := checkDec(t, mode, append(slices.Clone(b), byte(c)))
				if mode != 2 && err != api.ErrMore {
					t.Fatalf("Dec(%d, %s with %d behind it) returns %d", mode, show(b), c, err)
				}
			}
			for _, other := range modes {
				err := checkDec(t, mode, append(slices.Clone(b), inMode(other, m)...))
				if mode != 2 && err != api.ErrMore {
					t.Fatalf("Dec(%d, two encodings of %s) returns %d", mode, show(m), err)
				}
			}
		}
	}
}

// spoilt yields b with the byte at each place changed or left out: in each way if b is short, in a few if it is longer, in one at each place if it is very long.
func spoilt(b []byte, f func([]byte)) {
	for at := range b {
		steps := []byte{1, 128, 255, 'e' - b[at]}
		switch {
		case len(b) < 60:
			steps = some(256, func(i int) byte { return byte(i) })
		case len(b) > 1000:
			steps = steps[at%4:][:1]
		}
		for _, step := range steps {
			c := slices.Clone(b)
			c[at] += step
			if step == 0 {
				c = slices.Delete(c, at, at+1)
			}
			f(c)
		}
	}
}

// 14.2, 14.3: every encoding with one byte changed, or left out: what is taken is the encoding of another message.
func TestDecOfSpoiltEncodings(t *testing.T) {
	for _, mode := range modes {
		seen := map[api.Errno]int{}
		for _, m := range fewValid() {
			spoilt(inMode(mode, m), func(b []byte) {
				err := checkDec(t, mode, b)
				seen[err]++
				if got, _ := Dec(mode, b); err == api.OK && same(got, m) {
					t.Fatalf("Dec(%d, %s) = %s too", mode, show(b), show(m))
				}
			})
		}
		for _, err := range []api.Errno{api.OK, api.ErrShort, api.ErrForm, api.ErrKind, api.ErrText} {
			if seen[err] == 0 {
				t.Errorf("in the mode %d no bytes get %d", mode, err)
			}
		}
	}
}

// 14.2: bytes of one mode given to another: the mode alone tells how they are read.
func TestDecOfOtherModes(t *testing.T) {
	for _, m := range fewValid() {
		expectDec(t, 1, inMode(3, m), api.ErrKind)
		expectDec(t, 2, inMode(3, m), api.ErrKind)
		expectDec(t, 3, inMode(1, m), api.ErrForm)
		expectDec(t, 3, inMode(2, m), api.ErrForm)
		checkDec(t, 1, inMode(2, m))
		checkDec(t, 2, inMode(1, m))
	}
	both := []byte{11, 1, 128, 128, 1}
	if m, err := Dec(1, both); err != api.OK || !same(m, api.Msg{Kind: api.KPing, Rid: 0x01808001}) {
		t.Errorf("Dec(1, %s) = %s, %d", show(both), show(m), err)
	}
	if m, err := Dec(2, both); err != api.OK || !same(m, api.Msg{Kind: api.KPing, Rid: 16384}) {
		t.Errorf("Dec(2, %s) = %s, %d", show(both), show(m), err)
	}
}

// 14.3: in no mode two messages have one encoding.
func TestEncTellsMessagesApart(t *testing.T) {
	for _, mode := range modes {
		taken := map[string]api.Msg{}
		eachValid(func(m api.Msg) {
			b, _ := Enc(mode, m)
			if other, ok := taken[string(b)]; ok && !same(other, m) {
				t.Fatalf("Enc(%d, ..) of %s and of %s is %s", mode, show(m), show(other), show(b))
			}
			taken[string(b)] = m
		})
	}
}

// pieces are what the encodings are made of, for bytes that come near to one.
func pieces(mode int) []string {
	l := []string{"\x00", "\x01", "\x02", "\x03", "\x04", "\x05", "\x06", "\x07", "\x08", "\x09", "\x0a", "\x0b", "\x0c", "\x0d", "\x80", "\xff", "k", "\x00\x00\x00\x07", "\x01k", "\x00\x01v", zero8, zero10}
	if mode == 3 {
		l = strings.Fields("d e l i 1:q 4:ping 3:get 3:got 4:move 3:hop 1:r i7e i1e i0e 1:k 1:t 1:h 1:p 1:v 10:abcdefghij 1: 0: d1:q l1:k0:e -")
	}
	return l
}

// 14.2, 14.3, R1: bytes without a rule to them, as such and from the pieces of encodings.
func TestDecOfAnyBytes(t *testing.T) {
	r := rand.New(rand.NewSource(14))
	for _, mode := range modes {
		l := pieces(mode)
		taken := 0
		for range 60000 {
			b := make([]byte, r.Intn(20))
			r.Read(b)
			checkDec(t, mode, b)
			line := ""
			if mode == 3 && r.Intn(2) == 0 {
				line = "d1:q"
			}
			for range r.Intn(8) {
				line += l[r.Intn(len(l))]
			}
			if mode == 3 && r.Intn(2) == 0 {
				line += "e"
			}
			if checkDec(t, mode, []byte(line)) == api.OK {
				taken++
			}
		}
		if taken == 0 {
			t.Errorf("in the mode %d none of the bytes is taken", mode)
		}
	}
}

// 14.2, 14.3, R1: all rows of up to two bytes, and Bencode's from the bytes that it knows.
func TestDecOfShortBytes(t *testing.T) {
	for _, mode := range modes {
		for a := range 256 {
			checkDec(t, mode, []byte{byte(a)})
			for b := range 256 {
				checkDec(t, mode, []byte{byte(a), byte(b)})
			}
		}
	}
	known := "dlie01:q-"
	var next func(b []byte)
	next = func(b []byte) {
		checkDec(t, 3, b)
		if len(b) < 5 {
			for i := range len(known) {
				next(append(b, known[i]))
			}
		}
	}
	next(nil)
}

// 14.4: the greatest message of some kind has just so many bytes, and none has more, whatever one of its fields is.
func TestMost(t *testing.T) {
	sums := map[int]int{
		1: 1 + 4 + 1 + 1 + 8*(1+96+2+512),
		2: 1 + 1 + 5 + 1 + 1 + 1 + 8*(1+96+2+512),
		3: len("d1:hi1e1:q4:move1:ri4294967295e1:tlee") + 8*(len("l96:512:e")+96+512),
	}
	for _, mode := range modes {
		if n := Most(mode); n != mosts[mode] || n != sums[mode] {
			t.Errorf("Most(%d) = %d, want %d", mode, n, mosts[mode])
		}
		longest := 0
		for kind := 1; kind <= 12; kind++ {
			b, err := Enc(mode, greatest(kind))
			if err != api.OK {
				t.Fatalf("the greatest message of the kind %d gets %d", kind, err)
			}
			longest = max(longest, len(b))
			eachNear(greatest(kind), func(m api.Msg) {
				if near, _ := Enc(mode, m); len(near) > len(b) {
					t.Errorf("%s has more bytes in the mode %d than the greatest message of its kind", show(m), mode)
				}
			})
		}
		if longest != Most(mode) {
			t.Errorf("the longest message has %d bytes in the mode %d, and Most says %d", longest, mode, Most(mode))
		}
		eachValid(func(m api.Msg) {
			if b, _ := Enc(mode, m); len(b) > Most(mode) {
				t.Fatalf("%s has %d bytes in the mode %d", show(m), len(b), mode)
			}
		})
	}
}

// eachNear yields m with other values in each of its fields: all the choices, numbers of all sizes, strings and lists of all lengths.
func eachNear(m api.Msg, f func(api.Msg)) {
	for _, name := range append([]string{"Rid"}, fieldsOf(m)...) {
		for _, v := range choices()[name] {
			f(set(m, name, v))
		}
	}
	for bits := range 64 {
		n := uint64(1) << bits
		for _, n := range []uint64{n - 1, n, n + 1, -n} {
			near := m
			near.Rid = uint32(n)
			f(near)
			near = m
			near.ID, near.Code, near.Peer = n, uint8(n), api.Peer{ID: n, Addr: uint16(n)}
			near.Peers = some(len(m.Peers), func(int) api.Peer { return near.Peer })
			f(msg.Bare(near))
		}
	}
	for size := range api.MaxVal + 2 {
		near := m
		near.Key, near.Val = strings.Repeat("k", size), strings.Repeat("v", size)
		near.Pairs = samePairs(len(m.Pairs), key96, near.Val)
		f(msg.Bare(near))
		near.Key, near.Val = strings.Repeat("\u20ac", size), val512
		near.Pairs = samePairs(len(m.Pairs), near.Key, near.Val)
		f(msg.Bare(near))
	}
	for size := range api.MaxPeers + 2 {
		near := m
		near.Peers, near.Pairs = some(size, func(int) api.Peer { return greatPeer }), samePairs(size, key96, val512)
		f(msg.Bare(near))
	}
}

// 14.4, 14.1, 14.3: the longest message and what is a little longer: that is not valid, and its bytes would be refused.
func TestBeyondMost(t *testing.T) {
	longest := greatest(api.KMove)
	for _, mode := range modes {
		b := inMode(mode, longest)
		if len(b) != Most(mode) || checkEnc(t, mode, longest) != api.OK || checkDec(t, mode, b) != api.OK {
			t.Errorf("the longest message has %d bytes in the mode %d", len(b), mode)
		}
		longKey, longVal := samePairs(8, key96, val512), samePairs(8, key96, val512)
		longKey[7].Key += "k"
		longVal[0].Val += "v"
		for _, c := range []struct {
			pairs []api.Pair
			want  api.Errno
		}{
			{longKey, api.ErrText},
			{longVal, api.ErrLong},
			{append(samePairs(8, key96, val512), api.Pair{Key: "k"}), api.ErrLong},
		} {
			m := longest
			m.Pairs = c.pairs
			if err := checkEnc(t, mode, m); err != c.want {
				t.Errorf("a move that is too long gets %d in the mode %d", err, mode)
			}
			if err := checkDec(t, mode, inMode(mode, m)); err == api.OK {
				t.Errorf("Dec(%d, ..) takes a move that is too long", mode)
			}
		}
	}
}

// roomy is m with slices that have spare capacity, and something in it.
func roomy(m api.Msg) api.Msg {
	m.Peers = append(slices.Clone(m.Peers), api.Peer{ID: 78}, api.Peer{ID: 79})[:len(m.Peers)]
	m.Pairs = append(slices.Clone(m.Pairs), api.Pair{Key: "a"}, api.Pair{Key: "b"})[:len(m.Pairs)]
	return m
}

// whole is m with the spare capacity of its slices as if that were a part of them.
func whole(m api.Msg) api.Msg {
	m.Peers, m.Pairs = slices.Clone(m.Peers[:cap(m.Peers)]), slices.Clone(m.Pairs[:cap(m.Pairs)])
	return m
}

// spoilMsg changes all that the slices of m lead to.
func spoilMsg(m api.Msg) {
	for i := range m.Peers[:cap(m.Peers)] {
		m.Peers[:cap(m.Peers)][i] = api.Peer{ID: 77, Addr: 77}
	}
	for i := range m.Pairs[:cap(m.Pairs)] {
		m.Pairs[:cap(m.Pairs)][i] = api.Pair{Key: "spoilt", Val: "spoilt"}
	}
}

// spoilBytes changes all of b, what is behind it too.
func spoilBytes(b []byte) {
	for i := range b[:cap(b)] {
		b[:cap(b)][i] ^= 255
	}
}

// 14.1, R4: Enc changes nothing, keeps nothing, and returns new memory.
func TestEncKeepsNothing(t *testing.T) {
	for _, mode := range append(unknown(), modes...) {
		for _, m := range fewValid() {
			given := roomy(m)
			before := whole(given)
			first, err := Enc(mode, given)
			second, _ := Enc(mode, given)
			if !same(whole(given), before) {
				t.Fatalf("Enc(%d, %s) changed its argument to %s", mode, show(m), show(given))
			}
			if mosts[mode] == 0 {
				continue
			}
			want := inMode(mode, m)
			spoilMsg(given)
			if err != api.OK || !bytes.Equal(first, want) {
				t.Errorf("Enc(%d, ..) keeps %s", mode, show(m))
			}
			spoilBytes(first)
			if !bytes.Equal(second, want) {
				t.Errorf("what Enc(%d, %s) returns shares memory", mode, show(m))
			}
		}
		for _, c := range spoiltMessages() {
			given := roomy(c.m)
			before := whole(given)
			if Enc(mode, given); !same(whole(given), before) {
				t.Errorf("Enc(%d, %s) changed its argument", mode, show(c.m))
			}
		}
	}
}

// 14.2, R4: Dec changes nothing, keeps nothing, and returns new memory.
func TestDecKeepsNothing(t *testing.T) {
	for _, mode := range append(unknown(), modes...) {
		for _, m := range fewValid() {
			b := inMode(api.Bencode, m)
			if mosts[mode] != 0 {
				b = inMode(mode, m)
			}
			given := append(slices.Clone(b), "spare"...)[:len(b)]
			before := slices.Clone(given[:cap(given)])
			first, err := Dec(mode, given)
			second, _ := Dec(mode, given)
			if !bytes.Equal(given[:cap(given)], before) {
				t.Fatalf("Dec(%d, %s) changed its argument", mode, show(b))
			}
			if mosts[mode] == 0 {
				continue
			}
			spoilBytes(given)
			if err != api.OK || !same(first, m) {
				t.Errorf("Dec(%d, ..) keeps the bytes of %s", mode, show(m))
			}
			spoilMsg(first)
			if !same(second, m) {
				t.Errorf("what Dec(%d, ..) returns for %s shares memory", mode, show(m))
			}
		}
	}
	for _, c := range refusals() {
		given := append([]byte(c.b), "spare"...)[:len(c.b)]
		before := slices.Clone(given[:cap(given)])
		if Dec(c.mode, given); !bytes.Equal(given[:cap(given)], before) {
			t.Errorf("Dec(%d, %+q) changed its argument", c.mode, c.b)
		}
	}
}

// 14.1, 14.2, 14.4, R5: what was asked before, in whichever mode, has no effect on an answer.
func TestCallsLeaveNothingBehind(t *testing.T) {
	all := append(unknown(), modes...)
	for _, mode := range modes {
		for _, m := range fewValid() {
			for _, other := range all {
				Most(other)
				Enc(other, greatest(api.KMove))
				Dec(other, inMode(1, greatest(api.KTell)))
				Enc(other, api.Msg{Kind: api.KNay})
				Dec(other, []byte("d1:q4:ponge"))
				checkEnc(t, mode, m)
				if got, err := Dec(mode, inMode(mode, m)); err != api.OK || !same(got, m) {
					t.Fatalf("behind the mode %d, Dec(%d, ..) = %s, %d, want %s", other, mode, show(got), err, show(m))
				}
				if n := Most(mode); n != mosts[mode] {
					t.Fatalf("behind the mode %d, Most(%d) = %d", other, mode, n)
				}
			}
		}
	}
}

// 14.1, 14.2, R1, R6: great messages and many bytes.
func TestGreatInputs(t *testing.T) {
	long := strings.Repeat("k", 1<<22)
	for _, c := range []invalid{
		{api.Msg{Kind: api.KHop, Peers: somePeers(100000)}, api.ErrLong},
		{api.Msg{Kind: api.KMove, Pairs: samePairs(100000, "k", "v")}, api.ErrLong},
		{api.Msg{Kind: api.KPut, Key: long, Val: long}, api.ErrText},
		{api.Msg{Kind: api.KGot, Has: true, Val: long}, api.ErrLong},
	} {
		for _, mode := range modes {
			if b, err := Enc(mode, c.m); err != c.want || len(b) != 0 {
				t.Errorf("Enc(%d, ..) of a great message returns %d, want %d", mode, err, c.want)
			}
			checkDec(t, mode, inMode(mode, c.m))
		}
	}
	for _, line := range []string{long, "d1:q" + textLine(long[:1<<20]) + "e", "l" + strings.Repeat("le", 1<<18) + "e", "d1:pl" + strings.Repeat("10:abcdefghij", 1<<16) + "e1:q3:hope", strings.Repeat("l", 1<<20), strings.Repeat("d", 1<<20), strings.Repeat("1", 1<<20), "i" + strings.Repeat("1", 1<<20) + "e", strings.Repeat("\xff", 1<<20)} {
		for _, mode := range modes {
			checkDec(t, mode, []byte(line))
		}
	}
}
