package vers

import (
	"math"
	"slices"
	"strconv"
	"strings"
	"testing"

	"annulet/api"
)

// mix is a row of numbers without any plain order, the same ones each time.
type mix uint64

func (m *mix) next() uint64 {
	x := uint64(*m)
	x ^= x << 13
	x ^= x >> 7
	x ^= x << 17
	*m = mix(x)
	return x
}

func (m *mix) below(n int) int {
	return int((m.next() >> 20) % uint64(n))
}

// members are by the words of 'A set' the versions of a set; the index 0 stands for no version.
type members [17]bool

func membersByWords(set uint16) members {
	var in members
	rest := int(set)
	for v := 1; v <= 16; v++ {
		in[v] = rest%2 == 1
		rest /= 2
	}
	return in
}

// setByWords is the number whose bits are the members'.
func setByWords(in members) uint16 {
	sum, worth := 0, 1
	for v := 1; v <= 16; v++ {
		if in[v] {
			sum += worth
		}
		worth *= 2
	}
	return uint16(sum)
}

func listByWords(in members) []int {
	var l []int
	for v, has := range in {
		if has {
			l = append(l, v)
		}
	}
	return l
}

func textByWords(in members) string {
	s := ""
	for v, has := range in {
		if has {
			s += "," + strconv.Itoa(v)
		}
	}
	if s == "" {
		return "-"
	}
	return s[1:]
}

// eachSet calls f for all 65536 sets.
func eachSet(f func(set uint16, in members)) {
	for n := range 1 << 16 {
		f(uint16(n), membersByWords(uint16(n)))
	}
}

// strange are numbers that are no versions, those next to them among them, and those whose low bits are like a version's.
var strange = []int{
	0, -1, -2, -15, -16, -17, 17, 18, 31, 32, 33, 63, 64, 65, 66, 127, 128, 129, 255, 256, 257, 65535, 65536, 65537,
	-63, -64, -65, -255, -256, 1<<32 + 1, 1<<32 - 1, 1<<32 + 16, 1 << 33, 1<<62 + 1, math.MaxInt, math.MaxInt - 1,
	math.MinInt, math.MinInt + 1, math.MinInt + 3, math.MaxInt32, math.MinInt32,
}

// 24.1: Set, List and Has agree with the words of 'A set' for each of the sets.
func TestAllSets(t *testing.T) {
	eachSet(func(set uint16, in members) {
		want := listByWords(in)
		l := List(set)
		if !slices.Equal(l, want) {
			t.Fatalf("List(%d) = %v, want %v", set, l, want)
		}
		if back := Set(want); back != set {
			t.Fatalf("Set(%v) = %d, want %d", want, back, set)
		}
		for v := 1; v <= 16; v++ {
			if has := Has(set, v); has != in[v] {
				t.Fatalf("Has(%d, %d) = %t", set, v, has)
			}
		}
	})
}

// 24.1: each version has the bit that the words give it.
func TestSetOfOne(t *testing.T) {
	want := []uint16{1, 2, 4, 8, 16, 32, 64, 128, 256, 512, 1024, 2048, 4096, 8192, 16384, 32768}
	for i, set := range want {
		if got := Set([]int{i + 1}); got != set {
			t.Errorf("Set(%d) = %d, want %d", i+1, got, set)
		}
	}
}

// 24.1: elements that are no versions are not in the set, wherever they stand; a number that is no version is in no set.
func TestNoVersions(t *testing.T) {
	for _, v := range strange {
		for _, l := range [][]int{{v}, {v, v}, {v, 3, 16}, {3, v, 16}, {16, 3, v}} {
			want := uint16(0)
			if len(l) == 3 {
				want = 4 + 32768
			}
			if set := Set(l); set != want {
				t.Errorf("Set(%v) = %d, want %d", l, set, want)
			}
		}
		for _, set := range []uint16{0, 1, 2, 32768, 65535} {
			if Has(set, v) {
				t.Errorf("Has(%d, %d) = true", set, v)
			}
		}
	}
	if set := Set(strange); set != 0 {
		t.Errorf("Set of no versions = %d", set)
	}
}

// 24.1: elements count in any order and any number of times; no elements give the empty set.
func TestSetOfMany(t *testing.T) {
	for _, l := range [][]int{nil, {}} {
		if set := Set(l); set != 0 {
			t.Errorf("Set(%v) = %d, want 0", l, set)
		}
	}
	m := mix(24)
	for range 2000 {
		var in members
		var l []int
		for range m.below(40) {
			if m.below(3) == 0 {
				l = append(l, strange[m.below(len(strange))])
				continue
			}
			v := 1 + m.below(16)
			in[v] = true
			l = append(l, v)
		}
		if set := Set(l); set != setByWords(in) {
			t.Fatalf("Set(%v) = %d, want %d", l, set, setByWords(in))
		}
	}
}

// 24.1: Set does not change its argument (R4), and List returns new memory each time.
func TestMemory(t *testing.T) {
	l := []int{5, 0, 5, 17, 2}
	Set(l)
	if !slices.Equal(l, []int{5, 0, 5, 17, 2}) {
		t.Errorf("Set changed its argument: %v", l)
	}
	first, second := List(18), List(18)
	first[0], first[1] = 9, 9
	if !slices.Equal(second, []int{2, 5}) || !slices.Equal(List(18), []int{2, 5}) {
		t.Errorf("List returned memory that is shared")
	}
}

// bestByWords looks for the greatest version that both have.
func bestByWords(a, b members) int {
	best := 0
	for v := range a {
		if a[v] && b[v] {
			best = v
		}
	}
	return best
}

// checkBest holds Best to the words, in both orders of its arguments.
func checkBest(t *testing.T, a, b uint16) {
	t.Helper()
	want := bestByWords(membersByWords(a), membersByWords(b))
	if best := Best(a, b); best != want {
		t.Fatalf("Best(%d, %d) = %d, want %d", a, b, best, want)
	}
	if best := Best(b, a); best != want {
		t.Fatalf("Best(%d, %d) = %d, want %d", b, a, best, want)
	}
}

// 24.2, 24.4: Best follows its words for all sets beside some, in both orders.
func TestBest(t *testing.T) {
	eachSet(func(set uint16, _ members) {
		for _, other := range []uint16{0, 1, 2, 3, 1 << 14, 1 << 15, 0x5555, 0xaaaa, 0x00ff, 0xff00, 0xffff, set, ^set} {
			checkBest(t, set, other)
		}
	})
	m := mix(242)
	for range 200000 {
		checkBest(t, uint16(m.next()>>20), uint16(m.next()>>20)&uint16(m.next()>>20))
	}
}

// 24.2: the example, one version on each side, and no common one.
func TestBestByHand(t *testing.T) {
	if best := Best(Set([]int{1, 3, 4}), Set([]int{2, 3})); best != 3 {
		t.Errorf("Best of 1, 3, 4 and 2, 3 = %d, want 3", best)
	}
	for a := 1; a <= 16; a++ {
		for b := 1; b <= 16; b++ {
			want := 0
			if a == b {
				want = a
			}
			if best := Best(Set([]int{a}), Set([]int{b})); best != want {
				t.Errorf("Best of %d and %d = %d, want %d", a, b, best, want)
			}
		}
	}
	if best := Best(0, 0); best != 0 {
		t.Errorf("Best of nothing = %d", best)
	}
}

// 24.2: the mode of each version, and 0 for what is no version.
func TestMode(t *testing.T) {
	want := map[int]int{
		1: 1, 4: 1, 7: 1, 10: 1, 13: 1, 16: 1,
		2: 2, 5: 2, 8: 2, 11: 2, 14: 2,
		3: 3, 6: 3, 9: 3, 12: 3, 15: 3,
	}
	for v := -300; v <= 300; v++ {
		if mode := Mode(v); mode != want[v] {
			t.Errorf("Mode(%d) = %d, want %d", v, mode, want[v])
		}
	}
	for _, v := range strange {
		if mode := Mode(v); mode != 0 {
			t.Errorf("Mode(%d) = %d, want 0", v, mode)
		}
	}
	if Mode(4) != api.Fixed || Mode(2) != api.Tagged || Mode(3) != api.Bencode {
		t.Errorf("the modes are not those of api")
	}
}

// 24.3: Text follows its words for each of the sets, and Read leads back.
func TestText(t *testing.T) {
	eachSet(func(set uint16, in members) {
		want := textByWords(in)
		s := Text(set)
		if s != want {
			t.Fatalf("Text(%d) = %q, want %q", set, s, want)
		}
		back, err := Read(want)
		if err != api.OK || back != set {
			t.Fatalf("Read(%q) = %d, %d, want %d", want, back, err, set)
		}
	})
}

// 24.3: some notations that are written out.
func TestTextByHand(t *testing.T) {
	rows := []struct {
		l []int
		s string
	}{
		{nil, "-"},
		{[]int{1}, "1"},
		{[]int{16}, "16"},
		{[]int{12, 1}, "1,12"},
		{[]int{10, 9}, "9,10"},
		{[]int{1, 2, 3, 4, 5, 6, 7, 8, 9, 10, 11, 12, 13, 14, 15, 16}, "1,2,3,4,5,6,7,8,9,10,11,12,13,14,15,16"},
	}
	for _, row := range rows {
		if s := Text(Set(row.l)); s != row.s {
			t.Errorf("Text of %v = %q, want %q", row.l, s, row.s)
		}
		if set, err := Read(row.s); set != Set(row.l) || err != api.OK {
			t.Errorf("Read(%q) = %d, %d", row.s, set, err)
		}
	}
}

// 24.3: what is the Text of no set gets ErrForm, and the set is 0.
func TestReadRefuses(t *testing.T) {
	rows := []string{
		"", " ", ",", ",,", "--", "-,", ",-", "-,-", "-,1", "1,-", "0", "-0", "00", "01", "+1", "-1", "-16", "17", "1,17", "0,1", "1,0",
		"3,2", "2,2", "1,2,2", "1,2,1", "16,1", "10,9", "1,", ",1", "1,,2", "1, 2", " 1", "1 ", "1\n", "\n", "1;2", "1.2", "1\x00", "\x00",
		"1,02", "1,+2", "1,-2", "1,2,", "a", "1,a", "a,1", "0x1", "1e0", "1_0", "\xff", "\xd9\xa1", "1\xff", "1,\xef\xbc\x92",
		"4294967297", "18446744073709551617", "65537", "257", "36893488147419103233", "1,18446744073709551618",
		"1,2,3,4,5,6,7,8,9,10,11,12,13,14,15,16,17", "1,2,3,4,5,6,7,8,9,10,11,12,13,14,15,16,", "1-2", "1,2-3", "–", "empty",
	}
	for _, s := range rows {
		if set, err := Read(s); set != 0 || err != api.ErrForm {
			t.Errorf("Read(%q) = %d, %d, want 0, ErrForm", s, set, err)
		}
	}
	for _, long := range []string{strings.Repeat(",", 1<<20), strings.Repeat("1", 1<<20), strings.Repeat("1,", 1<<19) + "1", strings.Repeat("-", 1<<20)} {
		if set, err := Read(long); set != 0 || err != api.ErrForm {
			t.Errorf("Read of a long string = %d, %d, want 0, ErrForm", set, err)
		}
	}
}

// checkRead holds Read to the words: s is read if and only if it is among the notations of all sets.
func checkRead(t *testing.T, known map[string]uint16, s string) {
	t.Helper()
	want, is := known[s]
	wantErr := api.ErrForm
	if is {
		wantErr = api.OK
	}
	if set, err := Read(s); set != want || err != wantErr {
		t.Fatalf("Read(%q) = %d, %d, want %d, %d", s, set, err, want, wantErr)
	}
}

func notations() map[string]uint16 {
	known := map[string]uint16{}
	eachSet(func(set uint16, in members) {
		known[textByWords(in)] = set
	})
	return known
}

// 24.3: Read accepts the notations of the sets alone, among all short strings of the bytes that matter.
func TestReadShortStrings(t *testing.T) {
	known := notations()
	const bytes = "0123679,-+ a"
	row := []string{""}
	for range 5 {
		var longer []string
		for _, s := range row {
			checkRead(t, known, s)
			for i := range len(bytes) {
				longer = append(longer, s+bytes[i:i+1])
			}
		}
		row = longer
	}
	for _, s := range row {
		checkRead(t, known, s)
	}
}

// 24.3: a notation that was changed at one place, shortened or lengthened is read only if it is the notation of a set again.
func TestReadChanged(t *testing.T) {
	known := notations()
	m := mix(243)
	const bytes = "0123456789,- a\x00\xff"
	for range 3000 {
		s := Text(uint16(m.next() >> 20))
		at := m.below(len(s))
		for i := range len(bytes) {
			checkRead(t, known, s[:at]+bytes[i:i+1]+s[at:])
			checkRead(t, known, s[:at]+bytes[i:i+1]+s[at+1:])
			checkRead(t, known, s+bytes[i:i+1])
		}
		checkRead(t, known, s[:at]+s[at+1:])
		checkRead(t, known, s[at:])
		checkRead(t, known, s[:at])
	}
}

// 24.1 to 24.3: calls with the same arguments have the same results, whatever was called between them (R5).
func TestSameResults(t *testing.T) {
	m := mix(244)
	for range 500 {
		a, b := uint16(m.next()>>20), uint16(m.next()>>20)
		s, best := Text(a), Best(a, b)
		Read("3,2")
		Set([]int{17, 1})
		List(b)
		if Text(a) != s || Best(a, b) != best || Set(List(a)) != a {
			t.Fatalf("another result for %d and %d", a, b)
		}
	}
}
