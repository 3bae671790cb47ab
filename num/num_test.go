package num

import (
	"bytes"
	"fmt"
	"math"
	"math/big"
	"slices"
	"strings"
	"testing"

	"annulet/api"
)

const top = math.MaxUint64

// show keeps what a failed test prints short.
func show(s string) string {
	if len(s) > 80 {
		return fmt.Sprintf("%q and more, %d bytes in all", s[:80], len(s))
	}
	return fmt.Sprintf("%q", s)
}

// written follows the words of the chapter with numbers of any size: the digits of n to the base, the most significant one first, without leading zeros.
func written(n *big.Int, base int64) string {
	var b []byte
	rest, low := new(big.Int).Set(n), new(big.Int)
	for {
		rest.DivMod(rest, big.NewInt(base), low)
		b = append(b, "0123456789abcdef"[low.Int64()])
		if rest.Sign() == 0 {
			slices.Reverse(b)
			return string(b)
		}
	}
}

// put follows the words of 7.1.
func put(n int64) string {
	if n < 0 {
		return "-" + written(new(big.Int).Neg(big.NewInt(n)), 10)
	}
	return written(big.NewInt(n), 10)
}

// isDigit tells the digits of 7.1 and, with hexadecimal ones, those of 7.2.
func isDigit(c byte, base int) bool {
	return c >= '0' && c <= '9' || base == 16 && c >= 'a' && c <= 'f'
}

// allDigits tells whether s has nothing but digits, and at least one.
func allDigits(s string, base int) bool {
	for i := range len(s) {
		if !isDigit(s[i], base) {
			return false
		}
	}
	return s != ""
}

// read is the number of any size whose digits s has.
func read(s string, base int) *big.Int {
	n, ok := new(big.Int).SetString(s, base)
	if !ok {
		panic("no number: " + s)
	}
	return n
}

// get follows the words of 7.1: it knows the notations by their form, not by writing them.
func get(s string) (int64, api.Errno) {
	if s == "" {
		return 0, api.ErrShort
	}
	rest, negative := strings.CutPrefix(s, "-")
	if !allDigits(rest, 10) || rest[0] == '0' && s != "0" {
		return 0, api.ErrForm
	}
	n := read(rest, 10)
	if negative {
		n.Neg(n)
	}
	if !n.IsInt64() {
		return 0, api.ErrForm
	}
	return n.Int64(), api.OK
}

// hex follows the words of 7.2.
func hex(u uint64) string {
	s := written(new(big.Int).SetUint64(u), 16)
	return strings.Repeat("0", 16-len(s)) + s
}

// unhex follows the words of 7.2.
func unhex(s string) (uint64, api.Errno) {
	if len(s) != 16 || !allDigits(s, 16) {
		return 0, api.ErrForm
	}
	return read(s, 16).Uint64(), api.OK
}

// ofBytes follows the words of 7.2.
func ofBytes(b []byte) string {
	if len(b) == 0 {
		return "-"
	}
	var s strings.Builder
	for _, c := range b {
		s.WriteString(hex(uint64(c))[14:])
	}
	return s.String()
}

// unbytes follows the words of 7.2.
func unbytes(s string) ([]byte, api.Errno) {
	if s == "-" {
		return nil, api.OK
	}
	if len(s)%2 != 0 || !allDigits(s, 16) {
		return nil, api.ErrForm
	}
	b := make([]byte, len(s)/2)
	for i := range b {
		b[i] = byte(read(s[2*i:2*i+2], 16).Int64())
	}
	return b, api.OK
}

// mixed yields count numbers without any plain order, of all lengths, the same ones each time.
func mixed(count int) []uint64 {
	l := make([]uint64, count)
	x := uint64(88172645463325252)
	for i := range l {
		x ^= x << 13
		x ^= x >> 7
		x ^= x << 17
		l[i] = x >> (i % 64)
	}
	return l
}

// numbers are those at which a notation gets longer or other digits, and numbers from all over.
func numbers() []uint64 {
	l := []uint64{0, 1, top, top - 1, 1 << 63, 1<<63 - 1, 1<<63 + 1, 255, 256, 0x0123456789abcdef, 0xfedcba9876543210, 0xa0b0c0d0e0f00000, 0x00000f0e0d0c0b0a}
	power := uint64(1)
	for range 20 { // 10^19 is the greatest power of ten below 2^64
		for k := uint64(1); k < 10; k++ {
			l = append(l, k*power-1, k*power, k*power+1)
		}
		power *= 10
	}
	for i := range 64 {
		l = append(l, 1<<i-1, 1<<i, 1<<i+1, -(uint64(1) << i), ^(uint64(1) << i), top<<i)
	}
	for n := range uint64(3000) {
		l = append(l, n)
	}
	return append(l, mixed(20000)...)
}

// signed are numbers as int64, each also with the other sign.
func signed() []int64 {
	var l []int64
	for _, u := range numbers() {
		l = append(l, int64(u), -int64(u))
	}
	return l
}

// combine calls f for each string of length bytes of the alphabet.
func combine(alphabet []byte, length int, f func(s string)) {
	b := make([]byte, length)
	var fill func(at int)
	fill = func(at int) {
		if at == length {
			f(string(b))
			return
		}
		for _, c := range alphabet {
			b[at] = c
			fill(at + 1)
		}
	}
	fill(0)
}

// upTo calls f for each string of at most length bytes of the alphabet.
func upTo(alphabet string, length int, f func(s string)) {
	for size := range length + 1 {
		combine([]byte(alphabet), size, f)
	}
}

func allBytes() []byte {
	b := make([]byte, 256)
	for c := range b {
		b[c] = byte(c)
	}
	return b
}

// spoil calls f for s with each other byte at each place, with each byte put in at each place, and with each byte left out.
func spoil(s string, f func(s string)) {
	for at := range len(s) + 1 {
		for _, c := range allBytes() {
			f(s[:at] + string([]byte{c}) + s[at:])
			if at < len(s) {
				f(s[:at] + string([]byte{c}) + s[at+1:])
			}
		}
		if at < len(s) {
			f(s[:at] + s[at+1:])
		}
	}
}

// byteSlices are bytes of several lengths: none, one of each value, all values, long ones.
func byteSlices() [][]byte {
	all := allBytes()
	backward := slices.Clone(all)
	slices.Reverse(backward)
	l := [][]byte{nil, {}, {1, 171}, {0, 0}, {255, 255, 255}, {0, 1, 16, 255}, []byte("-"), []byte("00"), []byte("01ab"), all, backward, bytes.Repeat([]byte{0}, 1000), bytes.Repeat(all, 500)}
	for _, c := range all {
		l = append(l, []byte{c})
	}
	for i, u := range mixed(3000) {
		b := make([]byte, i%40)
		for k := range b {
			u = u*6364136223846793005 + 1442695040888963407
			b[k] = byte(u >> 56)
		}
		l = append(l, b)
	}
	return l
}

// checkGet holds Get against the chapter's words.
func checkGet(t *testing.T, s string) {
	t.Helper()
	want, wantErr := get(s)
	if got, err := Get(s); got != want || err != wantErr {
		t.Fatalf("Get(%s) = %d, %d, want %d, %d", show(s), got, err, want, wantErr)
	}
}

// checkUnhex holds Unhex against the chapter's words.
func checkUnhex(t *testing.T, s string) {
	t.Helper()
	want, wantErr := unhex(s)
	if got, err := Unhex(s); got != want || err != wantErr {
		t.Fatalf("Unhex(%s) = %d, %d, want %d, %d", show(s), got, err, want, wantErr)
	}
}

// checkUnbytes holds Unbytes against the chapter's words.
func checkUnbytes(t *testing.T, s string) {
	t.Helper()
	want, wantErr := unbytes(s)
	if got, err := Unbytes(s); !bytes.Equal(got, want) || err != wantErr {
		t.Fatalf("Unbytes(%s) = %s, %d, want %s, %d", show(s), show(string(got)), err, show(string(want)), wantErr)
	}
}

// 7.1: the chapter's examples and numbers whose notations are written out here; Get reads what Put writes.
func TestPutAndGet(t *testing.T) {
	for _, c := range []struct {
		n int64
		s string
	}{
		{0, "0"},
		{1, "1"},
		{-1, "-1"},
		{5, "5"},
		{9, "9"},
		{-9, "-9"},
		{10, "10"},
		{-10, "-10"},
		{11, "11"},
		{99, "99"},
		{100, "100"},
		{101, "101"},
		{-101, "-101"},
		{1000, "1000"},
		{1020304050, "1020304050"},
		{1234567890, "1234567890"},
		{-987654321, "-987654321"},
		{math.MaxInt32, "2147483647"},
		{math.MinInt32, "-2147483648"},
		{math.MaxUint32 + 1, "4294967296"},
		{999999999999999999, "999999999999999999"},
		{1000000000000000000, "1000000000000000000"},
		{-1000000000000000000, "-1000000000000000000"},
		{math.MaxInt64 - 1, "9223372036854775806"},
		{math.MaxInt64, "9223372036854775807"},
		{math.MinInt64 + 1, "-9223372036854775807"},
		{math.MinInt64, "-9223372036854775808"},
	} {
		if got := Put(c.n); got != c.s {
			t.Errorf("Put(%d) = %q, want %q", c.n, got, c.s)
		}
		if got, err := Get(c.s); got != c.n || err != api.OK {
			t.Errorf("Get(%q) = %d, %d, want %d, 0", c.s, got, err, c.n)
		}
	}
}

// 7.1: each power of ten, the numbers next to it, and both signs; the notation has one digit more from there on.
func TestPutOfPowersOfTen(t *testing.T) {
	power := int64(1)
	for zeros := range 19 {
		one := "1" + strings.Repeat("0", zeros)
		if got := Put(power); got != one {
			t.Errorf("Put(%d) = %q", power, got)
		}
		if got := Put(-power); got != "-"+one {
			t.Errorf("Put(%d) = %q", -power, got)
		}
		if got := Put(power - 1); zeros > 0 && got != strings.Repeat("9", zeros) {
			t.Errorf("Put(%d) = %q", power-1, got)
		}
		for _, n := range []int64{power - 1, power, power + 1, 1 - power, -power, -power - 1} {
			if got, want := Put(n), put(n); got != want {
				t.Errorf("Put(%d) = %q, want %q", n, got, want)
			}
			checkGet(t, put(n))
		}
		power *= 10
	}
}

// 7.1: numbers of all lengths, by the chapter's words.
func TestPutFollowsWords(t *testing.T) {
	for _, n := range signed() {
		if got, want := Put(n), put(n); got != want {
			t.Fatalf("Put(%d) = %q, want %q", n, got, want)
		}
	}
}

// 7.1, R2: no string at all is too short; beside the error the number is 0.
func TestGetOfNothing(t *testing.T) {
	if got, err := Get(""); got != 0 || err != api.ErrShort {
		t.Errorf("Get of the empty string = %d, %d", got, err)
	}
}

// 7.1, R2: what is no notation is refused; beside the error the number is 0.
func TestGetRefuses(t *testing.T) {
	for _, c := range []struct{ name, s string }{
		{"a minus alone", "-"},
		{"two minuses", "--"},
		{"a number behind two minuses", "--5"},
		{"a minus behind the number", "5-"},
		{"a minus within", "1-2"},
		{"a plus", "+5"},
		{"a plus alone", "+"},
		{"a plus ahead of 0", "+0"},
		{"a plus behind a minus", "-+5"},
		{"a minus ahead of 0", "-0"},
		{"two zeros", "00"},
		{"many zeros", strings.Repeat("0", 100)},
		{"a minus ahead of zeros", "-00"},
		{"leading zeros", "007"},
		{"a leading zero", "01"},
		{"a leading zero ahead of a long number", "09223372036854775807"},
		{"a leading zero behind a minus", "-01"},
		{"a leading zero behind a minus, ahead of a long number", "-09223372036854775808"},
		{"a blank", " "},
		{"a blank ahead", " 5"},
		{"a blank behind", "5 "},
		{"a blank within", "1 2"},
		{"a blank behind the minus", "- 5"},
		{"a line feed behind", "5\n"},
		{"a tab ahead", "\t5"},
		{"a byte 0 ahead", "\x005"},
		{"a byte 0 behind", "5\x00"},
		{"a letter", "a"},
		{"a capital letter", "A"},
		{"a letter behind", "5a"},
		{"a letter within", "1e3"},
		{"a hexadecimal number", "0x10"},
		{"an octal number", "0o17"},
		{"a binary number", "0b1"},
		{"an underscore", "1_000"},
		{"a dot", "1.0"},
		{"a dot at the end", "1."},
		{"a dot ahead", ".5"},
		{"a comma", "1,000"},
		{"a quotation mark", "1'000"},
		{"the byte ahead of 0", "/"},
		{"the byte ahead of 0, behind a digit", "1/"},
		{"the byte behind 9", ":"},
		{"the byte behind 9, behind a digit", "1:"},
		{"a stray byte", "\xff"},
		{"a stray byte behind", "5\xff"},
		{"a stray byte ahead", "\x805"},
		{"a byte whose lowest bits are those of a digit", "\xb5"},
		{"Arabic digits", "\u0665"},
		{"Devanagari digits", "\u0967\u0968"},
		{"a wide digit", "\uff15"},
		{"a raised digit", "\u00b2"},
		{"a mathematical digit", "\U0001d7d3"},
		{"another script's digit behind", "1\u0665"},
		{"a minus sign that is no hyphen", "\u22125"},
		{"a wide minus", "\uff0d5"},
		{"a byte order mark", "\ufeff5"},
		{"words", "five"},
		{"infinity", "Inf"},
		{"the greatest number and one more", "9223372036854775808"},
		{"the greatest number with a greater first digit", "9999999999999999999"},
		{"ten times the greatest number", "92233720368547758070"},
		{"the least number and one less", "-9223372036854775809"},
		{"ten times the least number", "-92233720368547758080"},
		{"20 digits", "10000000000000000000"},
		{"20 digits behind a minus", "-10000000000000000000"},
		{"2^64 - 1", "18446744073709551615"},
		{"2^64", "18446744073709551616"},
		{"2^64 + 5", "18446744073709551621"},
		{"-2^64", "-18446744073709551616"},
		{"-2^64 - 5", "-18446744073709551621"},
		{"2^64 + 2^63 - 1", "27670116110564327423"},
		{"2^128 + 5", "340282366920938463463374607431768211461"},
		{"21 digits", strings.Repeat("9", 21)},
		{"many digits", strings.Repeat("9", 1000)},
		{"very many digits", "1" + strings.Repeat("0", 100000)},
		{"very many digits behind a minus", "-" + strings.Repeat("123456789", 10000)},
	} {
		if got, err := Get(c.s); got != 0 || err != api.ErrForm {
			t.Errorf("%s: Get(%s) = %d, %d, want 0, %d", c.name, show(c.s), got, err, api.ErrForm)
		}
		checkGet(t, c.s)
	}
}

// 7.1: all short strings of any bytes, and longer ones of those that matter.
func TestGetOfShortStrings(t *testing.T) {
	check := func(s string) { checkGet(t, s) }
	for size := range 3 {
		combine(allBytes(), size, check)
	}
	upTo("-+019 a/:", 5, check)
	upTo("-0129", 6, check)
}

// 7.1: notations that one byte spoils, or makes those of other numbers.
func TestGetOfSpoiltNotations(t *testing.T) {
	for _, n := range []int64{0, 7, -7, 10, 12345, -67890, 999999999999999999, math.MaxInt64, math.MinInt64, math.MaxInt64 / 10, math.MinInt64 / 10} {
		spoil(put(n), func(s string) { checkGet(t, s) })
	}
}

// 7.1: the numbers around 2^63, 2^64, and their multiples, with and without a minus, are read or refused as the range says.
func TestGetAtTheEdgesOfTheRange(t *testing.T) {
	for bits := uint(60); bits <= 70; bits++ {
		for factor := int64(1); factor <= 20; factor++ {
			edge := new(big.Int).Lsh(big.NewInt(factor), bits)
			for off := int64(-20); off <= 20; off++ {
				s := written(new(big.Int).Add(edge, big.NewInt(off)), 10)
				checkGet(t, s)
				checkGet(t, "-"+s)
			}
		}
	}
}

// 7.1: no number is read that is right only modulo 2^64.
func TestGetIsNotModular(t *testing.T) {
	turn := new(big.Int).Lsh(big.NewInt(1), 64)
	for _, n := range signed()[:2000] {
		for k := int64(1); k <= 3; k++ {
			around := new(big.Int).Mul(turn, big.NewInt(k))
			for _, other := range []*big.Int{new(big.Int).Add(big.NewInt(n), around), new(big.Int).Sub(big.NewInt(n), around)} {
				if got, err := Get(other.String()); got != 0 || err != api.ErrForm {
					t.Fatalf("Get(%q) = %d, %d", other.String(), got, err)
				}
			}
		}
	}
}

// 7.2: the chapter's example and numbers whose notations are written out here; Unhex reads what Hex writes.
func TestHexAndUnhex(t *testing.T) {
	for _, c := range []struct {
		u uint64
		s string
	}{
		{0, "0000000000000000"},
		{1, "0000000000000001"},
		{9, "0000000000000009"},
		{10, "000000000000000a"},
		{15, "000000000000000f"},
		{16, "0000000000000010"},
		{255, "00000000000000ff"},
		{256, "0000000000000100"},
		{1 << 32, "0000000100000000"},
		{0xdeadbeef, "00000000deadbeef"},
		{0x0123456789abcdef, "0123456789abcdef"},
		{0xfedcba9876543210, "fedcba9876543210"},
		{1<<63 - 1, "7fffffffffffffff"},
		{1 << 63, "8000000000000000"},
		{top - 1, "fffffffffffffffe"},
		{top, "ffffffffffffffff"},
	} {
		if got := Hex(c.u); got != c.s {
			t.Errorf("Hex(%d) = %q, want %q", c.u, got, c.s)
		}
		if got, err := Unhex(c.s); got != c.u || err != api.OK {
			t.Errorf("Unhex(%q) = %d, %d, want %d, 0", c.s, got, err, c.u)
		}
	}
}

// 7.2: each digit at each place.
func TestHexOfSingleDigits(t *testing.T) {
	zeros := strings.Repeat("0", 16)
	for at := range 16 {
		for value, c := range "0123456789abcdef" {
			s := zeros[:at] + string(c) + zeros[at+1:]
			u := uint64(value) << (4 * (15 - at))
			if got := Hex(u); got != s {
				t.Errorf("Hex(%d) = %q, want %q", u, got, s)
			}
			if got, err := Unhex(s); got != u || err != api.OK {
				t.Errorf("Unhex(%q) = %d, %d, want %d, 0", s, got, err, u)
			}
		}
	}
}

// 7.2: numbers of all lengths, by the chapter's words.
func TestHexFollowsWords(t *testing.T) {
	for _, u := range numbers() {
		if got, want := Hex(u), hex(u); got != want {
			t.Fatalf("Hex(%d) = %q, want %q", u, got, want)
		}
	}
}

// 7.2, R2: what is no notation is refused, the empty string too; beside the error the number is 0.
func TestUnhexRefuses(t *testing.T) {
	for _, c := range []struct{ name, s string }{
		{"the empty string", ""},
		{"no number", "-"},
		{"one digit", "0"},
		{"15 digits", "0000000000000ff"},
		{"15 digits f", strings.Repeat("f", 15)},
		{"17 digits", "000000000000000ff"},
		{"17 digits f", strings.Repeat("f", 17)},
		{"17 digits, right modulo 2^64", "100000000000000ff"},
		{"32 digits", strings.Repeat("0", 32)},
		{"very many digits", strings.Repeat("0", 100000) + "ff"},
		{"the digit F", "00000000000000fF"},
		{"digits A to F", "00000000ABCDEF00"},
		{"the digit A first", "A000000000000000"},
		{"a blank ahead", " 0000000000000ff"},
		{"a blank behind", "00000000000000f "},
		{"a blank beside 16 digits", "00000000000000ff "},
		{"a line feed behind 16 digits", "00000000000000ff\n"},
		{"a plus", "+00000000000000f"},
		{"a minus", "-00000000000000f"},
		{"a prefix", "0x000000000000ff"},
		{"a prefix ahead of 16 digits", "0x00000000000000ff"},
		{"an underscore", "0000000_000000ff"},
		{"bytes 0", strings.Repeat("\x00", 16)},
		{"stray bytes", strings.Repeat("\xff", 16)},
		{"digits of another script, 16 bytes", strings.Repeat("\u0660", 8)},
		{"digits of another script, 16 runes", strings.Repeat("\u0660", 16)},
	} {
		if got, err := Unhex(c.s); got != 0 || err != api.ErrForm {
			t.Errorf("%s: Unhex(%s) = %d, %d, want 0, %d", c.name, show(c.s), got, err, api.ErrForm)
		}
	}
}

// 7.2: every byte at each of the sixteen places, and one place more or less.
func TestUnhexOfSpoiltNotations(t *testing.T) {
	for _, s := range []string{"0000000000000000", "ffffffffffffffff", "0123456789abcdef", "fedcba9876543210", "9999999999999999", "aaaaaaaaaaaaaaaa"} {
		spoil(s, func(s string) { checkUnhex(t, s) })
		for at := range s {
			for _, c := range "/:@AFG`g \x00~" {
				other := s[:at] + string(c) + s[at+1:]
				if got, err := Unhex(other); got != 0 || err != api.ErrForm {
					t.Errorf("Unhex(%q) = %d, %d", other, got, err)
				}
			}
		}
	}
}

// 7.2: a digit that is none, made up for by its neighbour, is refused: the number would be the same.
func TestUnhexTakesNoCarry(t *testing.T) {
	for _, c := range []struct{ s, like string }{
		{"000000000000000:", "000000000000000a"},
		{"00000000000000a/", "000000000000009f"},
		{"000000000000000g", "0000000000000010"},
		{"000000000000001`", "000000000000001f"},
	} {
		if got, err := Unhex(c.s); got != 0 || err != api.ErrForm {
			t.Errorf("Unhex(%q) = %d, %d", c.s, got, err)
		}
		checkUnhex(t, c.like)
	}
}

// 7.2: strings of every length, by the chapter's words: 16 digits alone are read.
func TestUnhexOfAllLengths(t *testing.T) {
	for size := range 70 {
		for _, c := range "09afAFg-" {
			checkUnhex(t, strings.Repeat(string(c), size))
		}
	}
	for size := range 3 {
		combine(allBytes(), size, func(s string) { checkUnhex(t, s) })
	}
}

// 7.2: the chapter's example and bytes whose notations are written out here; Unbytes reads what Bytes writes.
func TestBytesAndUnbytes(t *testing.T) {
	for _, c := range []struct {
		b []byte
		s string
	}{
		{[]byte{1, 171}, "01ab"},
		{nil, "-"},
		{[]byte{}, "-"},
		{[]byte{0}, "00"},
		{[]byte{9}, "09"},
		{[]byte{10}, "0a"},
		{[]byte{16}, "10"},
		{[]byte{45}, "2d"},
		{[]byte{127}, "7f"},
		{[]byte{128}, "80"},
		{[]byte{255}, "ff"},
		{[]byte{0, 0}, "0000"},
		{[]byte{0, 1}, "0001"},
		{[]byte{1, 0}, "0100"},
		{[]byte{0, 1, 16, 255}, "000110ff"},
		{[]byte("ring"), "72696e67"},
		{[]byte{1, 35, 69, 103, 137, 171, 205, 239}, "0123456789abcdef"},
		{[]byte{222, 173, 190, 239, 0, 222, 173, 190, 239}, "deadbeef00deadbeef"},
		{bytes.Repeat([]byte{255}, 5000), strings.Repeat("ff", 5000)},
		{bytes.Repeat([]byte{0}, 5000), strings.Repeat("00", 5000)},
	} {
		if got := Bytes(c.b); got != c.s {
			t.Errorf("Bytes(%s) = %s, want %s", show(string(c.b)), show(got), show(c.s))
		}
		if got, err := Unbytes(c.s); !bytes.Equal(got, c.b) || err != api.OK {
			t.Errorf("Unbytes(%s) = %s, %d, want %s, 0", show(c.s), show(string(got)), err, show(string(c.b)))
		}
	}
}

// 7.2: one byte of each value, and each value beside others.
func TestBytesOfEachValue(t *testing.T) {
	for c := range 256 {
		s := fmt.Sprintf("%02x", c)
		for _, pair := range []struct {
			b []byte
			s string
		}{{[]byte{byte(c)}, s}, {[]byte{byte(c), 0}, s + "00"}, {[]byte{255, byte(c)}, "ff" + s}} {
			if got := Bytes(pair.b); got != pair.s {
				t.Errorf("Bytes(%d) = %q, want %q", pair.b, got, pair.s)
			}
			if got, err := Unbytes(pair.s); !bytes.Equal(got, pair.b) || err != api.OK {
				t.Errorf("Unbytes(%q) = %d, %d, want %d, 0", pair.s, got, err, pair.b)
			}
		}
	}
}

// 7.2: bytes of all lengths, by the chapter's words.
func TestBytesFollowsWords(t *testing.T) {
	for _, b := range byteSlices() {
		if got, want := Bytes(b), ofBytes(b); got != want {
			t.Fatalf("Bytes(%s) = %s, want %s", show(string(b)), show(got), show(want))
		}
	}
}

// 7.2, R2: what is no notation is refused, the empty string too; beside the error there are no bytes.
func TestUnbytesRefuses(t *testing.T) {
	for _, c := range []struct{ name, s string }{
		{"the empty string", ""},
		{"two minuses", "--"},
		{"three minuses", "---"},
		{"a minus ahead of 0", "-0"},
		{"a minus ahead of a byte", "-00"},
		{"a minus behind a byte", "00-"},
		{"a minus behind a digit", "0-"},
		{"a blank behind the minus", "- "},
		{"a blank ahead of the minus", " -"},
		{"one digit", "0"},
		{"one digit f", "f"},
		{"three digits", "01a"},
		{"an odd number of digits", "01ab0"},
		{"a great odd number of digits", strings.Repeat("ab", 5000) + "c"},
		{"the digit A", "0A"},
		{"the digit F first", "F0"},
		{"both digits A to F", "AB"},
		{"digits A to F among others", "01aB"},
		{"the byte ahead of 0, first", "/0"},
		{"the byte ahead of 0, second", "1/"},
		{"the byte behind 9, first", ":0"},
		{"the byte behind 9, second", "0:"},
		{"the byte ahead of a, first", "`0"},
		{"the byte ahead of a, second", "1`"},
		{"the byte behind f, first", "g0"},
		{"the byte behind f, second", "0g"},
		{"the byte ahead of A", "0@"},
		{"the byte behind F", "0G"},
		{"a blank", " "},
		{"two blanks", "  "},
		{"a blank between two bytes", "01 ab"},
		{"blanks between digits", "0 1 "},
		{"a line feed behind", "01\n"},
		{"a prefix", "0x01"},
		{"a comma", "01,ab"},
		{"bytes 0", "\x00\x00"},
		{"stray bytes", "\xff\xff"},
		{"a digit of another script, two bytes", "\u0660"},
		{"a fault behind many digits", strings.Repeat("ab", 5000) + "0g"},
		{"a fault ahead of many digits", "g0" + strings.Repeat("ab", 5000)},
		{"a minus among many digits", strings.Repeat("ab", 500) + "--" + strings.Repeat("ab", 500)},
	} {
		if got, err := Unbytes(c.s); len(got) != 0 || err != api.ErrForm {
			t.Errorf("%s: Unbytes(%s) = %s, %d, want none, %d", c.name, show(c.s), show(string(got)), err, api.ErrForm)
		}
	}
}

// 7.2: all short strings of any bytes, and longer ones of those that matter.
func TestUnbytesOfShortStrings(t *testing.T) {
	check := func(s string) { checkUnbytes(t, s) }
	for size := range 3 {
		combine(allBytes(), size, check)
	}
	upTo("-09afAg/", 5, check)
}

// 7.2: every byte at either place of each pair, and one place more or less.
func TestUnbytesOfSpoiltNotations(t *testing.T) {
	for _, s := range []string{"-", "00", "01ab", "0123456789abcdef", strings.Repeat("f", 40)} {
		spoil(s, func(s string) { checkUnbytes(t, s) })
	}
}

// 7.3: what is written is read as it was.
func TestWrittenIsRead(t *testing.T) {
	for _, n := range signed() {
		if got, err := Get(Put(n)); got != n || err != api.OK {
			t.Fatalf("Get(Put(%d)) = %d, %d", n, got, err)
		}
	}
	for _, u := range numbers() {
		if got, err := Unhex(Hex(u)); got != u || err != api.OK {
			t.Fatalf("Unhex(Hex(%d)) = %d, %d", u, got, err)
		}
	}
	for _, b := range byteSlices() {
		if got, err := Unbytes(Bytes(b)); !bytes.Equal(got, b) || err != api.OK {
			t.Fatalf("Unbytes(Bytes(%s)) = %s, %d", show(string(b)), show(string(got)), err)
		}
	}
}

// inOrder holds each of the three reading functions to s: if s is read, the notation of the result is s.
func inOrder(t *testing.T, s string) {
	if n, err := Get(s); err == api.OK && Put(n) != s {
		t.Fatalf("Get(%s) = %d, but Put of that is %q", show(s), n, Put(n))
	}
	if u, err := Unhex(s); err == api.OK && Hex(u) != s {
		t.Fatalf("Unhex(%s) = %d, but Hex of that is %q", show(s), u, Hex(u))
	}
	if b, err := Unbytes(s); err == api.OK && Bytes(b) != s {
		t.Fatalf("Unbytes(%s) = %s, but Bytes of that is %s", show(s), show(string(b)), show(Bytes(b)))
	}
}

// 7.3: whatever is read is written as it was.
func TestReadIsWritten(t *testing.T) {
	check := func(s string) { inOrder(t, s) }
	upTo("-+019afAg", 5, check)
	for _, u := range numbers()[:1000] {
		check(written(new(big.Int).SetUint64(u), 10))
		check(written(new(big.Int).SetUint64(u), 16))
	}
	for _, s := range []string{"0", "-1", "007", "9223372036854775807", "-9223372036854775808", "0123456789abcdef", "01ab"} {
		spoil(s, check)
	}
}

// 7.3: different numbers and bytes have different notations.
func TestNotationsDiffer(t *testing.T) {
	ofPut, ofHex, ofAll := map[string]int64{}, map[string]uint64{}, map[string]string{}
	for _, n := range signed() {
		if other, ok := ofPut[Put(n)]; ok && other != n {
			t.Fatalf("Put(%d) and Put(%d) are both %q", n, other, Put(n))
		}
		ofPut[Put(n)] = n
	}
	for _, u := range numbers() {
		if other, ok := ofHex[Hex(u)]; ok && other != u {
			t.Fatalf("Hex(%d) and Hex(%d) are both %q", u, other, Hex(u))
		}
		ofHex[Hex(u)] = u
	}
	for _, b := range byteSlices() {
		if other, ok := ofAll[Bytes(b)]; ok && other != string(b) {
			t.Fatalf("Bytes of %s and of %s are both %s", show(string(b)), show(other), show(Bytes(b)))
		}
		ofAll[Bytes(b)] = string(b)
	}
}

// R4: Bytes leaves its argument as it is, also behind its end, and its result doesn't hang on what the caller does with it.
func TestBytesKeepsNothing(t *testing.T) {
	for _, b := range byteSlices() {
		whole := append(slices.Clone(b), 1, 2, 3)
		before := slices.Clone(whole)
		got := Bytes(whole[:len(b)])
		want := strings.Clone(got)
		if !bytes.Equal(whole, before) {
			t.Fatalf("Bytes changed %s", show(string(before)))
		}
		for i := range whole {
			whole[i] ^= 85
		}
		Bytes(whole)
		if got != want || got != ofBytes(b) {
			t.Fatalf("the result of Bytes(%s) was changed to %s", show(string(b)), show(got))
		}
	}
}

// R4: each result of Unbytes is memory of its own, and the string stays as it is.
func TestUnbytesKeepsNothing(t *testing.T) {
	for _, s := range []string{"-", "00", "01ab", "deadbeef", strings.Repeat("7f", 3000)} {
		kept := strings.Clone(s)
		first, _ := Unbytes(s)
		second, _ := Unbytes(s)
		want, _ := unbytes(s)
		spare := first[:cap(first)]
		for i := range spare {
			spare[i] ^= 85
		}
		third, err := Unbytes(s)
		if !bytes.Equal(second, want) || !bytes.Equal(third, want) || err != api.OK {
			t.Errorf("Unbytes(%s) = %s, then %s, %d", show(s), show(string(second)), show(string(third)), err)
		}
		if s != kept {
			t.Errorf("Unbytes changed %s to %s", show(kept), show(s))
		}
	}
}

// R5: a result doesn't hang on the calls before it.
func TestCallsLeaveNothingBehind(t *testing.T) {
	first := [3]string{Put(-12), Hex(255), Bytes([]byte{1, 171})}
	for _, s := range []string{"", "-", "-0", "99999999999999999999", "ffffffffffffffff", "0g", "01ab"} {
		Get(s)
		Unhex(s)
		Unbytes(s)
		Put(math.MinInt64)
		Hex(top)
		Bytes([]byte(s))
		if again := [3]string{Put(-12), Hex(255), Bytes([]byte{1, 171})}; again != first || first != [3]string{"-12", "00000000000000ff", "01ab"} {
			t.Errorf("behind calls with %q the results %q are %q", s, first, again)
		}
		if n, err := Get("-12"); n != -12 || err != api.OK {
			t.Errorf("behind calls with %q Get = %d, %d", s, n, err)
		}
		if u, err := Unhex("00000000000000ff"); u != 255 || err != api.OK {
			t.Errorf("behind calls with %q Unhex = %d, %d", s, u, err)
		}
		if b, err := Unbytes("01ab"); !bytes.Equal(b, []byte{1, 171}) || err != api.OK {
			t.Errorf("behind calls with %q Unbytes = %d, %d", s, b, err)
		}
	}
}
