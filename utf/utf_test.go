package utf

import (
	"fmt"
	"math"
	"slices"
	"strconv"
	"strings"
	"testing"

	"annulet/api"
)

// within tells whether a byte is there and from least to most.
func within(s string, at int, least, most byte) bool {
	return at < len(s) && s[at] >= least && s[at] <= most
}

// runeSize follows the chapter's words of a rune: how many bytes the rune at the beginning of s has, 0 if none begins there.
func runeSize(s string) int {
	least, most := byte(128), byte(191)
	switch {
	case within(s, 0, 0, 127):
		return 1
	case within(s, 0, 194, 223):
		if within(s, 1, least, most) {
			return 2
		}
	case within(s, 0, 224, 239):
		if s[0] == 224 {
			least = 160
		}
		if s[0] == 237 {
			most = 159
		}
		if within(s, 1, least, most) && within(s, 2, 128, 191) {
			return 3
		}
	case within(s, 0, 240, 244):
		if s[0] == 240 {
			least = 144
		}
		if s[0] == 244 {
			most = 143
		}
		if within(s, 1, least, most) && within(s, 2, 128, 191) && within(s, 3, 128, 191) {
			return 4
		}
	}
	return 0
}

type piece struct {
	text  string
	stray bool
}

// divide follows the chapter's words of how a string is divided.
func divide(s string) []piece {
	var l []piece
	for s != "" {
		size := runeSize(s)
		l = append(l, piece{s[:max(size, 1)], size == 0})
		s = s[max(size, 1):]
	}
	return l
}

// valid follows the words of 4.1.
func valid(s string) bool {
	return !slices.ContainsFunc(divide(s), func(p piece) bool { return p.stray })
}

// clip follows the words of 4.2.
func clip(s string, n int) string {
	var clipped strings.Builder
	for i, p := range divide(s) {
		if i < n {
			clipped.WriteString(p.text)
		}
	}
	return clipped.String()
}

// quote follows the words of 4.3.
func quote(s string) string {
	if s == "" {
		return "%"
	}
	var word strings.Builder
	for _, p := range divide(s) {
		c := p.text[0]
		if p.stray || c <= 32 || c == 127 || c == 37 {
			word.WriteString(fmt.Sprintf("%%%02x", c))
		} else {
			word.WriteString(p.text)
		}
	}
	return word.String()
}

// unquote finds the only string that can be meant, and holds its word against s.
func unquote(s string) (string, api.Errno) {
	if s == "%" {
		return "", api.OK
	}
	fields := strings.Split(s, "%")
	plain := fields[0]
	for _, f := range fields[1:] {
		if len(f) < 2 {
			return "", api.ErrForm
		}
		c, err := strconv.ParseUint(f[:2], 16, 8)
		if err != nil {
			return "", api.ErrForm
		}
		plain += string([]byte{byte(c)}) + f[2:]
	}
	if quote(plain) != s {
		return "", api.ErrForm
	}
	return plain, api.OK
}

// combine gives to the function every string of at most size bytes of the alphabet.
func combine(alphabet []byte, size int, give func(s string)) {
	var extend func(s []byte)
	extend = func(s []byte) {
		give(string(s))
		if len(s) == size {
			return
		}
		for _, c := range alphabet {
			extend(append(s[:len(s):len(s)], c))
		}
	}
	extend(nil)
}

// allBytes holds each byte.
func allBytes() []byte {
	l := make([]byte, 256)
	for i := range l {
		l[i] = byte(i)
	}
	return l
}

// edges holds both ends of each range of bytes that the chapter names, and the bytes just outside of them.
func edges() []byte {
	return []byte{0, 32, 33, 36, 37, 38, 126, 127, 128, 143, 144, 159, 160, 191, 192, 193, 194, 223, 224, 225, 236, 237, 238, 239, 240, 241, 243, 244, 245, 255}
}

// fewEdges holds those of them that matter in the longest runes.
func fewEdges() []byte {
	return []byte{'a', 37, 127, 128, 143, 144, 159, 160, 191, 192, 194, 224, 237, 239, 240, 244, 245}
}

// mixed yields count strings of bytes of the alphabet without any plain order, the same ones each time.
func mixed(count int, alphabet []byte) []string {
	l := make([]string, count)
	x := uint64(88172645463325252)
	for i := range l {
		b := make([]byte, i%40)
		for j := range b {
			x ^= x << 13
			x ^= x >> 7
			x ^= x << 17
			b[j] = alphabet[(x>>20)%uint64(len(alphabet))]
		}
		l[i] = string(b)
	}
	return l
}

// samples gives to the function strings of many kinds.
func samples(give func(s string)) {
	combine(allBytes(), 2, give)
	combine(edges(), 3, give)
	combine(fewEdges(), 4, give)
	for _, s := range mixed(4000, allBytes()) {
		give(s)
	}
	for _, s := range mixed(4000, fewEdges()) {
		give(s)
	}
	for _, s := range texts() {
		give(s)
	}
}

// texts yields strings of runes of all sizes, cut off at each end and put together.
func texts() []string {
	const long = "a b%\x00\x7fé\u0080߿ࠀ€\ud7ff\ue000\ufffd\uffff\U00010000\U0010ffff\n"
	l := []string{strings.Repeat("x", 5000), strings.Repeat("\xff", 5000), strings.Repeat("€", 2000), strings.Repeat("\ufffd\xef\xbf", 1000)}
	for from := range len(long) {
		for to := from; to <= len(long); to++ {
			l = append(l, long[from:to])
		}
	}
	return l
}

// encodings holds runes and what is none, and how many of each the string is divided into.
var encodings = []struct {
	name          string
	s             string
	runes, strays int
}{
	{"the chapter's example", "\xc3\xa9", 1, 0},
	{"the chapter's stray byte", "\xff", 0, 1},
	{"the empty string", "", 0, 0},
	{"the first rune of one byte", "\x00", 1, 0},
	{"the last rune of one byte", "\x7f", 1, 0},
	{"the first byte that begins none", "\x80", 0, 1},
	{"the last byte that only continues one", "\xbf", 0, 1},
	{"192, which begins none", "\xc0\x80", 0, 2},
	{"193, which begins none", "\xc1\xbf", 0, 2},
	{"194 and 128", "\xc2\x80", 1, 0},
	{"194 and 191", "\xc2\xbf", 1, 0},
	{"194 and 127", "\xc2\x7f", 1, 1},
	{"194 and 192", "\xc2\xc0", 0, 2},
	{"223 and 128", "\xdf\x80", 1, 0},
	{"223 and 191", "\xdf\xbf", 1, 0},
	{"223 and 127", "\xdf\x7f", 1, 1},
	{"223 and 192", "\xdf\xc0", 0, 2},
	{"224 and 160", "\xe0\xa0\x80", 1, 0},
	{"224 and 159", "\xe0\x9f\xbf", 0, 3},
	{"224 and 191", "\xe0\xbf\xbf", 1, 0},
	{"224 and 192", "\xe0\xc0\x80", 0, 3},
	{"225 and 128", "\xe1\x80\x80", 1, 0},
	{"225 and 127", "\xe1\x7f\x80", 1, 2},
	{"236 and 191", "\xec\xbf\xbf", 1, 0},
	{"237 and 128", "\xed\x80\x80", 1, 0},
	{"237 and 159", "\xed\x9f\xbf", 1, 0},
	{"237 and 160", "\xed\xa0\x80", 0, 3},
	{"237 and 191", "\xed\xbf\xbf", 0, 3},
	{"238 and 128", "\xee\x80\x80", 1, 0},
	{"239 and 191", "\xef\xbf\xbf", 1, 0},
	{"239, 191 and 127", "\xef\xbf\x7f", 1, 2},
	{"239, 191 and 192", "\xef\xbf\xc0", 0, 3},
	{"240 and 144", "\xf0\x90\x80\x80", 1, 0},
	{"240 and 143", "\xf0\x8f\xbf\xbf", 0, 4},
	{"240 and 191", "\xf0\xbf\xbf\xbf", 1, 0},
	{"241 and 128", "\xf1\x80\x80\x80", 1, 0},
	{"243 and 191", "\xf3\xbf\xbf\xbf", 1, 0},
	{"244 and 128", "\xf4\x80\x80\x80", 1, 0},
	{"244 and 143", "\xf4\x8f\xbf\xbf", 1, 0},
	{"244 and 144", "\xf4\x90\x80\x80", 0, 4},
	{"244, 143, 191 and 192", "\xf4\x8f\xbf\xc0", 0, 4},
	{"244, 143, 127 and 191", "\xf4\x8f\x7f\xbf", 1, 3},
	{"245, which begins none", "\xf5\x80\x80\x80", 0, 4},
	{"two bytes, cut off", "\xc3", 0, 1},
	{"three bytes, cut off", "\xe2\x82", 0, 2},
	{"three bytes, cut off after one", "\xe2", 0, 1},
	{"four bytes, cut off", "\xf0\x9f\x98", 0, 3},
	{"four bytes, cut off after two", "\xf0\x9f", 0, 2},
	{"four bytes, cut off after one", "\xf0", 0, 1},
	{"cut off by another rune", "\xe2\x82a", 1, 2},
	{"cut off by the same rune", "\xe2\x82\xe2\x82\xac", 1, 2},
	{"a byte too many", "\xc3\xa9\xa9", 1, 1},
	{"stray bytes in a row", "\x80\x80\xff\xfe\xc3\xc3", 0, 6},
	{"stray bytes between runes", "a\xffb\x80\x80c", 3, 3},
	{"U+FFFD itself", "\xef\xbf\xbd", 1, 0},
	{"U+FFFD cut off", "\xef\xbf", 0, 2},
	{"U+FFFD cut off after one", "\xef", 0, 1},
	{"U+FFFD between stray bytes", "\xff\xef\xbf\xbd\xbd", 1, 2},
	{"U+FFFD after its own beginning", "\xef\xbf\xef\xbf\xbd", 1, 2},
	{"U+FFFC and U+FFFE", "\xef\xbf\xbc\xef\xbf\xbe", 2, 0},
	{"runes of each size", "aé€\U0001f600", 4, 0},
}

func TestValidAndCount(t *testing.T) { // 4.1
	for _, e := range encodings {
		if got, want := Valid(e.s), e.strays == 0; got != want {
			t.Errorf("%s: Valid(%q) = %t, want %t", e.name, e.s, got, want)
		}
		if got, want := Count(e.s), e.runes+e.strays; got != want {
			t.Errorf("%s: Count(%q) = %d, want %d", e.name, e.s, got, want)
		}
	}
}

func TestValidAndCountFollowTheChapter(t *testing.T) { // 4.1
	samples(func(s string) {
		if got, want := Valid(s), valid(s); got != want {
			t.Errorf("Valid(%q) = %t, want %t", s, got, want)
		}
		if got, want := Count(s), len(divide(s)); got != want {
			t.Errorf("Count(%q) = %d, want %d", s, got, want)
		}
	})
}

// inBits writes n as UTF-8 does in size bytes, also where that makes no rune.
func inBits(n, size int) string {
	b := make([]byte, size)
	for i := size - 1; i > 0; i-- {
		b[i] = byte(128 + n%64)
		n /= 64
	}
	b[0] = byte(n + []int{0, 0, 192, 224, 240}[size])
	return string(b)
}

func TestRunesOfAllNumbers(t *testing.T) { // 4.1, 4.3
	for n := range 0x110000 {
		size := 1
		for _, first := range []int{0x80, 0x800, 0x10000} {
			if n >= first {
				size++
			}
		}
		s := inBits(n, size)
		count := 1
		if n >= 0xd800 && n < 0xe000 {
			count = 3
		}
		if Valid(s) != (count == 1) || Count(s) != count {
			t.Errorf("U+%04X: Valid(%q) = %t, Count = %d, want %t, %d", n, s, Valid(s), Count(s), count == 1, count)
		}
		if size > 1 && count == 1 && Quote(s) != s {
			t.Errorf("U+%04X: Quote(%q) = %q", n, s, Quote(s))
		}
	}
}

func TestNumbersInTooManyBytes(t *testing.T) { // 4.1, 4.3
	for size, most := range map[int]int{2: 0x80, 3: 0x800, 4: 0x10000} {
		for n := range most {
			s := inBits(n, size)
			if Valid(s) || Count(s) != size || len(Quote(s)) != 3*size {
				t.Errorf("%d in %d bytes: Valid(%q) = %t, Count = %d, Quote = %q", n, size, s, Valid(s), Count(s), Quote(s))
			}
		}
	}
}

func TestClip(t *testing.T) { // 4.2
	cases := []struct {
		s    string
		n    int
		want string
	}{
		{"\xc3\xa9a", 1, "\xc3\xa9"}, // the chapter's example
		{"\xc3\xa9a", 0, ""},
		{"\xc3\xa9a", -1, ""},
		{"\xc3\xa9a", math.MinInt, ""},
		{"\xc3\xa9a", 2, "\xc3\xa9a"},
		{"\xc3\xa9a", 3, "\xc3\xa9a"},
		{"\xc3\xa9a", math.MaxInt, "\xc3\xa9a"},
		{"", math.MinInt, ""},
		{"", -1, ""},
		{"", 0, ""},
		{"", 1, ""},
		{"", math.MaxInt, ""},
		{"aé€\U0001f600b", 1, "a"},
		{"aé€\U0001f600b", 2, "aé"},
		{"aé€\U0001f600b", 3, "aé€"},
		{"aé€\U0001f600b", 4, "aé€\U0001f600"},
		{"aé€\U0001f600b", 5, "aé€\U0001f600b"},
		{"\xff\xfea", 1, "\xff"},
		{"\xff\xfea", 2, "\xff\xfe"},
		{"\xe2\x82a", 1, "\xe2"},
		{"\xe2\x82a", 2, "\xe2\x82"},
		{"a\xe2\x82", 2, "a\xe2"},
		{"\xef\xbf\xbd\xef\xbf", 1, "\xef\xbf\xbd"},
		{"\xef\xbf\xbd\xef\xbf", 2, "\xef\xbf\xbd\xef"},
		{"\x00\x00", 1, "\x00"},
	}
	for _, c := range cases {
		if got := Clip(c.s, c.n); got != c.want {
			t.Errorf("Clip(%q, %d) = %q, want %q", c.s, c.n, got, c.want)
		}
	}
}

// sizes holds the edges of n for a string of count runes and stray bytes.
func sizes(count int) []int {
	return []int{math.MinInt, math.MinInt + 1, -2, -1, 0, 1, 2, count / 2, count - 1, count, count + 1, count + 2, math.MaxInt - 1, math.MaxInt}
}

func TestClipFollowsTheChapter(t *testing.T) { // 4.2
	check := func(s string) {
		for _, n := range sizes(len(divide(s))) {
			if got, want := Clip(s, n), clip(s, n); got != want {
				t.Errorf("Clip(%q, %d) = %q, want %q", s, n, got, want)
			}
		}
	}
	combine(allBytes(), 1, check)
	combine(edges(), 2, check)
	combine(fewEdges(), 4, check)
	for _, s := range slices.Concat(mixed(2000, allBytes()), mixed(2000, fewEdges()), texts()) {
		check(s)
	}
}

func TestClipCutsWhereCountCounts(t *testing.T) { // 4.1, 4.2
	for _, s := range slices.Concat(mixed(2000, edges()), texts()[4:]) {
		for n := range Count(s) + 1 {
			head := Clip(s, n)
			if !strings.HasPrefix(s, head) || Count(head) != n || Count(s[len(head):]) != Count(s)-n {
				t.Errorf("Clip(%q, %d) = %q, of %d runes and stray bytes", s, n, head, Count(head))
			}
		}
	}
}

// words holds strings and their words.
var words = []struct{ s, word string }{
	{"a b", "a%20b"}, // the chapter's example
	{"", "%"},        // the chapter's example
	{"%", "%25"},
	{"%%", "%25%25"},
	{"%41", "%2541"},
	{"%20", "%2520"},
	{" ", "%20"},
	{"  ", "%20%20"},
	{"\x00", "%00"},
	{"\t", "%09"},
	{"\n", "%0a"},
	{"\r\n", "%0d%0a"},
	{"\x1f", "%1f"},
	{"!", "!"},
	{"$", "$"},
	{"&", "&"},
	{"~", "~"},
	{"\x7f", "%7f"},
	{"\x80", "%80"},
	{"\xff", "%ff"},
	{"\xab\xcd", "%ab%cd"},
	{"A", "A"},
	{"abc", "abc"},
	{"é", "é"},
	{"€", "€"},
	{"\U0001f600", "\U0001f600"},
	{"\u0080", "\u0080"},
	{"\u00a0", "\u00a0"},
	{"\u2028", "\u2028"},
	{"\u3000", "\u3000"},
	{"\U0010ffff", "\U0010ffff"},
	{"\ufffd", "\ufffd"},
	{"\xef\xbf", "%ef%bf"},
	{"\xef", "%ef"},
	{"\xff\ufffd\xff", "%ff\ufffd%ff"},
	{"\xc3", "%c3"},
	{"\xc3\xc3\xa9", "%c3é"},
	{"é\xa9", "é%a9"},
	{"\xc3 \xa9", "%c3%20%a9"},
	{"\xe2\x82x", "%e2%82x"},
	{"\xed\xa0\x80", "%ed%a0%80"},
	{"\xf4\x90\x80\x80", "%f4%90%80%80"},
	{"\xc0\x80", "%c0%80"},
	{"é €%\U0001f600\n", "é%20€%25\U0001f600%0a"},
}

func TestQuoteAndUnquote(t *testing.T) { // 4.3
	for _, w := range words {
		if got := Quote(w.s); got != w.word {
			t.Errorf("Quote(%q) = %q, want %q", w.s, got, w.word)
		}
		if got, err := Unquote(w.word); got != w.s || err != api.OK {
			t.Errorf("Unquote(%q) = %q, %d, want %q, 0", w.word, got, err, w.s)
		}
	}
}

func TestQuoteOfSingleBytes(t *testing.T) { // 4.3
	for c := range 256 {
		s := string([]byte{byte(c)})
		want := s
		if c <= 32 || c == 37 || c >= 127 {
			want = fmt.Sprintf("%%%02x", c)
		}
		for _, around := range []string{"", "x", "é"} {
			if got := Quote(around + s + around); got != around+want+around {
				t.Errorf("Quote(%q) = %q, want %q", around+s+around, got, around+want+around)
			}
		}
	}
}

func TestQuoteFollowsTheChapter(t *testing.T) { // 4.3
	samples(func(s string) {
		if got, want := Quote(s), quote(s); got != want {
			t.Errorf("Quote(%q) = %q, want %q", s, got, want)
		}
	})
}

func TestUnquoteRefuses(t *testing.T) { // 4.3, R2
	cases := []struct{ name, s string }{
		{"the chapter's example", "%41"},
		{"the empty string", ""},
		{"two marks", "%%"},
		{"three marks", "%%%"},
		{"a mark and one digit", "%2"},
		{"a mark at the end", "a%"},
		{"a mark and one digit at the end", "a%2"},
		{"a mark at the end of another word", "%20%"},
		{"a mark ahead of a word", "%a"},
		{"a mark ahead of a mark", "%%20"},
		{"a mark between the digits", "%2%0"},
		{"the digit A", "%0A"},
		{"the digit F", "%F5"},
		{"both digits A to F", "%FF"},
		{"no digits", "%xy"},
		{"no second digit", "%2g"},
		{"no first digit", "%g2"},
		{"the byte ahead of 0", "%2/"},
		{"the byte behind 9", "%2:"},
		{"the byte ahead of a", "%2`"},
		{"a sign", "%+2"},
		{"a blank among the digits", "% 2"},
		{"an underscore among the digits", "%2_0"},
		{"a rune behind the mark", "%é"},
		{"a byte that is left, replaced: !", "%21"},
		{"a byte that is left, replaced: $", "%24"},
		{"a byte that is left, replaced: &", "%26"},
		{"a byte that is left, replaced: ~", "%7e"},
		{"a byte that is left, replaced, among others", "a%20%61"},
		{"a blank", " "},
		{"a blank among others", "a b"},
		{"a line feed at the end", "a%20\n"},
		{"the byte 0", "\x00"},
		{"the byte 127", "a\x7f"},
		{"a stray byte", "\xff"},
		{"a stray byte at the end", "a\xc3"},
		{"a rune cut off by a replaced byte", "\xc3%20"},
		{"a rune of two bytes, replaced", "%c3%a9"},
		{"a rune of two bytes, half replaced", "\xc3%a9"},
		{"a rune of two bytes, the other half replaced", "%c3\xa9"},
		{"a rune of three bytes, replaced", "%e2%82%ac"},
		{"a rune of four bytes, replaced", "%f0%9f%98%80"},
		{"a rune of four bytes, in part replaced", "%f0%9f\x98\x80"},
		{"a rune replaced, among stray bytes", "%ff%c3%a9%ff"},
		{"U+FFFD, replaced", "%ef%bf%bd"},
		{"a mark within a rune", "\xe2%\x82\xac"},
		{"a fault behind what is right", "é%20€%25%"},
	}
	for _, c := range cases {
		if got, err := Unquote(c.s); got != "" || err != api.ErrForm {
			t.Errorf("%s: Unquote(%q) = %q, %d, want nothing, %d", c.name, c.s, got, err, api.ErrForm)
		}
	}
}

func TestUnquoteOfAllDigits(t *testing.T) { // 4.3
	for a := range 256 {
		for b := range 256 {
			s := "%" + string([]byte{byte(a), byte(b)})
			want, wantErr := unquote(s)
			if got, err := Unquote(s); got != want || err != wantErr {
				t.Errorf("Unquote(%q) = %q, %d, want %q, %d", s, got, err, want, wantErr)
			}
		}
	}
}

func TestUnquoteFollowsTheChapter(t *testing.T) { // 4.3
	check := func(s string) {
		want, wantErr := unquote(s)
		if got, err := Unquote(s); got != want || err != wantErr {
			t.Errorf("Unquote(%q) = %q, %d, want %q, %d", s, got, err, want, wantErr)
		}
	}
	samples(check)
	combine([]byte("%20c3a9A\xc3\xa9 "), 5, check)
	combine([]byte("%ca39\xc3\xa9"), 6, check)
}

func TestUnquoteIsTheInverseOfQuote(t *testing.T) { // 4.3
	// a word of at most three bytes is that of a single byte, or of as many bytes as it has
	const size = 3
	alphabet := []byte("%25ca39\xc3\xa9 A\xef")
	originals := map[string]string{}
	combine(allBytes(), 1, func(s string) { originals[quote(s)] = s })
	combine(alphabet, size, func(s string) { originals[quote(s)] = s })
	combine(alphabet, size, func(s string) {
		want, ok := originals[s]
		got, err := Unquote(s)
		if ok != (err == api.OK) || got != want {
			t.Errorf("Unquote(%q) = %q, %d, want %q, %t", s, got, err, want, ok)
		}
	})
}

func TestWordsGetBack(t *testing.T) { // 4.3, 4.4
	samples(func(s string) {
		if got, err := Unquote(Quote(s)); got != s || err != api.OK {
			t.Errorf("Unquote(Quote(%q)) = %q, %d", s, got, err)
		}
	})
}

func TestWordsHaveNoBlanks(t *testing.T) { // 4.4
	samples(func(s string) {
		word := Quote(s)
		if strings.ContainsAny(word, " \n") || word == "" {
			t.Errorf("Quote(%q) = %q", s, word)
		}
	})
}

func TestWordsDiffer(t *testing.T) { // 4.4
	originals := map[string]string{}
	samples(func(s string) {
		word := Quote(s)
		if other, ok := originals[word]; ok && other != s {
			t.Errorf("Quote(%q) and Quote(%q) are both %q", s, other, word)
		}
		originals[word] = s
	})
}

func TestArgumentsAreLeft(t *testing.T) { // R4, R5
	for _, s := range slices.Concat(mixed(2000, allBytes()), texts()) {
		kept := strings.Clone(s)
		isValid, count, clipped, word := Valid(s), Count(s), Clip(s, 2), Quote(s)
		plain, err := Unquote(s)
		Clip(word, 1)
		Unquote(word)
		if s != kept {
			t.Fatalf("the string %q was changed to %q", kept, s)
		}
		if Valid(s) != isValid || Count(s) != count || Clip(s, 2) != clipped || Quote(s) != word {
			t.Errorf("%q: another result at the second call", s)
		}
		if again, errAgain := Unquote(s); again != plain || errAgain != err {
			t.Errorf("Unquote(%q) = %q, %d, and then %q, %d", s, plain, err, again, errAgain)
		}
	}
}
