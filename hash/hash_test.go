package hash

import (
	"math"
	"math/big"
	"slices"
	"strings"
	"testing"
)

const top = math.MaxUint64

// number reads digits as a number of any size.
func number(digits string) *big.Int {
	n, ok := new(big.Int).SetString(digits, 10)
	if !ok {
		panic("no number: " + digits)
	}
	return n
}

// rest is what is left of n modulo 2^64.
func rest(n *big.Int) *big.Int {
	return n.Mod(n, new(big.Int).Lsh(big.NewInt(1), 64))
}

// sum follows the words of 5.1 with numbers of any size.
func sum(b []byte) uint64 {
	n := number("14695981039346656037")
	for _, c := range b {
		n.Xor(n, big.NewInt(int64(c)))
		n = rest(n.Mul(n, number("1099511628211")))
	}
	return n.Uint64()
}

// mix follows the words of 5.2 with numbers of any size.
func mix(u uint64) uint64 {
	n := new(big.Int).SetUint64(u)
	shifted := func(by uint) {
		n.Xor(n, new(big.Int).Rsh(n, by))
	}
	times := func(digits string) {
		n = rest(n.Mul(n, number(digits)))
	}
	shifted(30)
	times("13787848793156543929")
	shifted(27)
	times("10723151780598845931")
	shifted(31)
	return n.Uint64()
}

// texts are strings of several kinds: ASCII, runes of all sizes, bytes that are no UTF-8, equal bytes in other orders, long ones.
func texts() []string {
	l := []string{
		"", "a", "b", "aa", "ab", "ba", "abc", "cba", "foobar", "key", "key1", "key2", "a b", "%20", "\n",
		"\x00", "\x00\x00", "a\x00", "\x00a",
		"\xc3\xa9", "\xa9\xc3", "\xe2\x82\xac", "\xf0\x9f\x98\x80", "\xef\xbf\xbd",
		"\x80", "\xff", "\xfe\xff", "\xff\xfe", "\xff\xfe\x00", "\xc3", "\xe2\x82", "\xed\xa0\x80", "\xc0\x80",
		strings.Repeat("a", 255), strings.Repeat("a", 256), strings.Repeat("\xff", 1000), strings.Repeat("\x00", 1000),
		strings.Repeat("\xf0\x9f\x98\x80", 5000), strings.Repeat("abcdefg", 10000),
	}
	all := make([]byte, 256)
	for c := range all {
		all[c] = byte(c)
		l = append(l, string(all[c:c+1]))
	}
	l = append(l, string(all))
	slices.Reverse(all)
	return append(l, string(all))
}

// edges are the numbers at which an operation of Mix or its inverse could go wrong.
func edges() []uint64 {
	l := []uint64{
		0, 1, 2, 3, 7, top - 1, top, 14695981039346656037, 1099511628211,
		13787848793156543929, 10723151780598845931, 10871156337175269513, 3573116690164977347,
		0x5555555555555555, 0xaaaaaaaaaaaaaaaa, 0x0123456789abcdef,
	}
	for i := range 64 {
		power := uint64(1) << i
		l = append(l, power-1, power, power+1, -power, ^power, top<<i)
	}
	return l
}

// many are the edges, a run of small numbers, numbers of two bits, and numbers from all over (each made from the one before it).
func many(count int) []uint64 {
	l := edges()
	for i := range uint64(count) {
		l = append(l, i)
	}
	for i := range 64 {
		for k := range i {
			l = append(l, 1<<i|1<<k)
		}
	}
	u := uint64(1)
	for range count {
		u = u*6364136223846793005 + 1442695040888963407
		l = append(l, u)
	}
	return l
}

// 5.1: the examples, and sums that were worked out elsewhere.
func TestSumExamples(t *testing.T) {
	for _, c := range []struct {
		s    string
		want uint64
	}{
		{"", 14695981039346656037},
		{"a", 12638187200555641996},
		{"b", 12638190499090526629},
		{"ab", 620445648566982762},
		{"ba", 623241706636955660},
		{"foobar", 9625390261332436968},
		{"\x00", 12638153115695167455},
		{"\x80", 12638293853183578463},
		{"\xff", 12638352127299873646},
		{"\xc3\xa9", 775207407765167617},
		{"\xff\xfe\x00", 17984163159026985488},
	} {
		if got := Sum(c.s); got != c.want {
			t.Errorf("Sum(%q) = %d, want %d", c.s, got, c.want)
		}
	}
}

// 5.1: every byte counts as a byte, also those of 128 and more and those that are no UTF-8, in any length.
func TestSumFollowsWords(t *testing.T) {
	for _, s := range texts() {
		if got, want := Sum(s), sum([]byte(s)); got != want {
			t.Errorf("Sum(%.40q of %d bytes) = %d, want %d", s, len(s), got, want)
		}
	}
}

// 5.1: all strings of two bytes, among them each pair in both orders.
func TestSumOfTwoBytes(t *testing.T) {
	for a := range 256 {
		for b := range 256 {
			two := []byte{byte(a), byte(b)}
			if got, want := Sum(string(two)), sum(two); got != want {
				t.Fatalf("Sum of the bytes %d = %d, want %d", two, got, want)
			}
		}
	}
}

// 5.1: the bytes are taken in order, so that the same bytes in another order have another sum.
func TestSumTellsOrder(t *testing.T) {
	for _, pair := range [][2]string{{"ab", "ba"}, {"abc", "cba"}, {"a\x00", "\x00a"}, {"\xff\xfe", "\xfe\xff"}, {"key12", "key21"}} {
		if Sum(pair[0]) == Sum(pair[1]) {
			t.Errorf("Sum(%q) = Sum(%q)", pair[0], pair[1])
		}
	}
}

// 5.2: the examples, and results that were worked out elsewhere.
func TestMixExamples(t *testing.T) {
	for _, c := range []struct{ u, want uint64 }{
		{0, 0},
		{1, 6238072747940578789},
		{2, 15839785061582574730},
		{7, 1346066267577507604},
		{1 << 27, 17718679667780871007},
		{1 << 30, 3143522559155490559},
		{1 << 31, 17010196902690978975},
		{1 << 63, 2720858781877447050},
		{top, 13029008266876403067},
		{11400714819323198485, 16294208416658607535},
	} {
		if got := Mix(c.u); got != c.want {
			t.Errorf("Mix(%d) = %d, want %d", c.u, got, c.want)
		}
		if got := Unmix(c.want); got != c.u {
			t.Errorf("Unmix(%d) = %d, want %d", c.want, got, c.u)
		}
	}
	if got := Unmix(Mix(7)); got != 7 {
		t.Errorf("Unmix(Mix(7)) = %d", got)
	}
}

// 5.2: Mix makes the chapter's operations in their order.
func TestMixFollowsWords(t *testing.T) {
	for _, u := range many(20000) {
		if got, want := Mix(u), mix(u); got != want {
			t.Fatalf("Mix(%d) = %d, want %d", u, got, want)
		}
	}
}

// 5.2: Unmix is Mix's inverse on both sides; the reference's mix leads back as well.
func TestUnmixIsInverse(t *testing.T) {
	for _, u := range many(20000) {
		if got := Unmix(Mix(u)); got != u {
			t.Fatalf("Unmix(Mix(%d)) = %d", u, got)
		}
		if got := Mix(Unmix(u)); got != u {
			t.Fatalf("Mix(Unmix(%d)) = %d", u, got)
		}
		if got := mix(Unmix(u)); got != u {
			t.Fatalf("the words of Mix make %d of Unmix(%d)", got, u)
		}
	}
}

// 5.3: the identifiers of keys, worked out elsewhere.
func TestPlaceExamples(t *testing.T) {
	for _, c := range []struct {
		s    string
		want uint64
	}{
		{"", 17665956581633026203},
		{"a", 198367012849983736},
		{"b", 4482684837372322821},
		{"ab", 11528740771484442951},
		{"ba", 11350892642975063690},
		{"foobar", 4633546387131234498},
		{"\x80", 10607194946542694221},
		{"\xff\xfe\x00", 13103210676555960884},
	} {
		if got := Place(c.s); got != c.want {
			t.Errorf("Place(%q) = %d, want %d", c.s, got, c.want)
		}
	}
}

// 5.3: Place is Mix of Sum, by the functions and by the chapter's words.
func TestPlaceIsMixOfSum(t *testing.T) {
	for _, s := range texts() {
		got := Place(s)
		if want := Mix(Sum(s)); got != want {
			t.Errorf("Place(%.40q) = %d, but Mix(Sum) = %d", s, got, want)
		}
		if want := mix(sum([]byte(s))); got != want {
			t.Errorf("Place(%.40q) = %d, want %d", s, got, want)
		}
		if back := Unmix(got); back != sum([]byte(s)) {
			t.Errorf("Unmix(Place(%.40q)) = %d is not its sum", s, back)
		}
	}
}

// distinct tells how many different numbers there are in l.
func distinct(l []uint64) int {
	sorted := slices.Clone(l)
	slices.Sort(sorted)
	return len(slices.Compact(sorted))
}

// 5.4: as many different results as there are different numbers; for Unmix too, as it is the inverse.
func TestMixTellsNumbersApart(t *testing.T) {
	numbers := many(300000)
	want := distinct(numbers)
	for name, f := range map[string]func(uint64) uint64{"Mix": Mix, "Unmix": Unmix} {
		results := make([]uint64, len(numbers))
		for i, u := range numbers {
			results[i] = f(u)
		}
		if got := distinct(results); got != want {
			t.Errorf("%s has %d different results for %d different numbers", name, got, want)
		}
	}
}

// 5.4: numbers that differ in one bit alone differ in their results.
func TestMixTellsSingleBits(t *testing.T) {
	for _, u := range many(200) {
		for i := range 64 {
			if other := u ^ 1<<i; Mix(u) == Mix(other) {
				t.Fatalf("Mix(%d) = Mix(%d)", u, other)
			}
		}
	}
}

// R4, R5: the string stays as it is, and a call's result doesn't hang on the calls before it.
func TestCallsLeaveNothingBehind(t *testing.T) {
	for _, s := range texts() {
		before := []byte(s)
		given := string(before)
		first := [2]uint64{Sum(given), Place(given)}
		Sum("between")
		Place("between")
		Mix(Unmix(first[0]))
		if again := [2]uint64{Sum(given), Place(given)}; again != first {
			t.Errorf("Sum and Place of %.40q are %d, then %d", s, first, again)
		}
		if given != string(before) {
			t.Errorf("%.40q was changed", s)
		}
	}
}
