package ben

import (
	"bytes"
	"fmt"
	"math"
	"math/big"
	"math/rand"
	"reflect"
	"regexp"
	"slices"
	"strconv"
	"strings"
	"testing"

	"annulet/api"
	"annulet/tree"
)

// frame is the greatest length of a string, in the words of chapter 11.
const frame = 1 << 20

var (
	text20     = strings.Repeat("t", frame)
	text20more = strings.Repeat("t", frame+1)
)

// notation is the form of an integer's notation, in the words of chapter 7.
var notation = regexp.MustCompile(`^(0|-?[1-9][0-9]*)$`)

// encode follows the chapter's words on the encoding of a valid tree.
func encode(t api.Tree) string {
	switch t.Kind {
	case 1:
		return fmt.Sprintf("i%de", t.N)
	case 2:
		return quoted(t.S)
	case 3:
		var all string
		for _, k := range t.Kids {
			all += encode(k)
		}
		return "l" + all + "e"
	case 4:
		var all string
		for i, k := range t.Keys {
			all += quoted(k) + encode(t.Kids[i])
		}
		return "d" + all + "e"
	}
	panic("a tree that is not valid")
}

// quoted is the encoding of a string.
func quoted(s string) string {
	return fmt.Sprintf("%d:%s", len(s), s)
}

// source is what decode has not read yet; an error is told by a panic.
type source struct{ rest string }

// refuse panics with the error if it applies.
func refuse(err api.Errno, applies bool) {
	if applies {
		panic(err)
	}
}

// integer is the number ahead of the first mark.
func (s *source) integer(mark string) *big.Int {
	digits, rest, ok := strings.Cut(s.rest, mark)
	refuse(api.ErrShort, !ok)
	refuse(api.ErrForm, !notation.MatchString(digits))
	n, ok := new(big.Int).SetString(digits, 10)
	refuse(api.ErrForm, !ok || !n.IsInt64())
	s.rest = rest
	return n
}

// text follows the words of 12.2 on what is read at a digit.
func (s *source) text() string {
	n := s.integer(":")
	refuse(api.ErrLong, n.Cmp(big.NewInt(frame)) > 0)
	size := int(n.Int64())
	refuse(api.ErrShort, len(s.rest) < size)
	piece := s.rest[:size]
	s.rest = s.rest[size:]
	return piece
}

// isDigit tells whether there is a first byte, and that is a digit.
func (s *source) isDigit() bool {
	return s.rest != "" && s.rest[0] >= '0' && s.rest[0] <= '9'
}

// take tells whether the first byte is c, and passes over it then.
func (s *source) take(c string) bool {
	rest, ok := strings.CutPrefix(s.rest, c)
	s.rest = rest
	return ok
}

// value follows the words of 12.2.
func (s *source) value(level int) api.Tree {
	refuse(api.ErrShort, s.rest == "")
	refuse(api.ErrForm, !s.isDigit() && s.rest[0] != 'i' && s.rest[0] != 'l' && s.rest[0] != 'd')
	refuse(api.ErrDeep, level > 8)
	if s.isDigit() {
		return text(s.text())
	}
	if s.take("i") {
		return number(s.integer("e").Int64())
	}
	if s.take("l") {
		t := list()
		for !s.take("e") {
			t.Kids = append(t.Kids, s.value(level+1))
		}
		return t
	}
	s.take("d")
	t := dict(nil)
	for !s.take("e") {
		refuse(api.ErrShort, s.rest == "")
		refuse(api.ErrForm, !s.isDigit())
		key := s.text()
		refuse(api.ErrForm, len(t.Keys) > 0 && bytes.Compare([]byte(key), []byte(t.Keys[len(t.Keys)-1])) <= 0)
		t.Keys = append(t.Keys, key)
		t.Kids = append(t.Kids, s.value(level+1))
	}
	return t
}

// decode follows the words of 12.2.
func decode(b string) (t api.Tree, err api.Errno) {
	defer func() {
		if fault := recover(); fault != nil {
			t, err = api.Tree{}, fault.(api.Errno)
		}
	}()
	s := &source{b}
	t = s.value(1)
	refuse(api.ErrMore, s.rest != "")
	return t, api.OK
}

// show keeps what a failed test prints short.
func show(v any) string {
	s := fmt.Sprintf("%+v", v)
	if b, ok := v.([]byte); ok {
		s = strconv.Quote(string(b))
	}
	if text, ok := v.(string); ok {
		s = strconv.Quote(text)
	}
	if len(s) > 400 {
		return s[:400] + " and more"
	}
	return s
}

// deep is a copy that shares nothing with t, and in which empty slices are nil.
func deep(t api.Tree) api.Tree {
	c := api.Tree{Kind: t.Kind, N: t.N, S: strings.Clone(t.S)}
	for _, k := range t.Keys {
		c.Keys = append(c.Keys, strings.Clone(k))
	}
	for _, k := range t.Kids {
		c.Kids = append(c.Kids, deep(k))
	}
	return c
}

// same tells whether all fields are equal on all levels; an empty slice is equal to none (R3).
func same(a, b api.Tree) bool {
	return a.Kind == b.Kind && a.N == b.N && a.S == b.S && slices.Equal(a.Keys, b.Keys) && slices.EqualFunc(a.Kids, b.Kids, same)
}

// whole is a copy of t with its spare capacity as if that were a part of it.
func whole(t api.Tree) api.Tree {
	c := api.Tree{Kind: t.Kind, N: t.N, S: t.S}
	c.Keys = slices.Clone(t.Keys[:cap(t.Keys)])
	for _, k := range t.Kids[:cap(t.Kids)] {
		c.Kids = append(c.Kids, whole(k))
	}
	return c
}

// roomy is a copy of t with slices that have spare capacity, and something in it.
func roomy(t api.Tree) api.Tree {
	c := api.Tree{Kind: t.Kind, N: t.N, S: t.S}
	c.Keys = append(slices.Clone(t.Keys), "spare", "spare")[:len(t.Keys)]
	for _, k := range t.Kids {
		c.Kids = append(c.Kids, roomy(k))
	}
	c.Kids = append(c.Kids, api.Tree{Kind: 77}, api.Tree{Kind: 78, Kids: kids(number(1))})[:len(t.Kids)]
	return c
}

// cells are the places of all elements of all slices of t, on all levels, those of the spare capacity too.
func cells(t api.Tree) []any {
	var l []any
	for i := range t.Keys[:cap(t.Keys)] {
		l = append(l, &t.Keys[:cap(t.Keys)][i])
	}
	for i := range t.Kids[:cap(t.Kids)] {
		l = append(l, &t.Kids[:cap(t.Kids)][i])
	}
	for _, k := range t.Kids {
		l = append(l, cells(k)...)
	}
	return l
}

// areNew tells whether no two slices of the trees, nor of one of them, share memory (R4).
func areNew(l ...api.Tree) bool {
	taken := map[any]int{}
	for _, t := range l {
		for _, c := range cells(t) {
			if taken[c] > 0 {
				return false
			}
			taken[c] = 1
		}
	}
	return true
}

// spoil changes all that the slices of t lead to, on all levels.
func spoil(t api.Tree) {
	for _, k := range t.Kids {
		spoil(k)
	}
	for i := range t.Keys[:cap(t.Keys)] {
		t.Keys[:cap(t.Keys)][i] = "spoilt"
	}
	for i := range t.Kids[:cap(t.Kids)] {
		t.Kids[:cap(t.Kids)][i] = api.Tree{Kind: 77, N: 77, S: "spoilt"}
	}
}

// The trees that the tests build are written out, so that they do not hang on other layers.
func number(n int64) api.Tree                 { return api.Tree{Kind: 1, N: n} }
func text(s string) api.Tree                  { return api.Tree{Kind: 2, S: s} }
func list(l ...api.Tree) api.Tree             { return api.Tree{Kind: 3, Kids: l} }
func keys(l ...string) []string               { return l }
func kids(l ...api.Tree) []api.Tree           { return l }
func dict(k []string, l ...api.Tree) api.Tree { return api.Tree{Kind: 4, Keys: k, Kids: l} }

// counted is a dictionary with those keys and the values 1, 2 and so on.
func counted(l ...string) api.Tree {
	t := api.Tree{Kind: 4, Keys: l}
	for i := range l {
		t.Kids = append(t.Kids, number(int64(i+1)))
	}
	return t
}

// chain is leaf within count lists.
func chain(count int, leaf api.Tree) api.Tree {
	for range count {
		leaf = list(leaf)
	}
	return leaf
}

// dicts is leaf within count dictionaries.
func dicts(count int, leaf api.Tree) api.Tree {
	for range count {
		leaf = dict(keys("k"), leaf)
	}
	return leaf
}

// many is a valid tree of six levels, with all kinds on several of them.
func many() api.Tree {
	return dict(keys("", "b", "c", "dd"),
		list(number(1), text("x"), list(number(-20), dict(keys("k", "l"), text("y"), list(number(3), text(""))))),
		number(math.MinInt64),
		text("zzzzzzzzzz"),
		dict(keys("\x80"), dict(keys("n", "o"), list(), dict(nil))))
}

// integers are the least and the greatest, those at which a notation gets longer, and some from all over, with both signs.
func integers() []int64 {
	l := []int64{0, 5, 42, 101, 255, 256, 65536, 1 << 20, 1<<31 - 1, 1 << 31, 1<<32 - 1, 1 << 32, 1<<62 + 1, math.MaxInt64 - 1, math.MaxInt64, math.MinInt64, math.MinInt64 + 1}
	for power, count := int64(1), 0; count < 19; power, count = 10*power, count+1 {
		l = append(l, power-1, power, power+1)
	}
	for _, n := range slices.Clone(l) {
		l = append(l, -n)
	}
	return l
}

// strs are strings of any bytes: none, single ones of each value, what looks like an encoding, no UTF-8, lengths of several digits.
func strs() []string {
	l := []string{"", "ab", "k\xc3\xa9", "\xff\xfe", "\xc3", "\xed\xa0\x80", "e", "i5e", "le", "d1:a", "1:a", ":", "::", "12:", "0", "-1", "ilde0123456789:-", "\x00\x00", "\n"}
	for c := range 256 {
		l = append(l, string([]byte{byte(c)}))
	}
	for _, size := range []int{2, 8, 9, 10, 11, 98, 99, 100, 101, 127, 128, 255, 256, 512, 999, 1000, 1001} {
		l = append(l, strings.Repeat("s", size), strings.Repeat("\xff", size), strings.Repeat("e", size), strings.Repeat("1:", size/2)+"x"[:size%2])
	}
	return l
}

// smallTrees are valid trees of one to three levels.
func smallTrees() []api.Tree {
	return []api.Tree{
		number(0), number(-1), number(math.MinInt64), text(""), text("a"), text("\xff:e"), list(), {Kind: 3, Kids: kids()}, dict(nil), {Kind: 4, Keys: keys(), Kids: kids()},
		list(number(5), text("ab")), list(list(), dict(nil), text(""), number(0)), list(list(list()), list()), counted("a"), counted(""), counted("", "\x00"), counted("a", "aa", "b"), counted("z", "\x7f", "\x80", "\xff"),
		dict(keys("d", "e", "i", "l"), dict(nil), text("e"), number(1), list()), dict(keys("a"), dict(keys("a"), text("a"))), dict(keys("1:", "2:a"), text("1:"), list(text("2:a"))),
	}
}

// validTrees are valid trees of all kinds and levels.
func validTrees() []api.Tree {
	var l []api.Tree
	for _, n := range integers() {
		l = append(l, number(n), list(number(n)), list(number(n), number(1)), dict(keys("k"), number(n)))
	}
	for _, s := range strs() {
		l = append(l, text(s), list(text(s)), list(text(s), number(1)), counted(s), dict(keys(s), text(s)))
	}
	l = append(l, many(), list(many(), many()), dict(keys("m", "n"), many(), list(many())))
	all := smallTrees()
	for _, x := range all {
		for _, y := range all {
			l = append(l, list(x, y), dict(keys("x", "y"), x, y))
		}
		for count := range 8 {
			for _, t := range []api.Tree{chain(count, x), dicts(count, x), chain(count/2, dicts(count-count/2, x)), dicts(count/2, chain(count-count/2, x))} {
				if tree.Right(t) == api.OK {
					l = append(l, t)
				}
			}
		}
	}
	for _, t := range l {
		if tree.Right(t) != api.OK {
			panic("a tree of the tests is not valid: " + show(t))
		}
	}
	return append(l, all...)
}

// eachTree calls check with all kinds beside all choices of the fields, alone and within a list and a dictionary.
func eachTree(check func(api.Tree)) {
	kinds := []int{1, 2, 3, 4, 0, 5, -1, -4, 255, 257, 1<<32 + 1, 1<<32 + 4, math.MinInt, math.MinInt + 4, math.MaxInt}
	someKeys := [][]string{nil, {}, {""}, {"a"}, {"a", "b"}, {"b", "a"}, {"a", "a"}, {"b", "\xff"}, {"a", "b", "c"}}
	someKids := [][]api.Tree{nil, {}, {number(1)}, {{}}, {text("x"), number(-2)}, {{Kind: 5}, {Kind: 1, S: "no"}}, {text("\xff"), list(), counted()}, {list(number(1), list(text("deep"))), counted("k"), number(3)}, {counted("b", "a"), list(api.Tree{})}}
	for _, kind := range kinds {
		for _, n := range []int64{0, -1} {
			for _, s := range []string{"", "\xff"} {
				for _, k := range someKeys {
					for _, l := range someKids {
						t := api.Tree{Kind: kind, N: n, S: s, Keys: k, Kids: l}
						check(t)
						check(list(number(1), t))
						check(dict(keys("a", "b"), t, number(1)))
					}
				}
			}
		}
	}
}

// checkPrint holds Print to the chapter's words, to R2 and to R4.
func checkPrint(t *testing.T, x api.Tree) {
	t.Helper()
	before := whole(x)
	got, err := Print(x)
	wantErr := tree.Right(x)
	want := ""
	if wantErr == api.OK {
		want = encode(x)
	}
	if err != wantErr || string(got) != want {
		t.Fatalf("Print(%s) = %s, %d, want %s, %d", show(x), show(got), err, show(want), wantErr)
	}
	if !reflect.DeepEqual(whole(x), before) {
		t.Fatalf("Print changed %s to %s", show(before), show(x))
	}
}

// checkParse holds Parse to the chapter's words, to R2 and to R4; it returns the error.
func checkParse(t *testing.T, b string) api.Errno {
	t.Helper()
	arg := []byte(b)
	got, err := Parse(arg)
	want, wantErr := decode(b)
	if err != wantErr || !same(got, want) {
		t.Fatalf("Parse(%s) = %s, %d, want %s, %d", show(b), show(got), err, show(want), wantErr)
	}
	if string(arg) != b {
		t.Fatalf("Parse changed %s to %s", show(b), show(arg))
	}
	return err
}

// expectPrint holds Print to an error, without any bytes.
func expectPrint(t *testing.T, name string, x api.Tree, want api.Errno) {
	t.Helper()
	if b, err := Print(x); err != want || len(b) != 0 {
		t.Errorf("%s: Print(%s) = %s, %d, want the error %d", name, show(x), show(b), err, want)
	}
}

// expectParse holds Parse to an error, without any of the tree.
func expectParse(t *testing.T, name, b string, want api.Errno) {
	t.Helper()
	if got, err := Parse([]byte(b)); err != want || !same(got, api.Tree{}) {
		t.Errorf("%s: Parse(%s) = %s, %d, want the error %d", name, show(b), show(got), err, want)
	}
	if _, err := decode(b); err != want {
		t.Errorf("%s: by the words the error of %s is %d, but the test wants %d", name, show(b), err, want)
	}
}

// expectBoth holds Print and Parse to each other's argument and result.
func expectBoth(t *testing.T, x api.Tree, b string) {
	t.Helper()
	if got, err := Print(x); err != api.OK || string(got) != b {
		t.Errorf("Print(%s) = %s, %d, want %s", show(x), show(got), err, show(b))
	}
	if got, err := Parse([]byte(b)); err != api.OK || !same(got, x) {
		t.Errorf("Parse(%s) = %s, %d, want %s", show(b), show(got), err, show(x))
	}
}

// 12.1, 12.2, 12.3: the chapter's examples, and trees whose bytes are written out here, both ways.
func TestWrittenOut(t *testing.T) {
	expectBoth(t, list(number(5), text("ab")), "li5e2:abe")
	expectBoth(t, counted("a", "b"), "d1:ai1e1:bi2ee")
	expectBoth(t, dict(keys("q", "r"), text("ping"), number(7)), "d1:q4:ping1:ri7ee")
	expectBoth(t, number(0), "i0e")
	expectBoth(t, number(-1), "i-1e")
	expectBoth(t, number(10), "i10e")
	expectBoth(t, number(-9), "i-9e")
	expectBoth(t, number(math.MaxInt64), "i9223372036854775807e")
	expectBoth(t, number(math.MinInt64), "i-9223372036854775808e")
	expectBoth(t, text(""), "0:")
	expectBoth(t, text("a"), "1:a")
	expectBoth(t, text("e"), "1:e")
	expectBoth(t, text(":"), "1::")
	expectBoth(t, text("i5e"), "3:i5e")
	expectBoth(t, text("\xff\x00\xc3"), "3:\xff\x00\xc3")
	expectBoth(t, text("0123456789"), "10:0123456789")
	expectBoth(t, text(strings.Repeat("x", 100)), "100:"+strings.Repeat("x", 100))
	expectBoth(t, list(), "le")
	expectBoth(t, api.Tree{Kind: 3, Kids: kids()}, "le")
	expectBoth(t, list(list()), "llee")
	expectBoth(t, list(list(), list()), "llelee")
	expectBoth(t, list(number(1), number(-2), number(3)), "li1ei-2ei3ee")
	expectBoth(t, list(text(""), text("ee"), text("1:")), "l0:2:ee2:1:e")
	expectBoth(t, dict(nil), "de")
	expectBoth(t, api.Tree{Kind: 4, Keys: keys(), Kids: kids()}, "de")
	expectBoth(t, counted(""), "d0:i1ee")
	expectBoth(t, counted("", "\x00", "\x00\x00"), "d0:i1e1:\x00i2e2:\x00\x00i3ee")
	expectBoth(t, counted("\x7f", "\x80", "\xff", "\xff\x00"), "d1:\x7fi1e1:\x80i2e1:\xffi3e2:\xff\x00i4ee")
	expectBoth(t, counted("10", "9"), "d2:10i1e1:9i2ee")
	expectBoth(t, dict(keys("a", "b"), text("x"), list(text("y"), dict(nil))), "d1:a1:x1:bl1:ydeee")
	expectBoth(t, dict(keys("d"), dict(keys("e"), dict(keys("i"), dict(keys("l"), text("e"))))), "d1:dd1:ed1:id1:l1:eeeee")
	expectBoth(t, dict(keys("k"), list(list(number(0)), counted("k"))), "d1:klli0eed1:ki1eeee")
	expectBoth(t, chain(7, list()), "lllllllleeeeeeee")
	expectBoth(t, chain(7, dict(nil)), "llllllldeeeeeeee")
	expectBoth(t, chain(7, number(-3)), "llllllli-3eeeeeeee")
	expectBoth(t, chain(7, text("e")), "lllllll1:eeeeeeee")
	expectBoth(t, dicts(7, dict(nil)), "d1:kd1:kd1:kd1:kd1:kd1:kd1:kdeeeeeeee")
	expectBoth(t, dicts(7, text("v")), "d1:kd1:kd1:kd1:kd1:kd1:kd1:k1:veeeeeee")
	expectParse(t, "the chapter's example", "i-0e", api.ErrForm)
	expectParse(t, "the chapter's example", "i05e", api.ErrForm)
	expectParse(t, "the chapter's example", "d1:bi1e1:ai1ee", api.ErrForm)
	expectParse(t, "the chapter's example", "2:a", api.ErrShort)
	expectParse(t, "the chapter's example", "le5", api.ErrMore)
}

// 12.1, R3, R4: valid trees of all kinds, with the least and the greatest integers, all bytes and all levels; nil and empty slices, spare capacity.
func TestPrintFollowsWords(t *testing.T) {
	for _, x := range validTrees() {
		checkPrint(t, x)
		checkPrint(t, roomy(x))
		if b, err := Print(x); err != api.OK || len(b) == 0 {
			t.Fatalf("Print(%s) = %s, %d", show(x), show(b), err)
		}
	}
}

// 12.1, R1, R2, R6: all kinds and fields beside each other: the error is always Right's, and there are no bytes beside it.
func TestPrintOfAnyTree(t *testing.T) {
	seen := map[api.Errno]int{}
	eachTree(func(x api.Tree) {
		checkPrint(t, x)
		checkPrint(t, roomy(x))
		seen[tree.Right(x)]++
	})
	for _, err := range []api.Errno{api.OK, api.ErrKind, api.ErrArg, api.ErrForm} {
		if seen[err] < 20 {
			t.Errorf("%d trees get %d, want more", seen[err], err)
		}
	}
}

// fault is a tree that is not valid, and the error that it must get.
type fault struct {
	x    api.Tree
	want api.Errno
}

// 12.1, R2: trees that are not valid in each of the ways, alone and on each level, with good trees beside them.
func TestPrintOfWhatIsNotValid(t *testing.T) {
	for i, f := range []fault{
		{api.Tree{}, api.ErrKind},
		{api.Tree{Kind: 5}, api.ErrKind},
		{api.Tree{Kind: -1, N: 1}, api.ErrKind},
		{api.Tree{Kind: 1<<32 + 1}, api.ErrKind},
		{api.Tree{Kind: 1, S: "a"}, api.ErrArg},
		{api.Tree{Kind: 1, Kids: kids(number(1))}, api.ErrArg},
		{api.Tree{Kind: 2, N: 1}, api.ErrArg},
		{api.Tree{Kind: 2, Keys: keys("a")}, api.ErrArg},
		{api.Tree{Kind: 2, Kids: kids(number(1))}, api.ErrArg},
		{api.Tree{Kind: 3, Keys: keys("a")}, api.ErrArg},
		{api.Tree{Kind: 3, S: "a"}, api.ErrArg},
		{api.Tree{Kind: 4, N: 1}, api.ErrArg},
		{dict(keys("a")), api.ErrArg},
		{dict(nil, number(1)), api.ErrArg},
		{dict(keys("a"), number(1), number(2)), api.ErrArg},
		{dict(keys("a", "b"), number(1)), api.ErrArg},
		{text(text20more), api.ErrLong},
		{counted(text20more), api.ErrLong},
		{counted("a", text20more), api.ErrLong},
		{counted("b", "a"), api.ErrForm},
		{counted("a", "a"), api.ErrForm},
		{counted("", ""), api.ErrForm},
		{counted("\x80", "\x7f"), api.ErrForm},
		{counted("a", "c", "b"), api.ErrForm},
		{dict(keys("b", "a"), api.Tree{}, api.Tree{}), api.ErrForm},
	} {
		name := "the tree " + strconv.Itoa(i)
		expectPrint(t, name+" with a good one behind it", list(f.x, number(1)), f.want)
		expectPrint(t, name+" behind good ones", list(number(1), text("a"), f.x), f.want)
		expectPrint(t, name+" in a dictionary", dict(keys("a", "b"), many(), f.x), f.want)
		for count := range 10 {
			want := f.want
			if count >= 8 {
				want = api.ErrDeep
			}
			expectPrint(t, name+" in lists", chain(count, f.x), want)
			expectPrint(t, name+" in dictionaries", dicts(count, f.x), want)
		}
	}
}

// 12.1, R2: the error is that of the tree that Right comes to first.
func TestPrintOfSeveralFaults(t *testing.T) {
	for i, f := range []fault{
		{list(number(1), list(api.Tree{}), counted("b", "a")), api.ErrKind},
		{list(number(1), list(counted("b", "a")), api.Tree{}), api.ErrForm},
		{list(chain(8, number(1)), api.Tree{}), api.ErrDeep},
		{list(api.Tree{}, chain(8, number(1))), api.ErrKind},
		{list(chain(6, api.Tree{}), chain(7, number(1))), api.ErrKind},
		{dict(keys("a", "b"), text(text20more), counted("b", "a")), api.ErrLong},
		{dict(keys("a", "b"), counted("b", "a"), text(text20more)), api.ErrForm},
		{dict(keys("b", "a"), api.Tree{}, text(text20more)), api.ErrForm},
		{dict(keys("b", text20more, "a"), api.Tree{}, api.Tree{}, api.Tree{}), api.ErrLong},
		{api.Tree{Kind: 4, S: "s", Keys: keys("b", "a"), Kids: kids(number(1), api.Tree{})}, api.ErrArg},
		{chain(8, api.Tree{}), api.ErrDeep},
		{chain(8, text(text20more)), api.ErrDeep},
	} {
		expectPrint(t, "the tree "+strconv.Itoa(i), f.x, f.want)
	}
}

// 12.1, 12.2: the eighth level is written and read, the ninth one refused, of each kind, in lists and dictionaries.
func TestLevels(t *testing.T) {
	for name, leaf := range map[string]api.Tree{"an integer": number(-1), "a string": text("s"), "an empty string": text(""), "a list": list(), "a dictionary": dict(nil)} {
		for lists := range 12 {
			for dictionaries := range 12 - lists {
				for _, x := range []api.Tree{chain(lists, dicts(dictionaries, leaf)), dicts(dictionaries, chain(lists, leaf))} {
					b := encode(x)
					if lists+dictionaries < 8 {
						expectBoth(t, x, b)
					} else {
						expectPrint(t, name, x, api.ErrDeep)
						expectParse(t, name, b, api.ErrDeep)
						expectParse(t, name+" with bytes behind", b+"x", api.ErrDeep)
					}
				}
			}
		}
	}
	expectBoth(t, list(chain(6, number(1)), chain(6, number(2)), number(3)), "l"+"lllllli1eeeeeee"+"lllllli2eeeeeee"+"i3e"+"e")
	expectParse(t, "the second one too deep", "l"+encode(chain(6, number(1)))+encode(chain(7, number(2)))+"e", api.ErrDeep)
}

// 12.1, 12.2: lengths of one digit to seven, up to 2^20, as a string and as a key; one byte more is refused, with the bytes there or not.
func TestLengths(t *testing.T) {
	for power := 1; power <= 1_000_000; power *= 10 {
		for _, size := range []int{power - 1, power, power + 1} {
			s := strings.Repeat("e", size)
			expectBoth(t, text(s), strconv.Itoa(size)+":"+s)
			expectBoth(t, counted(s), "d"+strconv.Itoa(size)+":"+s+"i1ee")
			expectParse(t, "a byte too few", strconv.Itoa(size+1)+":"+s, api.ErrShort)
			expectParse(t, "a byte too many", strconv.Itoa(size)+":"+s+"e", api.ErrMore)
		}
	}
	expectBoth(t, text(text20[1:]), "1048575:"+text20[1:])
	expectBoth(t, text(text20), "1048576:"+text20)
	expectBoth(t, list(text(text20), text(text20)), "l1048576:"+text20+"1048576:"+text20+"e")
	expectBoth(t, counted(text20), "d1048576:"+text20+"i1ee")
	for _, tail := range []string{"", "a", text20[1:], text20, text20more, text20more + text20more} {
		expectParse(t, "2^20 + 1", "1048577:"+tail, api.ErrLong)
		expectParse(t, "2^20 + 1 in a list", "l1048577:"+tail, api.ErrLong)
		expectParse(t, "2^20 + 1 of a key", "d1048577:"+tail, api.ErrLong)
		expectParse(t, "2^20 + 1 of a second key", "d1:ai1e1048577:"+tail, api.ErrLong)
		for _, digits := range []string{"1048578", "1048580", "1048676", "2000000", "9999999", "10000000", "2147483647", "2147483648", "4294967296", "4294967297", "9223372036854775807"} {
			expectParse(t, "a greater length", digits+":"+tail, api.ErrLong)
			expectParse(t, "a greater length of a key", "d"+digits+":"+tail, api.ErrLong)
		}
		for _, digits := range []string{"9223372036854775808", "18446744073709551615", "18446744073709551616", "18446744073709551617", "99999999999999999999", "36893488147419103233", strings.Repeat("9", 1000), "1" + strings.Repeat("0", 64)} {
			expectParse(t, "no integer", digits+":"+tail, api.ErrForm)
			expectParse(t, "no integer at a key", "d"+digits+":"+tail, api.ErrForm)
		}
	}
	for _, tail := range []string{"", "a", text20[1:]} {
		expectParse(t, "2^20 with too few bytes", "1048576:"+tail, api.ErrShort)
		expectParse(t, "2^20 with too few bytes of a key", "d1048576:"+tail, api.ErrShort)
	}
	expectParse(t, "2^20 with too many bytes", "1048576:"+text20more, api.ErrMore)
}

// 12.2: bytes that begin no value are refused on the first level and further down, whatever is behind them; an e counts as one of them where no list can end.
func TestFirstBytes(t *testing.T) {
	inLists := []string{"l", "li1e", "l0:", "ll", "lle", "ld1:al", "lllllll"}
	elsewhere := []string{"", "d1:a", "d0:", "d1:ai1e1:b", "ld1:a", "d1:kd1:kd1:kd1:kd1:kd1:kd1:k"}
	for i, ahead := range append(inLists, elsewhere...) {
		expectParse(t, "nothing", ahead, api.ErrShort)
		begins := "ild0123456789"
		if i < len(inLists) {
			begins += "e"
		}
		for _, c := range everyByte() {
			for _, behind := range []string{"", "e", "5e", ":", "1:a", "i1ee"} {
				checkParse(t, ahead+c+behind)
				if !strings.Contains(begins, c) {
					expectParse(t, "a first byte that is none", ahead+c+behind, api.ErrForm)
				}
			}
		}
	}
	if got, err := Parse(nil); err != api.ErrShort || !same(got, api.Tree{}) {
		t.Errorf("Parse(nil) = %s, %d", show(got), err)
	}
}

// 12.2: integers are read in their one notation alone; no e is ErrShort ahead of whatever else is wrong.
func TestParseOfIntegers(t *testing.T) {
	for _, n := range integers() {
		digits := strconv.FormatInt(n, 10)
		expectBoth(t, number(n), "i"+digits+"e")
		for i := range digits {
			expectParse(t, "no e", "i"+digits[:i], api.ErrShort)
		}
		if n > 0 {
			expectParse(t, "a leading zero", "i0"+digits+"e", api.ErrForm)
			expectParse(t, "a plus", "i+"+digits+"e", api.ErrForm)
			expectParse(t, "a leading zero behind a minus", "i-0"+digits+"e", api.ErrForm)
			expectParse(t, "two signs", "i--"+digits+"e", api.ErrForm)
		}
	}
	for _, digits := range []string{
		"", "-", "+", "-0", "+0", "00", "-00", "01", "007", "+5", "--5", "-+5", "5-", "- 5", " 5", "5 ", "5\n", "\n5", "\x005", "5\x00", "1:", ":", "5:", "1:a", "1.0", "0x1", "1_000", "1,000", "a", "5a", "i5", "l", "d", "\xff", "5\xff", "\u0665", "5\u0660",
		"9223372036854775808", "-9223372036854775809", "9223372036854775817", "18446744073709551615", "18446744073709551616", "18446744073709551621", "-18446744073709551616", "-18446744073709551615", "92233720368547758070", "99999999999999999999", strings.Repeat("1", 1000), "-" + strings.Repeat("9", 1000), strings.Repeat("0", 1000),
	} {
		for _, ahead := range []string{"", "l", "d1:a"} {
			for _, behind := range []string{"e", "ee", "e1:ae", "e5"} {
				expectParse(t, "no notation", ahead+"i"+digits+behind, api.ErrForm)
			}
			expectParse(t, "no notation and no e", ahead+"i"+digits, api.ErrShort)
		}
	}
	expectParse(t, "an e far behind", "i5:aaa"+strings.Repeat("l", 1000)+"e", api.ErrForm)
	expectParse(t, "an e that belongs elsewhere", "li5i6ee", api.ErrForm)
	expectParse(t, "no e at all", "li5"+strings.Repeat("l", 1000), api.ErrShort)
	expectParse(t, "an e of a list", "li5", api.ErrShort)
	expectParse(t, "an integer that swallows the end", "li5e", api.ErrShort)
}

// 12.2: a length is read in its one notation alone; no colon is ErrShort ahead of whatever else is wrong.
func TestParseOfStrings(t *testing.T) {
	for _, s := range strs() {
		expectBoth(t, text(s), quoted(s))
		expectParse(t, "a leading zero", "0"+quoted(s), api.ErrForm)
		expectParse(t, "two leading zeros", "00"+quoted(s), api.ErrForm)
		expectParse(t, "a minus", "-"+quoted(s), api.ErrForm)
		expectParse(t, "a plus", "+"+quoted(s), api.ErrForm)
	}
	for _, digits := range []string{"00", "01", "007", "1-", "1+", "5 ", "1a", "1e", "1i1e", "1\x00", "1\xff", "1\n", "1.0", "0x1", "1e1", "1_0", "1,0", "10-", "1\u0660"} {
		for _, ahead := range []string{"", "l", "d", "d1:a", "d1:ai1e"} {
			for _, behind := range []string{":", ":a", ":aaaaaaaaaaaa", "::", ":" + text20more} {
				expectParse(t, "no notation", ahead+digits+behind, api.ErrForm)
			}
			expectParse(t, "no notation and no colon", ahead+digits, api.ErrShort)
			expectParse(t, "no notation and no colon but other bytes", ahead+digits+"abce", api.ErrShort)
		}
	}
	for _, ahead := range []string{"", "l", "d", "d1:a", "d1:ai1e"} {
		for _, digits := range []string{"0", "1", "5", "9", "10", "1048576", "1048577", "9223372036854775808", "05", strings.Repeat("1", 1000)} {
			expectParse(t, "no colon", ahead+digits, api.ErrShort)
			expectParse(t, "no colon but an e", ahead+digits+"e", api.ErrShort)
			expectParse(t, "no colon but other bytes", ahead+digits+"aaaaaaaaaaaaaaaa", api.ErrShort)
		}
	}
	expectParse(t, "a colon that belongs elsewhere", "l3abc1:ae", api.ErrForm)
	expectParse(t, "more than is left", "2:a", api.ErrShort)
	expectParse(t, "more than is left in a list", "l3:ae", api.ErrShort)
	expectParse(t, "all that is left", "l2:ae", api.ErrShort)
	expectParse(t, "nothing left", "1:", api.ErrShort)
	expectParse(t, "more than is left of a key", "d4:ai1e", api.ErrShort)
	expectParse(t, "two strings", "1:a1:b", api.ErrMore)
	expectParse(t, "a byte behind an empty string", "0:a", api.ErrMore)
}

// 12.2: lists and dictionaries that are not ended, or ended where a key or a value is asked for.
func TestParseOfWhatIsNotEnded(t *testing.T) {
	for _, ahead := range []string{"", "l", "li1e", "d1:a", "d1:ai1e1:b", "llld0:d1:a"} {
		for _, b := range []string{"l", "ll", "lle", "li1e", "l1:a", "l1:e", "lde", "ldel", "d", "d1:ai1e", "d1:a1:e", "d1:ade", "d1:ale", "ld", "ld1:ai1e", "ld1:ai1ee", "d0:de", "d1:ali1ee"} {
			expectParse(t, "not ended", ahead+b, api.ErrShort)
		}
		for _, b := range []string{"d1:a", "d0:", "d1:ai1e1:b", "d1:ale1:b"} {
			expectParse(t, "a key that is the last thing", ahead+b, api.ErrShort)
		}
		for _, b := range []string{"d1:ae", "d1:aee", "d0:e", "d1:ai1e1:be", "d1:ai1e1:bee"} {
			expectParse(t, "an end in place of a value", ahead+b, api.ErrForm)
		}
		for _, b := range []string{"di1ee", "di1e", "di", "dl", "dle", "dd", "ddee", "d:", "d:e", "d-1:ae", "d+1:ae", "d 1:ae", "dx", "d\xff", "d1:ai1ei2ee", "d1:ai1el", "d1:ai1ed", "d1:ai1ex", "d1:ai1e:"} {
			expectParse(t, "a key that is no string", ahead+b, api.ErrForm)
		}
	}
	for _, b := range []string{"e", "ee", "e5", "el"} {
		expectParse(t, "an end of nothing", b, api.ErrForm)
		expectParse(t, "an end of nothing behind a key", "d1:a"+b, api.ErrForm)
	}
	for _, b := range []string{"lee", "dee", "llee ", "lele", "dele", "led", "i1ee", "1:ae", "li1eee", "d1:ai1eee", "le\x00", "i0ei0e", "0:0:", "de1:a"} {
		expectParse(t, "ended, with bytes behind", b, api.ErrMore)
	}
}

// 12.2: a second key is taken if and only if it is greater, byte by byte; it is refused ahead of its value.
func TestParseOfKeys(t *testing.T) {
	l := []string{"", "\x00", "\x00\x00", "0", "1", "10", "9", "A", "a", "a\x00", "aa", "ab", "b", "\x7f", "\x7f\xff", "\x80", "\x80\x00", "\xc3\xa9", "\xe2\x82\xac", "\xef\xbf\xbd", "\xf0\x9f\x94\x91", "\xfe", "\xff", "\xff\x00", "\xff\xff", strings.Repeat("a", 10), strings.Repeat("a", 100)}
	for _, a := range l {
		for _, b := range l {
			head := "d" + quoted(a) + "i1e" + quoted(b)
			if bytes.Compare([]byte(a), []byte(b)) < 0 {
				expectBoth(t, counted(a, b), head+"i2ee")
				expectParse(t, "no value", head, api.ErrShort)
				expectParse(t, "an end for a value", head+"e", api.ErrForm)
			} else {
				for _, value := range []string{"i2ee", "", "e", "x", "l", "i", "2", "5:a", "1048577:a", "0:e"} {
					expectParse(t, "a key that is not greater", head+value, api.ErrForm)
					expectParse(t, "a key that is not greater, on the seventh level", "llllll"+head+value, api.ErrForm)
				}
			}
			expectParse(t, "a second key that is cut off", "d"+quoted(a)+"i1e"+strconv.Itoa(len(b)+1)+":"+b, api.ErrShort)
			for _, c := range []string{a, b, ""} {
				checkParse(t, head+"i2e"+quoted(c)+"i3ee")
			}
		}
	}
	expectBoth(t, dict(keys("b"), counted("a", "c")), "d1:bd1:ai1e1:ci2eee")
	expectBoth(t, dict(keys("a", "b"), counted("z"), counted("c")), "d1:ad1:zi1ee1:bd1:ci1eee")
	expectParse(t, "only the previous key counts", "d1:bi1e1:ci2e1:bi3ee", api.ErrForm)
	expectParse(t, "a third key that falls below the second alone", "d1:ai1e1:ci2e1:bi3ee", api.ErrForm)
	expectParse(t, "equal empty keys", "d0:i1e0:i2ee", api.ErrForm)
}

// 12.2: on the ninth level ErrShort and ErrForm come ahead of ErrDeep, and ErrDeep ahead of all that is read further on.
func TestNinthLevel(t *testing.T) {
	for _, ahead := range []string{"llllllll", "llllllld1:k", "d1:kd1:kd1:kd1:kd1:kd1:kd1:kd1:k", "d1:klllllll", "lli5ele" + "llllll", "llllllll" + "e" + "l", "lllllld0:de1:ad1:k"} {
		expectParse(t, "nothing", ahead, api.ErrShort)
		for _, value := range []string{"x", ":", "-", "-1", " ", "\xff", "\x00", "I5e", "E"} {
			expectParse(t, "no value", ahead+value, api.ErrForm)
		}
		for _, value := range []string{"i", "i5e", "i5", "ie", "i-0e", "ixe", "l", "le", "lx", "d", "de", "dx", "d1:b", "0", "0:", "1:a", "1:", "1", "01:", "1x:", "1048577:", "9223372036854775808:", "9", strings.Repeat("l", 1000), strings.Repeat("d0:", 1000)} {
			expectParse(t, "too deep", ahead+value, api.ErrDeep)
			expectParse(t, "too deep, and ended", ahead+value+"eeeeeeee", api.ErrDeep)
		}
	}
	for _, ahead := range []string{"lllllll", "d1:kd1:kd1:kd1:kd1:kd1:kd1:k"} {
		ends := strings.Repeat("e", 7)
		for _, value := range []string{"le", "de", "i5e", "0:", "1:a"} {
			if err := checkParse(t, ahead+value+ends); err != api.OK {
				t.Errorf("Parse(%s) = %d", ahead+value+ends, err)
			}
			expectParse(t, "not ended", ahead+value+ends[1:], api.ErrShort)
			expectParse(t, "ended twice", ahead+value+ends+"e", api.ErrMore)
		}
		expectParse(t, "a key on the eighth level, without a value", ahead+"d1:a", api.ErrShort)
		expectParse(t, "a key on the eighth level, and an end", ahead+"d1:ae", api.ErrForm)
		expectParse(t, "a key that is none on the eighth level", ahead+"di1e", api.ErrForm)
		expectParse(t, "a key that is too long on the eighth level", ahead+"d1048577:", api.ErrLong)
		expectParse(t, "a key that is cut off on the eighth level", ahead+"d2:a", api.ErrShort)
	}
}

// 12.2, R2: bytes with several faults get the first error from left to right.
func TestFirstErrorFromLeftToRight(t *testing.T) {
	faults := []struct {
		b    string
		want api.Errno
	}{
		{"x", api.ErrForm}, {"i-0e", api.ErrForm}, {"ie", api.ErrForm}, {"01:a", api.ErrForm}, {"1x:", api.ErrForm}, {"9223372036854775808:", api.ErrForm},
		{"di1e", api.ErrForm}, {"d1:ae", api.ErrForm}, {"d1:ai1e1:ai1ee", api.ErrForm}, {"d1:bi1e1:a", api.ErrForm}, {"1048577:", api.ErrLong}, {"d1048577:", api.ErrLong}, {"lllllllll", api.ErrDeep}, {"d0:llllllllll", api.ErrDeep},
	}
	good := []string{"", "i1e", "0:", "1:x", "le", "de", "li1ee", "d1:ai1ee", "2:i-", "3:ie0"}
	for _, first := range faults {
		for _, g := range good {
			expectParse(t, "behind good ones", "l"+g+first.b, first.want)
			expectParse(t, "behind good ones, deeper", "d1:ald1:b"+"l"+g+first.b, first.want)
			for _, second := range faults {
				expectParse(t, "two faults", "l"+g+first.b+second.b, first.want)
				expectParse(t, "two faults, ended", "l"+g+first.b+"e"+second.b+"ee", first.want)
				expectParse(t, "two faults in values", "d0:l"+g+"e1:a"+first.b+"1:b"+second.b+"e", first.want)
			}
		}
	}
	for _, g := range good[1:] {
		for _, f := range faults {
			expectParse(t, "bytes behind a value are not read", g+f.b, api.ErrMore)
		}
		expectParse(t, "one e more", g+"e", api.ErrMore)
	}
	expectParse(t, "what is short ahead of what is no value", "l5:x", api.ErrShort)
	expectParse(t, "what is no value ahead of what is short", "lx5:x", api.ErrForm)
	expectParse(t, "no number ahead of no end", "li-0e", api.ErrForm)
	expectParse(t, "a key that falls ahead of no end", "d1:bi1e1:ai1e", api.ErrForm)
	expectParse(t, "a length ahead of a key that falls", "d1:bi1e1048577:a", api.ErrLong)
	expectParse(t, "a key that is cut off ahead of one that falls", "d1:bi1e2:a", api.ErrShort)
	expectParse(t, "a key that falls ahead of its value's depth", "lllllllld1:bi1e"[1:], api.ErrDeep)
	expectParse(t, "no end ahead of bytes behind", "li1e5:", api.ErrShort)
}

// everyByte is each byte, as a string; someBytes are those that matter most, and one that does not.
func everyByte() []string {
	var l []string
	for c := range 256 {
		l = append(l, string([]byte{byte(c)}))
	}
	return l
}

func someBytes() []string {
	return strings.Split("ide:-019\x80", "")
}

// eachEncoding calls check with the encodings of valid trees, each once, and with bytes to be put into it: every byte for small ones.
func eachEncoding(check func(b string, others []string)) {
	done := map[string]int{}
	add := func(l []api.Tree, others []string) {
		for _, x := range l {
			if b := encode(x); done[b] == 0 {
				done[b] = 1
				check(b, others)
			}
		}
	}
	add(append(smallTrees(), many()), everyByte())
	add(validTrees(), someBytes())
}

// 12.2: each encoding that is cut off after any of its bytes is short, whatever is there; and one with anything behind it has more.
func TestParseOfCutAndLongerEncodings(t *testing.T) {
	eachEncoding(func(b string, others []string) {
		for i := range len(b) {
			expectParse(t, "cut off", b[:i], api.ErrShort)
		}
		for _, c := range others {
			expectParse(t, "longer", b+c, api.ErrMore)
		}
		expectParse(t, "twice", b+b, api.ErrMore)
	})
}

// 12.2, 12.3: encodings with each byte changed, left out, doubled, or with another one put in ahead of it, by the chapter's words.
func TestParseOfSpoiltEncodings(t *testing.T) {
	count, taken := 0, 0
	check := func(b string) {
		count++
		if checkParse(t, b) == api.OK {
			taken++
			checkInverse(t, b)
		}
	}
	eachEncoding(func(b string, others []string) {
		for at := range len(b) {
			check(b[:at] + string([]byte{b[at] + 1}) + b[at+1:])
			if min(at, len(b)-at) > 20 { // within a long string
				continue
			}
			for _, c := range others {
				check(b[:at] + c + b[at+1:])
			}
			for _, c := range append(someBytes(), b[at:at+1]) {
				check(b[:at] + c + b[at:])
			}
			check(b[:at] + string([]byte{b[at] - 1}) + b[at+1:])
			check(b[:at] + b[at+1:])
		}
	})
	if count < 500000 || taken < 10000 || taken > count/2 {
		t.Errorf("%d of %d spoilt encodings were taken", taken, count)
	}
}

// combine calls f for each string of at most length pieces.
func combine(pieces []string, length int, f func(string)) {
	var add func(s string, left int)
	add = func(s string, left int) {
		f(s)
		if left > 0 {
			for _, p := range pieces {
				add(s+p, left-1)
			}
		}
	}
	add("", length)
}

// checkInverse holds Print to bytes that Parse took: they come out again.
func checkInverse(t *testing.T, b string) {
	t.Helper()
	x, err := Parse([]byte(b))
	if err != api.OK || tree.Right(x) != api.OK {
		t.Fatalf("Parse(%s) = %s, %d, and Right returns %d", show(b), show(x), err, tree.Right(x))
	}
	if got, err := Print(x); err != api.OK || string(got) != b {
		t.Fatalf("Print(Parse(%s)) = %s, %d", show(b), show(got), err)
	}
}

// 12.2, 12.3, R1: all short bytes of those that matter, and all short rows of pieces, by the chapter's words; what is taken comes out again.
func TestParseOfShortBytes(t *testing.T) {
	seen := map[api.Errno]int{}
	check := func(b string) {
		err := checkParse(t, b)
		seen[err]++
		if err == api.OK {
			checkInverse(t, b)
		}
	}
	combine(strings.Split("ilde:-01a", ""), 5, check)
	combine(strings.Split("ide:01", ""), 7, check)
	combine([]string{"i", "l", "d", "e", "0:", "1:a", "1:b", "i1e", "i-", "lllllll", "2:", ":", "0"}, 5, check)
	combine([]string{"d", "e", "0:", "1:a", "1:b", "i1e"}, 7, check)
	for a := range 256 {
		for b := range 256 {
			check(string([]byte{byte(a), byte(b)}))
			check(string([]byte{'i', byte(a), byte(b), 'e'}))
			check(string([]byte{'1', byte(a), byte(b)}))
			check(string([]byte{'d', '1', ':', byte(a), 'l', 'e', '1', ':', byte(b), 'l', 'e', 'e'}))
		}
	}
	for _, err := range []api.Errno{api.OK, api.ErrShort, api.ErrForm, api.ErrMore, api.ErrDeep} {
		if seen[err] < 1000 {
			t.Errorf("%d byte sequences get %d, want more", seen[err], err)
		}
	}
}

// random yields a valid tree from the source, of at most levels levels.
func random(r *rand.Rand, levels int) api.Tree {
	choice := r.Intn(6)
	if levels == 1 {
		choice = r.Intn(2)
	}
	switch choice {
	case 0:
		return number(int64(r.Uint64()) >> r.Intn(64))
	case 1:
		return text(randomText(r))
	case 2, 3:
		t := list()
		for range r.Intn(5) {
			t.Kids = append(t.Kids, random(r, levels-1))
		}
		return t
	}
	t := dict(nil)
	for range r.Intn(5) {
		t.Keys = append(t.Keys, randomText(r))
	}
	slices.Sort(t.Keys)
	t.Keys = slices.Compact(t.Keys)
	for range t.Keys {
		t.Kids = append(t.Kids, random(r, levels-1))
	}
	return t
}

// randomText is a short string of any bytes.
func randomText(r *rand.Rand) string {
	b := make([]byte, r.Intn(1<<r.Intn(5)))
	for i := range b {
		b[i] = byte(r.Intn(256))
	}
	return string(b)
}

// 12.3: what Print writes Parse reads as it was, and that is written again; different trees have different encodings.
func TestPrintedIsParsed(t *testing.T) {
	r := rand.New(rand.NewSource(12))
	l := validTrees()
	for range 20000 {
		l = append(l, random(r, 1+r.Intn(8)))
	}
	written := map[string]api.Tree{}
	for _, x := range l {
		b, err := Print(x)
		if err != api.OK {
			t.Fatalf("Print(%s) = %d", show(x), err)
		}
		got, err := Parse(b)
		if err != api.OK || !same(got, x) || !tree.Same(got, x) {
			t.Fatalf("Parse of the encoding of %s is %s, %d", show(x), show(got), err)
		}
		checkInverse(t, string(b))
		checkPrint(t, x)
		if other, ok := written[string(b)]; ok && !same(other, x) {
			t.Fatalf("%s and %s have the same encoding", show(other), show(x))
		}
		written[string(b)] = x
	}
	if len(written) < 5000 {
		t.Errorf("only %d encodings that differ", len(written))
	}
}

// 12.2, 12.3, R1: random encodings with random changes, by the chapter's words; what is taken comes out again.
func TestParsedIsPrinted(t *testing.T) {
	r := rand.New(rand.NewSource(21))
	const those = "ilde:-+0123456789\x00\x80\xff"
	taken := 0
	for range 40000 {
		b := []byte(encode(random(r, 1+r.Intn(9))))
		for range 1 + r.Intn(3) {
			at := r.Intn(len(b) + 1)
			switch r.Intn(3) {
			case 0:
				b = slices.Insert(b, at, those[r.Intn(len(those))])
			case 1:
				b = slices.Delete(b, at, min(at+1+r.Intn(2), len(b)))
			case 2:
				b = slices.Replace(b, at, min(at+1, len(b)), those[r.Intn(len(those))])
			}
		}
		if checkParse(t, string(b)) == api.OK {
			taken++
			checkInverse(t, string(b))
		}
	}
	if taken < 1000 {
		t.Errorf("only %d byte sequences were taken", taken)
	}
}

// R4: bytes behind the end of the argument are not read, and nothing of it is changed.
func TestParseReadsNothingBehindTheEnd(t *testing.T) {
	for _, x := range validTrees() {
		b := encode(x)
		for _, size := range []int{0, len(b) / 2, len(b) - 1, len(b)} {
			room := []byte(b + b + "e:0123456789")
			got, err := Parse(room[:size])
			if want, wantErr := decode(b[:size]); err != wantErr || !same(got, want) {
				t.Fatalf("Parse(%s) with %s behind it = %s, %d, want %s, %d", show(b[:size]), show(b[size:]), show(got), err, show(want), wantErr)
			}
			if string(room) != b+b+"e:0123456789" {
				t.Fatalf("Parse(%s) changed its argument, or what is behind it", show(b))
			}
		}
	}
}

// R4: a tree that was read does not hang on what the caller does with the bytes, and no two slices of trees share memory.
func TestParseKeepsNothing(t *testing.T) {
	for _, x := range validTrees() {
		b := []byte(encode(x))
		first, _ := Parse(b)
		second, _ := Parse(b)
		if !areNew(first, second, deep(x)) {
			t.Fatalf("slices of %s share memory", show(x))
		}
		for i := range b {
			b[i] = '#'
		}
		spoil(first)
		if !same(second, x) {
			t.Fatalf("%s was changed to %s by what the caller did", show(x), show(second))
		}
	}
}

// R4: bytes that were written do not hang on what the caller does with the tree or with other results; what is appended is not seen either.
func TestPrintKeepsNothing(t *testing.T) {
	for _, x := range validTrees() {
		want, x := encode(x), roomy(x)
		first, _ := Print(x)
		second, _ := Print(x)
		before := whole(x)
		for i := range first[:cap(first)] {
			first[:cap(first)][i] = '#'
		}
		if !reflect.DeepEqual(whole(x), before) || string(second) != want {
			t.Fatalf("a change of a result changed %s or %s", show(x), show(second))
		}
		spoil(x)
		if string(second) != want {
			t.Fatalf("a change of the tree changed %s to %s", show(want), show(second))
		}
	}
}

// R5: a result does not hang on the calls before it.
func TestCallsLeaveNothingBehind(t *testing.T) {
	results := func() string {
		a, errA := Print(many())
		b, errB := Print(api.Tree{})
		c, errC := Parse([]byte(encode(many())))
		d, errD := Parse([]byte("li5e"))
		return fmt.Sprint(a, errA, b, errB, c, errC, d, errD)
	}
	first := results()
	eachTree(func(x api.Tree) {
		b, _ := Print(x)
		y, _ := Parse(b)
		spoil(y)
	})
	for _, b := range []string{"", "x", "lllllllll", "d1:a", "i5", "1048577:", "le5", "9:"} {
		Parse([]byte(b))
	}
	if again := results(); again != first {
		t.Errorf("behind other calls the results %s are %s", first, again)
	}
}

// R1: a tree that is a Kid of its own has no end, but Print has one.
func TestPrintOfATreeInItself(t *testing.T) {
	l := make([]api.Tree, 2)
	l[0], l[1] = number(1), api.Tree{Kind: 3, Kids: l}
	if b, err := Print(l[1]); err != api.ErrDeep || len(b) != 0 {
		t.Errorf("Print = %s, %d", show(b), err)
	}
}

// R1: as many levels, elements and digits as the document allows make nothing panic, and take no time that grows with the square.
func TestGreatInputs(t *testing.T) {
	const count = 1<<16 - 1
	expectPrint(t, "lists", chain(count, number(1)), api.ErrDeep)
	expectPrint(t, "dictionaries", dicts(count, number(1)), api.ErrDeep)
	for _, unit := range []string{"l", "d", "i", "e", ":", "0", "1", "9", "-", "le", "de", "d0:", "d1:k", "i1e", "0:", "1:a", "1:", "\xff"} {
		checkParse(t, strings.Repeat(unit, 1<<17))
		checkParse(t, "l"+strings.Repeat(unit, 1<<17))
		checkParse(t, "l"+strings.Repeat(unit, 1<<17)+"e")
		checkParse(t, "i"+strings.Repeat(unit, 1<<17)+"e")
		checkParse(t, "1"+strings.Repeat(unit, 1<<17)+":")
		checkParse(t, "d"+strings.Repeat(unit, 1<<17)+":")
	}
	wide, tall := list(), dict(nil)
	for i := range 1 << 17 {
		wide.Kids = append(wide.Kids, number(int64(i)))
		tall.Keys = append(tall.Keys, fmt.Sprintf("%09d", i))
		tall.Kids = append(tall.Kids, list(text("v")))
	}
	for name, x := range map[string]api.Tree{"a list of many": wide, "a dictionary of many": tall, "both": list(wide, tall), "far down": chain(5, tall)} {
		b, err := Print(x)
		if err != api.OK {
			t.Errorf("%s: Print = %d", name, err)
		}
		if got, err := Parse(b); err != api.OK || !same(got, x) {
			t.Errorf("%s: Parse = %d", name, err)
		}
		if got, err := Parse(b[:len(b)-1]); err != api.ErrShort || !same(got, api.Tree{}) {
			t.Errorf("%s, cut off: Parse = %d", name, err)
		}
	}
}
