package tree

import (
	"bytes"
	"fmt"
	"math"
	"reflect"
	"slices"
	"strings"
	"testing"

	"annulet/api"
)

// frame is the greatest length of a string, in the chapter's words.
const frame = 1 << 20

var (
	text20     = strings.Repeat("t", frame)
	text20more = strings.Repeat("t", frame+1)
)

// owned are the fields that a kind has, in the words of 11.3.
var owned = map[int][]string{1: {"N"}, 2: {"S"}, 3: {"Kids"}, 4: {"Keys", "Kids"}}

// ints are all the kinds, and what is none: the neighbours, numbers whose low bits are a kind's, the edges.
func ints() []int {
	return []int{1, 2, 3, 4, 0, 5, -1, 6, -4, 7, 8, 255, 257, 1<<16 + 2, 1<<32 + 1, 1<<32 + 4, -1<<32 + 3, math.MinInt, math.MinInt + 4, math.MaxInt}
}

// show keeps what a failed test prints short.
func show(v any) string {
	s := fmt.Sprintf("%+v", v)
	if len(s) > 400 {
		return s[:400] + " and more"
	}
	return s
}

// deep is a copy that shares nothing with t, and in which empty slices are nil.
func deep(t api.Tree) api.Tree {
	c := api.Tree{Kind: t.Kind, N: t.N, S: t.S}
	for _, k := range t.Keys {
		c.Keys = append(c.Keys, k)
	}
	for _, k := range t.Kids {
		c.Kids = append(c.Kids, deep(k))
	}
	return c
}

// same tells whether all fields are equal on all levels; an empty slice is equal to none (R3).
func same(a, b api.Tree) bool {
	return reflect.DeepEqual(deep(a), deep(b))
}

// spot is a tree and the level that it is on.
type spot struct {
	level int
	t     api.Tree
}

// spots are t and all trees in it, each ahead of its Kids, the Kids in order.
func spots(t api.Tree) []spot {
	var l []spot
	for todo := []spot{{1, t}}; len(todo) > 0; {
		s := todo[len(todo)-1]
		todo = todo[:len(todo)-1]
		l = append(l, s)
		for i := len(s.t.Kids) - 1; i >= 0; i-- {
			todo = append(todo, spot{s.level + 1, s.t.Kids[i]})
		}
	}
	return l
}

// levels follows the words of 11.2.
func levels(t api.Tree) int {
	most := 0
	for _, s := range spots(t) {
		most = max(most, s.level)
	}
	return most
}

// isZero tells whether the field of that name is zero; an empty slice is zero too.
func isZero(t api.Tree, field string) bool {
	f := reflect.ValueOf(t).FieldByName(field)
	if f.Kind() == reflect.Slice {
		return f.Len() == 0
	}
	return f.IsZero()
}

// faults follows the words of 11.3 on a single tree: all errors that apply, in the order of the list.
func faults(s spot) []api.Errno {
	var l []api.Errno
	add := func(err api.Errno, applies bool) {
		if applies {
			l = append(l, err)
		}
	}
	add(api.ErrDeep, s.level > 8)
	fields, known := owned[s.t.Kind]
	add(api.ErrKind, !known)
	for _, f := range []string{"N", "S", "Keys", "Kids"} {
		add(api.ErrArg, !slices.Contains(fields, f) && !isZero(s.t, f))
	}
	add(api.ErrArg, s.t.Kind == 4 && len(s.t.Kids) != len(s.t.Keys))
	add(api.ErrLong, len(s.t.S) > frame)
	for _, k := range s.t.Keys {
		add(api.ErrLong, len(k) > frame)
	}
	for i := range s.t.Keys {
		add(api.ErrForm, i > 0 && bytes.Compare([]byte(s.t.Keys[i-1]), []byte(s.t.Keys[i])) >= 0)
	}
	return l
}

// right follows the words of 11.3 on a tree with its Kids.
func right(t api.Tree) api.Errno {
	for _, s := range spots(t) {
		if l := faults(s); len(l) > 0 {
			return l[0]
		}
	}
	return api.OK
}

// set follows the words of 11.1.
func set(t api.Tree, key string, x api.Tree) api.Tree {
	t = deep(t)
	if t.Kind != 4 || len(t.Keys) != len(t.Kids) {
		return t
	}
	for i, k := range t.Keys {
		if k == key {
			t.Kids[i] = deep(x)
			return t
		}
	}
	n := api.Tree{Kind: t.Kind, N: t.N, S: t.S}
	done := false
	for i, k := range t.Keys {
		if !done && bytes.Compare([]byte(k), []byte(key)) > 0 {
			n.Keys, n.Kids, done = append(n.Keys, key), append(n.Kids, deep(x)), true
		}
		n.Keys, n.Kids = append(n.Keys, k), append(n.Kids, t.Kids[i])
	}
	if !done {
		n.Keys, n.Kids = append(n.Keys, key), append(n.Kids, deep(x))
	}
	return n
}

// get follows the words of 11.1.
func get(t api.Tree, key string) (api.Tree, bool) {
	for i, k := range t.Keys {
		if t.Kind == 4 && k == key {
			if i < len(t.Kids) {
				return deep(t.Kids[i]), true
			}
			return api.Tree{}, false
		}
	}
	return api.Tree{}, false
}

// cells are the places of all elements of all slices of t, on all levels, those of the spare capacity too.
func cells(t api.Tree) []any {
	var l []any
	for i := range t.Keys[:cap(t.Keys)] {
		l = append(l, &t.Keys[:cap(t.Keys)][i])
	}
	for i := range t.Kids[:cap(t.Kids)] {
		l = append(l, &t.Kids[:cap(t.Kids)][i])
	}
	for _, k := range t.Kids {
		l = append(l, cells(k)...)
	}
	return l
}

// isNew tells whether a result shares no memory with an argument, and no two slices of it share any (R4).
func isNew(result api.Tree, args ...api.Tree) bool {
	taken := map[any]int{}
	for _, a := range args {
		for _, c := range cells(a) {
			taken[c] = 1
		}
	}
	for _, c := range cells(result) {
		if taken[c] > 0 {
			return false
		}
		taken[c] = 1
	}
	return true
}

// whole is a copy of t with its spare capacity as if that were a part of it.
func whole(t api.Tree) api.Tree {
	c := api.Tree{Kind: t.Kind, N: t.N, S: t.S}
	c.Keys = slices.Clone(t.Keys[:cap(t.Keys)])
	for _, k := range t.Kids[:cap(t.Kids)] {
		c.Kids = append(c.Kids, whole(k))
	}
	return c
}

// roomy is a copy of t with slices that have spare capacity, and something in it.
func roomy(t api.Tree) api.Tree {
	c := api.Tree{Kind: t.Kind, N: t.N, S: t.S}
	c.Keys = append(slices.Clone(t.Keys), "spare", "spare")[:len(t.Keys)]
	for _, k := range t.Kids {
		c.Kids = append(c.Kids, roomy(k))
	}
	c.Kids = append(c.Kids, api.Tree{Kind: 77}, api.Tree{Kind: 78, Kids: []api.Tree{{Kind: 79}}})[:len(t.Kids)]
	return c
}

// spoil changes all that the slices of t lead to, on all levels.
func spoil(t api.Tree) {
	for _, k := range t.Kids {
		spoil(k)
	}
	for i := range t.Keys[:cap(t.Keys)] {
		t.Keys[:cap(t.Keys)][i] = "spoilt"
	}
	for i := range t.Kids[:cap(t.Kids)] {
		t.Kids[:cap(t.Kids)][i] = api.Tree{Kind: 77, N: 77, S: "spoilt"}
	}
}

// The trees that the tests build are written out, so that they do not hang on what is tested.
func number(n int64) api.Tree                 { return api.Tree{Kind: 1, N: n} }
func text(s string) api.Tree                  { return api.Tree{Kind: 2, S: s} }
func list(l ...api.Tree) api.Tree             { return api.Tree{Kind: 3, Kids: l} }
func keys(l ...string) []string               { return l }
func kids(l ...api.Tree) []api.Tree           { return l }
func dict(k []string, l ...api.Tree) api.Tree { return api.Tree{Kind: 4, Keys: k, Kids: l} }

// counted is a dictionary with those keys and the values 1, 2 and so on.
func counted(l ...string) api.Tree {
	t := api.Tree{Kind: 4, Keys: l}
	for i := range l {
		t.Kids = append(t.Kids, number(int64(i+1)))
	}
	return t
}

// chain is leaf within count lists.
func chain(count int, leaf api.Tree) api.Tree {
	for range count {
		leaf = list(leaf)
	}
	return leaf
}

// dicts is leaf within count dictionaries.
func dicts(count int, leaf api.Tree) api.Tree {
	for range count {
		leaf = dict(keys("k"), leaf)
	}
	return leaf
}

// someKids are slices of trees: empty ones, valid and faulty ones, and such that have Kids.
func someKids() [][]api.Tree {
	return [][]api.Tree{
		nil, {}, {number(1)}, {{}}, {text("x"), number(-2)}, {{Kind: 5}, {Kind: 1, S: "no"}}, {text("\xff"), list(), counted()},
		{list(number(1), list(text("deep"))), counted("k"), number(3)},
		{counted("b", "a"), list(api.Tree{}), dict(keys("k"))},
	}
}

// eachTree calls check with all kinds beside all choices of the fields, and with some trees of more levels.
func eachTree(check func(api.Tree)) {
	someKeys := [][]string{nil, {}, {""}, {"a"}, {"a", "b"}, {"b", "a"}, {"a", "a"}, {"a", "b", "c"}, {"b", "\xff", "a"}}
	for _, kind := range ints() {
		for _, n := range []int64{0, 1, math.MinInt64} {
			for _, s := range []string{"", "a", "\xff"} {
				for _, k := range someKeys {
					for _, l := range someKids() {
						check(api.Tree{Kind: kind, N: n, S: s, Keys: k, Kids: l})
					}
				}
			}
		}
	}
	for _, t := range deepTrees() {
		check(t)
	}
}

// deepTrees are trees around the limit of levels, with leaves that are valid or not.
func deepTrees() []api.Tree {
	var l []api.Tree
	for count := range 11 {
		for _, leaf := range []api.Tree{number(1), text("t"), list(), counted(), counted("a", "b"), {}, {Kind: 5, Kids: kids(number(1))}, {Kind: 2, N: 1}, counted("b", "a"), dict(keys("a", "b"), number(1))} {
			for _, t := range []api.Tree{chain(count, leaf), dicts(count, leaf), chain(count/2, dicts(count-count/2, leaf))} {
				l = append(l, t, list(number(1), t, text("x")), dict(keys("a", "b"), t, number(2)), list(t, api.Tree{}), list(counted("x", "x"), t))
			}
		}
	}
	return l
}

// checkSet holds Set to the chapter's words, and to R4.
func checkSet(t *testing.T, d api.Tree, key string, x api.Tree) {
	t.Helper()
	wantD, wantX := whole(d), whole(x)
	got := Set(d, key, x)
	if want := set(d, key, x); !same(got, want) {
		t.Fatalf("Set(%s, %q, %s) = %s, want %s", show(d), key, show(x), show(got), show(want))
	}
	if !isNew(got, d, x) {
		t.Fatalf("Set(%s, %q, %s) is no new memory", show(d), key, show(x))
	}
	if !reflect.DeepEqual(whole(d), wantD) || !reflect.DeepEqual(whole(x), wantX) {
		t.Fatalf("Set(%s, %q, %s) changed an argument", show(wantD), key, show(wantX))
	}
}

// checkGet holds Get to the chapter's words, and to R4.
func checkGet(t *testing.T, d api.Tree, key string) {
	t.Helper()
	before := whole(d)
	got, ok := Get(d, key)
	if want, wantOK := get(d, key); ok != wantOK || !same(got, want) {
		t.Fatalf("Get(%s, %q) = %s, %t, want %s, %t", show(d), key, show(got), ok, show(want), wantOK)
	}
	if !isNew(got, d) {
		t.Fatalf("Get(%s, %q) is no new memory", show(d), key)
	}
	if !reflect.DeepEqual(whole(d), before) {
		t.Fatalf("Get(%s, %q) changed its argument", show(before), key)
	}
}

// expectRight holds Right to an error that is written out, which the chapter's words yield too.
func expectRight(t *testing.T, name string, x api.Tree, want api.Errno) {
	t.Helper()
	if got := Right(x); got != want {
		t.Errorf("%s: Right(%s) = %d, want %d", name, show(x), got, want)
	}
	if words := right(x); words != want {
		t.Errorf("%s: by the words Right(%s) is %d, but it is written here as %d", name, show(x), words, want)
	}
}

// 11.1: integers up to the edges; no other field is set.
func TestInt(t *testing.T) {
	for _, n := range []int64{0, 1, -1, 5, 255, 256, -256, math.MaxInt32, math.MaxInt32 + 1, math.MinInt32 - 1, math.MaxInt64, math.MaxInt64 - 1, math.MinInt64, math.MinInt64 + 1} {
		if got := Int(n); !same(got, api.Tree{Kind: api.TInt, N: n}) {
			t.Errorf("Int(%d) = %s", n, show(got))
		}
	}
}

// 11.1: strings of any bytes and of any length, the empty one too; no other field is set.
func TestText(t *testing.T) {
	for _, s := range []string{"", "a", "ab", "\x00", " ", "\xff", "\xc3", "\xed\xa0\x80", "a\x80b", "\u20ac", "12", "\n", text20, text20more} {
		if got := Text(s); !same(got, api.Tree{Kind: api.TText, S: s}) {
			t.Errorf("Text(%s) = %s", show(s), show(got))
		}
	}
}

// 11.1, R4: nil lists, empty ones, and ones with elements of all kinds, also such that are not valid; the result is new memory on all levels.
func TestList(t *testing.T) {
	for _, l := range append(someKids(), deepTrees(), make([]api.Tree, 5), make([]api.Tree, 0, 5), make([]api.Tree, 100000)) {
		before := whole(api.Tree{Kids: l})
		got := List(l)
		if !same(got, api.Tree{Kind: api.TList, Kids: l}) {
			t.Errorf("List(%s) = %s", show(l), show(got))
		}
		if !isNew(got, api.Tree{Kids: l}) {
			t.Errorf("List(%s) is no new memory", show(l))
		}
		want := deep(got)
		spoil(api.Tree{Kids: l})
		if !same(got, want) {
			t.Errorf("a change of its argument changed List(%s)", show(before.Kids))
		}
	}
}

// 11.1: a dictionary without keys; each one is a new one.
func TestDict(t *testing.T) {
	if got := Dict(); !same(got, api.Tree{Kind: api.TDict}) {
		t.Errorf("Dict() = %s", show(got))
	}
	spoil(Set(Dict(), "k", number(1)))
	if got := Dict(); !same(got, api.Tree{Kind: 4}) {
		t.Errorf("behind a Set Dict() = %s", show(got))
	}
}

// 11.1: the chapter's example.
func TestExampleOfGet(t *testing.T) {
	if got, ok := Get(Set(Dict(), "k", Int(5)), "k"); !ok || !same(got, number(5)) {
		t.Errorf("Get = %s, %t", show(got), ok)
	}
	if got, ok := Get(Dict(), "k"); ok || !same(got, api.Tree{}) {
		t.Errorf("Get in an empty dictionary = %s, %t", show(got), ok)
	}
}

// 11.1: dictionaries that are written out here, before and after.
func TestSet(t *testing.T) {
	x := list(text("new"))
	for _, c := range []struct {
		name string
		d    api.Tree
		key  string
		want api.Tree
	}{
		{"an empty dictionary", dict(nil), "k", dict(keys("k"), x)},
		{"an empty dictionary, the empty key", dict(keys()), "", dict(keys(""), x)},
		{"the only key", counted("k"), "k", dict(keys("k"), x)},
		{"the first key", counted("a", "b", "c"), "a", dict(keys("a", "b", "c"), x, number(2), number(3))},
		{"a key in the middle", counted("a", "b", "c"), "b", dict(keys("a", "b", "c"), number(1), x, number(3))},
		{"the last key", counted("a", "b", "c"), "c", dict(keys("a", "b", "c"), number(1), number(2), x)},
		{"the empty key, which is there", counted("", "b"), "", dict(keys("", "b"), x, number(2))},
		{"a key twice", counted("a", "b", "b"), "b", dict(keys("a", "b", "b"), number(1), x, number(3))},
		{"a key twice, with others between", counted("b", "z", "a", "b"), "b", dict(keys("b", "z", "a", "b"), x, number(2), number(3), number(4))},
		{"ahead of all", counted("b", "d"), "a", dict(keys("a", "b", "d"), x, number(1), number(2))},
		{"the empty key ahead of all", counted("b", "d"), "", dict(keys("", "b", "d"), x, number(1), number(2))},
		{"between two", counted("b", "d"), "c", dict(keys("b", "c", "d"), number(1), x, number(2))},
		{"behind all", counted("b", "d"), "e", dict(keys("b", "d", "e"), number(1), number(2), x)},
		{"behind the empty key", counted(""), "\x00", dict(keys("", "\x00"), number(1), x)},
		{"behind the key it begins with", counted("a", "b"), "ab", dict(keys("a", "ab", "b"), number(1), x, number(2))},
		{"ahead of the key that begins with it", counted("aa", "ab"), "a", dict(keys("a", "aa", "ab"), x, number(1), number(2))},
		{"between a key and one that begins with it", counted("a", "aaa"), "aa", dict(keys("a", "aa", "aaa"), number(1), x, number(2))},
		{"a zero byte behind a key", counted("a", "b"), "a\x00", dict(keys("a", "a\x00", "b"), number(1), x, number(2))},
		{"128 is greater than 127", counted("\x7f"), "\x80", dict(keys("\x7f", "\x80"), number(1), x)},
		{"127 is less than 128", counted("\x80"), "\x7f", dict(keys("\x7f", "\x80"), x, number(1))},
		{"255 is greater than all", counted("a", "\xfe"), "\xff", dict(keys("a", "\xfe", "\xff"), number(1), number(2), x)},
		{"bytes, not runes", counted("\xee\x80\x80", "\xf0\x90\x80\x80"), "\xef\xbf\xbd", dict(keys("\xee\x80\x80", "\xef\xbf\xbd", "\xf0\x90\x80\x80"), number(1), x, number(2))},
		{"stray bytes are no replacement runes", counted("\xef\xbf\xbd"), "\xff", dict(keys("\xef\xbf\xbd", "\xff"), number(1), x)},
		{"upper case ahead of lower", counted("a"), "B", dict(keys("B", "a"), x, number(1))},
		{"no numbers", counted("10", "9"), "2", dict(keys("10", "2", "9"), number(1), x, number(2))},
		{"keys that fall: ahead of the first greater one", counted("d", "b"), "c", dict(keys("c", "d", "b"), x, number(1), number(2))},
		{"keys that fall: a greater one behind lesser ones", counted("b", "a", "d", "c"), "c5", dict(keys("b", "a", "c5", "d", "c"), number(1), number(2), x, number(3), number(4))},
		{"keys that fall: behind all", counted("c", "b", "a"), "d", dict(keys("c", "b", "a", "d"), number(1), number(2), number(3), x)},
		{"keys that fall: an equal one behind a greater one", counted("d", "b"), "b", dict(keys("d", "b"), number(1), x)},
		{"keys that are equal: ahead of the first greater one", counted("b", "b"), "a", dict(keys("a", "b", "b"), x, number(1), number(2))},
		{"keys that are equal: behind all", counted("b", "b"), "c", dict(keys("b", "b", "c"), number(1), number(2), x)},
		{"a dictionary with fields it does not have", api.Tree{Kind: 4, N: 7, S: "s"}, "k", api.Tree{Kind: 4, N: 7, S: "s", Keys: keys("k"), Kids: kids(x)}},
		{"more Kids than Keys", dict(keys("a"), number(1), number(2)), "a", dict(keys("a"), number(1), number(2))},
		{"more Kids than Keys, another key", dict(keys("a"), number(1), number(2)), "b", dict(keys("a"), number(1), number(2))},
		{"fewer Kids than Keys", dict(keys("a", "b"), number(1)), "a", dict(keys("a", "b"), number(1))},
		{"fewer Kids than Keys, another key", dict(keys("a", "b"), number(1)), "c", dict(keys("a", "b"), number(1))},
		{"Keys without Kids", dict(keys("a")), "a", dict(keys("a"))},
		{"Kids without Keys", dict(nil, number(1)), "a", dict(nil, number(1))},
		{"an integer", number(5), "k", number(5)},
		{"a string", text("k"), "k", text("k")},
		{"an empty list", list(), "k", list()},
		{"a list", list(number(1)), "k", list(number(1))},
		{"a zero tree", api.Tree{}, "k", api.Tree{}},
		{"a list with keys", api.Tree{Kind: 3, Keys: keys("k"), Kids: kids(number(1))}, "k", api.Tree{Kind: 3, Keys: keys("k"), Kids: kids(number(1))}},
		{"an unknown kind with keys", api.Tree{Kind: 5, Keys: keys("k"), Kids: kids(number(1))}, "k", api.Tree{Kind: 5, Keys: keys("k"), Kids: kids(number(1))}},
	} {
		if got := Set(c.d, c.key, x); !same(got, c.want) {
			t.Errorf("%s: Set(%s, %q, x) = %s, want %s", c.name, show(c.d), c.key, show(got), show(c.want))
		}
		checkSet(t, c.d, c.key, x)
		checkSet(t, roomy(c.d), c.key, roomy(x))
	}
}

// 11.1, R6: all kinds and fields beside each other, by the chapter's words; values of all kinds.
func TestSetFollowsWords(t *testing.T) {
	values := append(deepTrees()[:40], number(1), text(""), list(), dict(nil), api.Tree{}, api.Tree{Kind: 9, Keys: keys("k")})
	i := 0
	eachTree(func(d api.Tree) {
		for _, key := range []string{"", "a", "b", "ab", "c", "\xff"} {
			checkSet(t, d, key, values[i%len(values)])
			i++
		}
	})
}

// someKeys are strings that are close to each other byte by byte.
var someKeys = []string{"", "\x00", "a", "a\x00", "ab", "b", "\x7f", "\x80", "\xff"}

// eachKeys calls check with all lists of up to three of someKeys, in any order.
func eachKeys(check func([]string)) {
	lists := [][]string{nil}
	for size := 0; size <= 3; size++ {
		var longer [][]string
		for _, l := range lists {
			check(l)
			for _, k := range someKeys {
				longer = append(longer, append(slices.Clone(l), k))
			}
		}
		lists = longer
	}
}

// 11.1: all lists of up to three keys, whether they rise, fall or repeat, and each key that is near to them.
func TestSetAndGetOfAllKeys(t *testing.T) {
	eachKeys(func(l []string) {
		for _, key := range append(someKeys, "aa", "\x01", "c", "\xff\xff") {
			checkSet(t, counted(l...), key, text("x"))
			checkGet(t, counted(l...), key)
			for count := range 5 {
				checkGet(t, api.Tree{Kind: 4, Keys: l, Kids: []api.Tree{text("a"), text("b"), text("c"), text("d")}[:count]}, key)
			}
		}
	})
}

// 11.1: keys are put in in any order and lie in rising order; what is set again takes no new place.
func TestSetManyKeys(t *testing.T) {
	const count = 500
	d := Dict()
	for i := range 2 * count {
		d = Set(d, fmt.Sprintf("%03d", i*373%count), number(int64(i)))
	}
	if len(d.Keys) != count || len(d.Kids) != count || Right(d) != api.OK {
		t.Fatalf("%d keys and %d kids, Right = %d", len(d.Keys), len(d.Kids), Right(d))
	}
	for i := count; i < 2*count; i++ {
		if x, ok := Get(d, fmt.Sprintf("%03d", i*373%count)); !ok || !same(x, number(int64(i))) {
			t.Fatalf("%d: Get = %s, %t", i, show(x), ok)
		}
	}
}

// 11.1, R4: a dictionary is put into itself, a part of it is put into it, and it is put into its own part.
func TestSetOfItself(t *testing.T) {
	d := dict(keys("a", "b"), counted("k"), list(text("x"), number(1)))
	for _, key := range []string{"", "a", "ab", "b", "c"} {
		checkSet(t, d, key, d)
		checkSet(t, d, key, d.Kids[0])
		checkSet(t, d, key, d.Kids[1])
		checkSet(t, d.Kids[0], key, d)
	}
	twice := Set(d, "c", d)
	for i := range twice.Kids {
		before := deep(twice)
		spoil(twice.Kids[i])
		for j := range twice.Kids {
			if j != i && !same(twice.Kids[j], before.Kids[j]) {
				t.Errorf("a change below %d changed what is below %d", i, j)
			}
		}
		twice = Set(d, "c", d)
	}
}

// 11.1: values that are written out here; a zero tree beside a false.
func TestGet(t *testing.T) {
	nothing := api.Tree{}
	for _, c := range []struct {
		name string
		d    api.Tree
		key  string
		want api.Tree
		ok   bool
	}{
		{"an empty dictionary", dict(nil), "k", nothing, false},
		{"an empty dictionary, the empty key", dict(keys()), "", nothing, false},
		{"the only key", counted("k"), "k", number(1), true},
		{"the first key", counted("a", "b", "c"), "a", number(1), true},
		{"a key in the middle", counted("a", "b", "c"), "b", number(2), true},
		{"the last key", counted("a", "b", "c"), "c", number(3), true},
		{"the empty key", counted("", "b"), "", number(1), true},
		{"the empty key, which is not there", counted("a"), "", nothing, false},
		{"a key ahead of all", counted("b", "d"), "a", nothing, false},
		{"a key between two", counted("b", "d"), "c", nothing, false},
		{"a key behind all", counted("b", "d"), "e", nothing, false},
		{"a key twice", counted("a", "b", "b"), "b", number(2), true},
		{"a key twice, with others between", counted("b", "z", "a", "b"), "b", number(1), true},
		{"keys that fall", counted("c", "b", "a"), "a", number(3), true},
		{"keys that fall: not there", counted("c", "a"), "b", nothing, false},
		{"a key that begins with it", counted("ab"), "a", nothing, false},
		{"a key it begins with", counted("a"), "ab", nothing, false},
		{"keys of which one begins with the other", counted("a", "ab", "abc"), "ab", number(2), true},
		{"a key with a zero byte", counted("a", "a\x00"), "a\x00", number(2), true},
		{"another case", counted("K"), "k", nothing, false},
		{"bytes from 128 on", counted("\x7f", "\x80", "\xff"), "\x80", number(2), true},
		{"stray bytes are not equal", counted("\xfe"), "\xff", nothing, false},
		{"a stray byte is no replacement rune", counted("\xef\xbf\xbd"), "\xff", nothing, false},
		{"a value that has values", dict(keys("a", "d"), list(number(1)), counted("x", "y")), "d", counted("x", "y"), true},
		{"a key of a value", dict(keys("d"), counted("x")), "x", nothing, false},
		{"a value that is a zero tree", dict(keys("k"), nothing), "k", nothing, true},
		{"a value that is not valid", dict(keys("k"), api.Tree{Kind: 9, N: 1, S: "s", Keys: keys("x")}), "k", api.Tree{Kind: 9, N: 1, S: "s", Keys: keys("x")}, true},
		{"a dictionary with fields it does not have", api.Tree{Kind: 4, N: 7, S: "s", Keys: keys("k"), Kids: kids(number(1))}, "k", number(1), true},
		{"Keys without Kids", dict(keys("k")), "k", nothing, false},
		{"Kids without Keys", dict(nil, number(1)), "", nothing, false},
		{"fewer Kids, a key with one", dict(keys("a", "b"), number(1)), "a", number(1), true},
		{"fewer Kids, a key without one", dict(keys("a", "b"), number(1)), "b", nothing, false},
		{"fewer Kids, a key twice, the first with one", dict(keys("a", "a"), number(1)), "a", number(1), true},
		{"fewer Kids, a key twice, both without", dict(keys("x", "a", "a"), number(1)), "a", nothing, false},
		{"more Kids", dict(keys("a"), number(1), number(2)), "a", number(1), true},
		{"more Kids, another key", dict(keys("a"), number(1), number(2)), "b", nothing, false},
		{"an integer", number(5), "k", nothing, false},
		{"a string", text("k"), "k", nothing, false},
		{"a list", list(number(1)), "", nothing, false},
		{"a zero tree", nothing, "", nothing, false},
	} {
		if got, ok := Get(c.d, c.key); ok != c.ok || !same(got, c.want) {
			t.Errorf("%s: Get(%s, %q) = %s, %t, want %s, %t", c.name, show(c.d), c.key, show(got), ok, show(c.want), c.ok)
		}
		checkGet(t, roomy(c.d), c.key)
	}
	for _, kind := range ints() {
		d := api.Tree{Kind: kind, Keys: keys("k"), Kids: kids(number(1))}
		if got, ok := Get(d, "k"); ok != (kind == 4) || ok != same(got, number(1)) || !ok && !same(got, nothing) {
			t.Errorf("Get(%s, k) = %s, %t", show(d), show(got), ok)
		}
	}
}

// 11.1, R6: all kinds and fields beside each other, by the chapter's words.
func TestGetFollowsWords(t *testing.T) {
	eachTree(func(d api.Tree) {
		for _, key := range []string{"", "a", "b", "c", "k", "\xff"} {
			checkGet(t, d, key)
		}
	})
}

// 11.2: the chapter's examples, and trees whose levels are counted here.
func TestDepth(t *testing.T) {
	three := list(list(list()))
	for _, c := range []struct {
		name string
		t    api.Tree
		want int
	}{
		{"an empty list", list(), 1},
		{"a list that contains it", list(list()), 2},
		{"a zero tree", api.Tree{}, 1},
		{"an integer", number(5), 1},
		{"a string", text("ab"), 1},
		{"an empty dictionary", dict(nil), 1},
		{"an empty slice of Kids", api.Tree{Kind: 3, Kids: kids()}, 1},
		{"Keys alone are no level", dict(keys("a", "b")), 1},
		{"one Kid", list(number(1)), 2},
		{"several Kids", list(number(1), text("a"), number(2)), 2},
		{"many Kids", list(make([]api.Tree, 1000)...), 2},
		{"a dictionary with values", counted("a", "b"), 2},
		{"the deepest first", list(three, number(1), list()), 4},
		{"the deepest in the middle", list(list(), three, number(1)), 4},
		{"the deepest last", list(number(1), list(list()), three), 4},
		{"the deepest twice", list(three, three), 4},
		{"the deepest last, on each level", list(number(1), list(number(1), list(number(1), list(number(1))))), 5},
		{"dictionaries and lists", dict(keys("k", "l"), list(), list(counted("x"))), 4},
		{"eight levels", chain(7, number(1)), 8},
		{"nine levels", chain(8, number(1)), 9},
		{"nine levels of dictionaries", dicts(8, dict(nil)), 9},
		{"Kids of a kind that has none", api.Tree{Kind: 1, Kids: kids(number(1))}, 2},
		{"Kids of an unknown kind", api.Tree{Kind: 5, Kids: kids(api.Tree{Kind: -1, Kids: kids(api.Tree{})})}, 3},
		{"Kids of a zero kind", api.Tree{Kids: kids(api.Tree{})}, 2},
		{"a dictionary with more Kids than Keys", dict(nil, three), 4},
		{"300 levels", chain(299, text("")), 300},
	} {
		if got := Depth(c.t); got != c.want || levels(c.t) != c.want {
			t.Errorf("%s: Depth(%s) = %d, want %d", c.name, show(c.t), got, c.want)
		}
	}
}

// 11.2, R4, R6: all kinds and fields beside each other, by the chapter's words; spare capacity is no Kid.
func TestDepthFollowsWords(t *testing.T) {
	eachTree(func(x api.Tree) {
		for _, x := range []api.Tree{x, roomy(x)} {
			before := whole(x)
			if got, want := Depth(x), levels(x); got != want || !reflect.DeepEqual(whole(x), before) {
				t.Fatalf("Depth(%s) = %d, want %d; the argument is %s behind it", show(before), got, want, show(x))
			}
		}
	})
}

// 11.3: the chapter's examples, valid trees of each kind, and each of the errors.
func TestRight(t *testing.T) {
	for _, c := range []struct {
		name string
		t    api.Tree
		want api.Errno
	}{
		{"the chapter's string", text("a"), api.OK},
		{"a zero tree", api.Tree{}, api.ErrKind},
		{"an integer", number(5), api.OK},
		{"the integer 0", number(0), api.OK},
		{"the least integer", number(math.MinInt64), api.OK},
		{"the greatest integer", number(math.MaxInt64), api.OK},
		{"an empty string", text(""), api.OK},
		{"a string that is no UTF-8", text("\xff\x80"), api.OK},
		{"a list without Kids", list(), api.OK},
		{"a list with an empty slice", api.Tree{Kind: 3, Keys: keys(), Kids: kids()}, api.OK},
		{"a list", list(number(1), text("a"), list(), dict(nil)), api.OK},
		{"a list with equal Kids", list(number(1), number(1)), api.OK},
		{"a long list", list(slices.Repeat(kids(number(1)), 70000)...), api.OK},
		{"a dictionary without Keys", dict(nil), api.OK},
		{"a dictionary with empty slices", dict(keys(), kids()...), api.OK},
		{"a dictionary", counted("a", "b"), api.OK},
		{"a dictionary with the empty key", counted("", "\x00"), api.OK},
		{"keys that are no UTF-8", counted("\x7f", "\x80", "\xc3", "\xff"), api.OK},
		{"empty slices of an integer", api.Tree{Kind: 1, N: 1, Keys: keys(), Kids: kids()}, api.OK},
		{"empty slices of a string", api.Tree{Kind: 2, S: "a", Keys: keys(), Kids: kids()}, api.OK},
		{"the kind -1", api.Tree{Kind: -1}, api.ErrKind},
		{"the kind 5", api.Tree{Kind: 5}, api.ErrKind},
		{"an integer with S", api.Tree{Kind: 1, S: "a"}, api.ErrArg},
		{"an integer with Keys", api.Tree{Kind: 1, Keys: keys("")}, api.ErrArg},
		{"an integer with Kids", api.Tree{Kind: 1, Kids: kids(number(1))}, api.ErrArg},
		{"an integer with Keys and Kids", api.Tree{Kind: 1, Keys: keys("a"), Kids: kids(number(1))}, api.ErrArg},
		{"a string with N", api.Tree{Kind: 2, N: 1}, api.ErrArg},
		{"a string with a negative N", api.Tree{Kind: 2, S: "a", N: math.MinInt64}, api.ErrArg},
		{"a string with Keys", api.Tree{Kind: 2, S: "a", Keys: keys("")}, api.ErrArg},
		{"a string with Kids", api.Tree{Kind: 2, S: "a", Kids: kids(number(1))}, api.ErrArg},
		{"a string with Keys and Kids", api.Tree{Kind: 2, Keys: keys("a"), Kids: kids(number(1))}, api.ErrArg},
		{"a list with N", api.Tree{Kind: 3, N: -1}, api.ErrArg},
		{"a list with S", api.Tree{Kind: 3, S: "\x00"}, api.ErrArg},
		{"a list with Keys", api.Tree{Kind: 3, Keys: keys("")}, api.ErrArg},
		{"a list with Keys and Kids", api.Tree{Kind: 3, Keys: keys("a"), Kids: kids(number(1))}, api.ErrArg},
		{"a dictionary with N", api.Tree{Kind: 4, N: 1}, api.ErrArg},
		{"a dictionary with S", api.Tree{Kind: 4, S: "a", Keys: keys("a"), Kids: kids(number(1))}, api.ErrArg},
		{"a dictionary with Keys alone", dict(keys("a")), api.ErrArg},
		{"a dictionary with Kids alone", dict(nil, number(1)), api.ErrArg},
		{"fewer Kids than Keys", dict(keys("a", "b"), number(1)), api.ErrArg},
		{"more Kids than Keys", dict(keys("a"), number(1), number(2)), api.ErrArg},
		{"S of 2^20 bytes", text(text20), api.OK},
		{"S of 2^20 + 1 bytes", text(text20more), api.ErrLong},
		{"S of 2^20 bytes, fewer runes", text(strings.Repeat("\u00e9", frame/2)), api.OK},
		{"S of 2^20 + 2 bytes, fewer runes", text(strings.Repeat("\u00e9", frame/2+1)), api.ErrLong},
		{"a key of 2^20 bytes", counted(text20), api.OK},
		{"a key of 2^20 + 1 bytes", counted(text20more), api.ErrLong},
		{"a key of 2^20 + 1 bytes first", counted(text20more, "u"), api.ErrLong},
		{"a key of 2^20 + 1 bytes last", counted("a", "b", text20more), api.ErrLong},
		{"a key of 2^20 + 1 bytes in the middle", counted("a", text20more, "u"), api.ErrLong},
		{"two keys with more than 2^20 bytes together", counted("a"+text20[2:], text20), api.OK},
		{"Keys that are equal", counted("a", "a"), api.ErrForm},
		{"empty Keys that are equal", counted("", ""), api.ErrForm},
		{"Keys that fall", counted("b", "a"), api.ErrForm},
		{"Keys that fall to the empty one", counted("a", ""), api.ErrForm},
		{"Keys that fall at the end", counted("a", "b", "c", "b"), api.ErrForm},
		{"Keys that fall at the beginning", counted("b", "a", "c", "d"), api.ErrForm},
		{"Keys that are equal at the end", counted("a", "b", "c", "c"), api.ErrForm},
		{"Keys of which one begins with the other", counted("a", "ab", "abc"), api.OK},
		{"the same, falling", counted("ab", "a"), api.ErrForm},
		{"bytes from 128 on, rising", counted("a", "\x80"), api.OK},
		{"bytes from 128 on, falling", counted("\x80", "a"), api.ErrForm},
		{"no numbers", counted("9", "10"), api.ErrForm},
		{"long Keys that differ in the last byte alone", counted(text20[1:]+"a", text20[1:]+"b"), api.OK},
	} {
		expectRight(t, c.name, c.t, c.want)
		expectRight(t, c.name+", in a list", list(number(1), c.t, text("a")), c.want)
		expectRight(t, c.name+", in a dictionary", dict(keys("a", "b", "c"), number(1), text("a"), c.t), c.want)
		expectRight(t, c.name+", deep", dicts(3, chain(3, c.t)), c.want)
	}
}

// 11.3: every int that is no kind is refused as that, whatever the fields are.
func TestRightOfNoKind(t *testing.T) {
	for _, kind := range ints() {
		want := api.ErrKind
		if kind >= 1 && kind <= 4 {
			want = api.OK
		}
		expectRight(t, "an empty tree", api.Tree{Kind: kind}, want)
		if want == api.ErrKind {
			expectRight(t, "a full tree", api.Tree{Kind: kind, N: 1, S: text20more, Keys: keys("b", "a"), Kids: kids(number(1))}, want)
		}
	}
}

// 11.3: lists and dictionaries of 8 and of 9 levels; the deepest Kid is first, in the middle and last.
func TestRightOfLevels(t *testing.T) {
	for _, leaf := range []api.Tree{number(1), text("a"), list(), dict(nil)} {
		for name, nest := range map[string]func(int, api.Tree) api.Tree{"lists": chain, "dictionaries": dicts, "both": func(n int, x api.Tree) api.Tree { return chain(n/2, dicts(n-n/2, x)) }} {
			expectRight(t, "8 levels of "+name, nest(7, leaf), api.OK)
			for count := 8; count < 12; count++ {
				expectRight(t, "too many levels of "+name, nest(count, leaf), api.ErrDeep)
			}
			for levels, want := range map[int]api.Errno{6: api.OK, 7: api.ErrDeep, 8: api.ErrDeep} {
				x := nest(levels, leaf)
				expectRight(t, "the deepest first, "+name, list(x, number(1), list()), want)
				expectRight(t, "the deepest in the middle, "+name, list(number(1), x, list()), want)
				expectRight(t, "the deepest last, "+name, list(list(), number(1), x), want)
				expectRight(t, "a dictionary with the deepest last, "+name, dict(keys("a", "b"), number(1), x), want)
			}
		}
	}
	expectRight(t, "a list on level 8 with many Kids", chain(7, list(number(1), number(2))), api.ErrDeep)
	expectRight(t, "a list of many with 8 levels", list(slices.Repeat(kids(chain(6, number(1))), 50)...), api.OK)
	expectRight(t, "what is on level 9 may be anything", chain(8, api.Tree{Kind: 9, N: 1, S: text20more}), api.ErrDeep)
	expectRight(t, "many levels", chain(1000, number(1)), api.ErrDeep)
}

// 11.3, R2: a tree that has been given all faults gets the first error of the list, and without that the next one.
func TestRightOfSeveralFaults(t *testing.T) {
	wrong := func(x api.Tree, want api.Errno, below int) {
		expectRight(t, "a tree with faults", chain(below, x), want)
	}
	worst := api.Tree{Kind: 5, N: 1, S: text20more, Keys: keys(text20more, "a"), Kids: kids(api.Tree{})}
	wrong(worst, api.ErrDeep, 8)
	wrong(worst, api.ErrKind, 7)
	worst.Kind = 4
	wrong(worst, api.ErrArg, 7)
	worst.N = 0
	wrong(worst, api.ErrArg, 7)
	worst.S = ""
	wrong(worst, api.ErrArg, 7)
	worst.Kids = kids(api.Tree{}, number(1))
	wrong(worst, api.ErrLong, 7)
	worst.Keys = keys("b", "a")
	wrong(worst, api.ErrForm, 7)
	worst.Keys = keys("a", "b")
	wrong(worst, api.ErrDeep, 7)
	wrong(worst, api.ErrKind, 6)
	worst.Kids[0] = number(1)
	wrong(worst, api.ErrDeep, 7)
	wrong(worst, api.OK, 6)
	for _, c := range []struct {
		name string
		t    api.Tree
		want api.Errno
	}{
		{"a string with N that is too long", api.Tree{Kind: 2, N: 1, S: text20more}, api.ErrArg},
		{"an integer with a S that is too long", api.Tree{Kind: 1, S: text20more}, api.ErrArg},
		{"a list with Keys that are too long", api.Tree{Kind: 3, Keys: keys(text20more)}, api.ErrArg},
		{"numbers that differ, and a Key that is too long", dict(keys(text20more)), api.ErrArg},
		{"numbers that differ, and Keys that fall", dict(keys("b", "a"), number(1)), api.ErrArg},
		{"numbers that differ, and a Kid that has faults", dict(keys("a", "b"), api.Tree{}), api.ErrArg},
		{"Keys that fall ahead of one that is too long", counted("b", "a", text20more), api.ErrLong},
		{"equal Keys that are too long", counted(text20more, text20more), api.ErrLong},
	} {
		expectRight(t, c.name, c.t, c.want)
	}
}

// 11.3, R2: each tree comes before its Kids, and the Kids in order, with all that is below them.
func TestRightOfSeveralTrees(t *testing.T) {
	noKind, arg, long, form := api.Tree{}, api.Tree{Kind: 1, S: "a"}, text(text20more), counted("a", "a")
	tooDeep := chain(8, number(1))
	all := map[api.Errno]api.Tree{api.ErrKind: noKind, api.ErrArg: arg, api.ErrLong: long, api.ErrForm: form, api.ErrDeep: tooDeep}
	for first, x := range all {
		for _, y := range all {
			expectRight(t, "two faults in a list", list(x, y), first)
			expectRight(t, "two faults, with a good one ahead", list(number(1), x, number(2), y), first)
			expectRight(t, "two faults in a dictionary", dict(keys("a", "b"), x, y), first)
			expectRight(t, "a fault that is deeper is ahead", list(list(number(1), x), y), first)
			expectRight(t, "a fault that is deeper, with a good one behind it", list(list(x, number(1)), number(2), y), first)
			expectRight(t, "a fault that is less deep is ahead", list(x, list(y)), first)
		}
	}
	for _, x := range all {
		expectRight(t, "a kind that is none, with a Kid", api.Tree{Kids: kids(x)}, api.ErrKind)
		expectRight(t, "a string with a Kid", api.Tree{Kind: 2, Kids: kids(x)}, api.ErrArg)
		expectRight(t, "a Key that is too long, with a Kid", dict(keys(text20more), x), api.ErrLong)
		expectRight(t, "Keys that fall, with Kids", dict(keys("b", "a"), x, x), api.ErrForm)
		expectRight(t, "Keys that fall, in a Kid", list(dict(keys("b", "a"), x, x), x), api.ErrForm)
	}
}

// 11.3, R4, R6: all kinds and fields beside each other, by the chapter's words; spare capacity does not count.
func TestRightFollowsWords(t *testing.T) {
	eachTree(func(x api.Tree) {
		for _, x := range []api.Tree{x, roomy(x)} {
			before := whole(x)
			if got, want := Right(x), right(x); got != want || !reflect.DeepEqual(whole(x), before) {
				t.Fatalf("Right(%s) = %d, want %d; the argument is %s behind it", show(before), got, want, show(x))
			}
		}
	})
	eachKeys(func(l []string) {
		if got, want := Right(counted(l...)), right(counted(l...)); got != want {
			t.Fatalf("Right(%s) = %d, want %d", show(counted(l...)), got, want)
		}
	})
}

// 11.3, R1: a tree that is a Kid of its own has no end, but Right has one.
func TestRightOfATreeInItself(t *testing.T) {
	l := make([]api.Tree, 2)
	l[0], l[1] = number(1), api.Tree{Kind: 3, Kids: l}
	if got := Right(l[1]); got != api.ErrDeep {
		t.Errorf("Right = %d", got)
	}
}

// 11.4, R4: copies are equal on all levels, and new memory: what is written into one is not seen in the other.
func TestCopy(t *testing.T) {
	eachTree(func(x api.Tree) {
		for _, x := range []api.Tree{deep(x), roomy(x)} {
			before, want := whole(x), deep(x)
			first, second := Copy(x), Copy(x)
			if !same(first, want) || !Same(first, x) || !reflect.DeepEqual(whole(x), before) {
				t.Fatalf("Copy(%s) = %s", show(want), show(first))
			}
			if !isNew(first, x) || !isNew(second, x, first) {
				t.Fatalf("Copy(%s) is no new memory", show(want))
			}
			spoil(first)
			if !reflect.DeepEqual(whole(x), before) || !same(second, want) {
				t.Fatalf("a change of a copy changed %s or another copy", show(want))
			}
			spoil(x)
			if !same(second, want) {
				t.Fatalf("a change of %s changed its copy", show(want))
			}
		}
	})
}

// 11.4: a copy may be changed on any level, at any tree, without a trace in the original.
func TestCopyOnEachLevel(t *testing.T) {
	original := many()
	want := deep(original)
	for i := range nodes(&want) {
		c := Copy(original)
		n := nodes(&c)[i]
		for k := range n.Keys {
			n.Keys[k] += "x"
		}
		for k := range n.Kids {
			n.Kids[k].N++
		}
		n.Keys, n.Kids = append(n.Keys, "x"), append(n.Kids, number(1))
		if !same(original, want) {
			t.Fatalf("a change at the tree %d of a copy changed the original to %s", i, show(original))
		}
	}
}

// 11.4, R4: slices that the original shares with itself are separate ones in what is returned.
func TestResultsShareNothingWithin(t *testing.T) {
	part := list(counted("a", "b"), text("x"))
	l := kids(part, part, counted("k"), part.Kids[0])
	d := dict(keys("a", "b", "c", "d"), l...)
	twice := dict(keys("v"), d)
	value, _ := Get(twice, "v")
	for name, got := range map[string]api.Tree{"Copy": Copy(d), "Set": Set(d, "c", part), "Set of a new key": Set(d, "e", part), "Get": value, "List": List(l)} {
		if !isNew(got, d, part) {
			t.Errorf("%s: a slice is there twice, or is one of the arguments'", name)
		}
		before := deep(got)
		spoil(got.Kids[0])
		if !same(api.Tree{Kids: got.Kids[1:]}, api.Tree{Kids: before.Kids[1:]}) {
			t.Errorf("%s: a change of the first Kid is seen in another one", name)
		}
	}
}

// many is a valid tree of six levels, with all kinds on several of them.
func many() api.Tree {
	return dict(keys("a", "b", "c", "d"),
		list(number(1), text("x"), list(number(2), dict(keys("k", "l"), text("y"), list(number(3), text(""))))),
		number(4),
		text("z"),
		dict(keys("m"), dict(keys("n", "o"), list(), dict(nil))))
}

// nodes are the places of t and of all trees in it.
func nodes(t *api.Tree) []*api.Tree {
	l := []*api.Tree{t}
	for i := range t.Kids {
		l = append(l, nodes(&t.Kids[i])...)
	}
	return l
}

// changes each make one field of a tree another one; where one makes none, it says so.
var changes = map[string]func(*api.Tree) bool{
	"another Kind":                    func(t *api.Tree) bool { t.Kind++; return true },
	"no Kind":                         func(t *api.Tree) bool { t.Kind = 0; return true },
	"a Kind that differs high up":     func(t *api.Tree) bool { t.Kind += 1 << 40; return true },
	"another N":                       func(t *api.Tree) bool { t.N++; return true },
	"an N that differs in its sign":   func(t *api.Tree) bool { t.N ^= math.MinInt64; return true },
	"a longer S":                      func(t *api.Tree) bool { t.S += "\x00"; return true },
	"another S":                       func(t *api.Tree) bool { t.S = "S" + t.S; return true },
	"no S":                            func(t *api.Tree) bool { was := t.S; t.S = ""; return was != "" },
	"a Key more":                      func(t *api.Tree) bool { t.Keys = append(t.Keys, "z"); return true },
	"an empty Key more":               func(t *api.Tree) bool { t.Keys = append(t.Keys, ""); return true },
	"an empty Key ahead":              func(t *api.Tree) bool { t.Keys = append(keys(""), t.Keys...); return true },
	"a Kid more":                      func(t *api.Tree) bool { t.Kids = append(t.Kids, number(1)); return true },
	"a Kid more that is a zero tree":  func(t *api.Tree) bool { t.Kids = append(t.Kids, api.Tree{}); return true },
	"a Kid ahead that is a zero tree": func(t *api.Tree) bool { t.Kids = append(kids(api.Tree{}), t.Kids...); return true },
	"no Keys":                         func(t *api.Tree) bool { was := len(t.Keys); t.Keys = nil; return was > 0 },
	"no Kids":                         func(t *api.Tree) bool { was := len(t.Kids); t.Kids = nil; return was > 0 },
	"another first Key":               func(t *api.Tree) bool { return inKeys(t, 0, "A") },
	"another last Key":                func(t *api.Tree) bool { return inKeys(t, len(t.Keys)-1, "\xff") },
	"without the first Key":           func(t *api.Tree) bool { l := len(t.Keys); t.Keys = t.Keys[min(1, l):]; return l > 0 },
	"without the last Key":            func(t *api.Tree) bool { l := len(t.Keys); t.Keys = t.Keys[:max(0, l-1)]; return l > 0 },
	"without the first Kid":           func(t *api.Tree) bool { l := len(t.Kids); t.Kids = t.Kids[min(1, l):]; return l > 0 },
	"without the last Kid":            func(t *api.Tree) bool { l := len(t.Kids); t.Kids = t.Kids[:max(0, l-1)]; return l > 0 },
	"Keys the other way round":        func(t *api.Tree) bool { slices.Reverse(t.Keys); return len(t.Keys) > 1 },
	"Kids the other way round":        func(t *api.Tree) bool { slices.Reverse(t.Kids); return len(t.Kids) > 1 },
}

// inKeys changes one of the Keys, if there is one.
func inKeys(t *api.Tree, at int, key string) bool {
	if at < 0 || at >= len(t.Keys) {
		return false
	}
	t.Keys[at] = key
	return true
}

// 11.4: trees that differ in one field alone are not the same, on whatever level that is.
func TestSameOfDifferentTrees(t *testing.T) {
	original := many()
	for name, change := range changes {
		for i := range nodes(&original) {
			other := deep(original)
			if !change(nodes(&other)[i]) {
				continue
			}
			if same(original, other) {
				t.Fatalf("%s at the tree %d: the test makes no change", name, i)
			}
			if Same(original, other) || Same(other, original) {
				t.Errorf("%s at the tree %d: Same(%s, %s)", name, i, show(original), show(other))
			}
			if !Same(other, deep(other)) || !Same(Copy(other), other) {
				t.Errorf("%s at the tree %d: %s is not the same as its copy", name, i, show(other))
			}
		}
	}
}

// 11.4: all small trees beside each other, by the chapter's words.
func TestSameFollowsWords(t *testing.T) {
	l := []api.Tree{many(), chain(8, number(1)), chain(9, number(1)), dicts(8, number(1)), text("1"), list(text("ab")), list(text("a"), text("b")), list(list(text("a")), text("b")), list(text("a"), list(text("b")))}
	for _, kind := range []int{0, 1, 2, 3, 4, 5, -1} {
		for _, k := range [][]string{nil, {}, {""}, {"a"}, {"a", "b"}, {"b", "a"}, {"ab"}, {"a", ""}} {
			for _, c := range someKids()[:7] {
				l = append(l, api.Tree{Kind: kind, Keys: k, Kids: c}, api.Tree{Kind: kind, N: int64(kind), S: "s", Keys: k, Kids: c})
			}
		}
	}
	for _, a := range l {
		for _, b := range l {
			if got, want := Same(a, b), same(a, b); got != want {
				t.Fatalf("Same(%s, %s) = %t", show(a), show(b), got)
			}
		}
	}
}

// 11.4, R3: nil and empty slices are equal, on all levels, and capacities do not count.
func TestSameOfEmptySlices(t *testing.T) {
	for _, kind := range ints() {
		bare := api.Tree{Kind: kind}
		empties := []api.Tree{bare, {Kind: kind, Keys: keys()}, {Kind: kind, Kids: kids()}, {Kind: kind, Keys: make([]string, 0, 3), Kids: make([]api.Tree, 0, 3)}, roomy(bare)}
		for _, a := range empties {
			for _, b := range empties {
				for _, count := range []int{0, 1, 5} {
					if !Same(chain(count, a), chain(count, b)) || !Same(dicts(count, a), dicts(count, b)) || !Same(Copy(chain(count, a)), chain(count, b)) {
						t.Errorf("%d levels down, %s and %s are not the same", count, show(a), show(b))
					}
				}
			}
		}
	}
	if !Same(many(), roomy(many())) || !Same(roomy(many()), many()) {
		t.Error("spare capacity makes a difference")
	}
}

// 11.4, R4: Same changes neither argument.
func TestSameChangesNothing(t *testing.T) {
	a, b := roomy(many()), roomy(list(many(), many()))
	wantA, wantB := whole(a), whole(b)
	Same(a, b)
	Same(b, a)
	Same(a, a)
	if !reflect.DeepEqual(whole(a), wantA) || !reflect.DeepEqual(whole(b), wantB) {
		t.Error("an argument was changed")
	}
}

// 11.5: what is set is got; every other key and its value stay, whether the dictionary is valid or not.
func TestSetIsGot(t *testing.T) {
	values := []api.Tree{number(-1), text("x"), list(number(1)), many(), {}, {Kind: 9, S: "s"}}
	eachKeys(func(l []string) {
		for i, key := range someKeys {
			d, x := counted(l...), values[(i+len(l))%len(values)]
			after := Set(d, key, x)
			if got, ok := Get(after, key); !ok || !same(got, x) {
				t.Fatalf("Get of %q in Set(%s, %q, %s) = %s, %t", key, show(d), key, show(x), show(got), ok)
			}
			for _, other := range append(someKeys, "aa", "c") {
				was, wasThere := Get(d, other)
				is, isThere := Get(after, other)
				if other != key && (was.N != is.N || !same(was, is) || wasThere != isThere) {
					t.Fatalf("Set(%s, %q, x) changed the value of %q from %s to %s", show(d), key, other, show(was), show(is))
				}
			}
			grown := 1
			if slices.Contains(l, key) {
				grown = 0
			}
			if len(after.Keys) != len(l)+grown || len(after.Kids) != len(l)+grown || after.Kind != 4 {
				t.Fatalf("Set(%s, %q, x) = %s", show(d), key, show(after))
			}
		}
	})
}

// 11.5: a valid dictionary stays valid if the value, which is a level further on there, is valid; otherwise it has the value's error.
func TestSetStaysValid(t *testing.T) {
	values := deepTrees()
	for _, d := range []api.Tree{dict(nil), counted("b"), counted("a", "b", "c"), counted("", "a", "\xff"), many()} {
		if Right(d) != api.OK {
			t.Fatalf("%s is not valid", show(d))
		}
		for _, key := range append(someKeys, "bb", "c", text20) {
			for _, x := range values {
				after := Set(d, key, x)
				want := right(list(x))
				if got := Right(after); got != want {
					t.Fatalf("Right of Set(%s, %s, %s) = %d, want %d", show(d), show(key), show(x), got, want)
				}
				if Right(x) == api.OK && Depth(x) < 8 && Right(after) != api.OK {
					t.Fatalf("Set(%s, %s, %s) is not valid", show(d), show(key), show(x))
				}
			}
		}
	}
	expectRight(t, "a value of 7 levels", Set(Dict(), "k", chain(6, number(1))), api.OK)
	expectRight(t, "a value of 8 levels", Set(Dict(), "k", chain(7, number(1))), api.ErrDeep)
	expectRight(t, "a key of 2^20 bytes", Set(Dict(), text20, number(1)), api.OK)
	expectRight(t, "a key of 2^20 + 1 bytes", Set(Dict(), text20more, number(1)), api.ErrLong)
}

// R1: trees of as many levels as the document allows, and of as many Kids, make no function panic.
func TestGreatTrees(t *testing.T) {
	const count = 1<<16 - 1
	for name, x := range map[string]api.Tree{"lists": chain(count, number(1)), "dictionaries": dicts(count, number(1))} {
		c := Copy(x)
		if Depth(x) != count+1 || Depth(c) != count+1 || !Same(x, c) || Right(x) != api.ErrDeep {
			t.Errorf("%s: %d levels, %d of the copy, the same: %t, Right = %d", name, Depth(x), Depth(c), Same(x, c), Right(x))
		}
		if Same(x, c.Kids[0]) || Same(x, List(kids(x))) {
			t.Errorf("%s: trees with more and fewer levels are the same", name)
		}
		y, ok := Get(Set(Dict(), "k", x), "k")
		if !ok || !Same(x, y) || Depth(List(kids(x, y))) != count+2 {
			t.Errorf("%s: Get = %d levels, %t", name, Depth(y), ok)
		}
	}
	wide := list(make([]api.Tree, 1<<20)...)
	if Depth(wide) != 2 || Right(wide) != api.ErrKind || !Same(Copy(wide), wide) {
		t.Error("a list of many")
	}
}

// R4: what the caller does with a dictionary, a value or a result does not change what was returned.
func TestCallsKeepNothing(t *testing.T) {
	d, x := many(), list(counted("p", "q"), text("r"))
	want := set(d, "bb", x)
	after := Set(d, "bb", x)
	spoil(d)
	spoil(x)
	if !same(after, want) {
		t.Errorf("a change of an argument changed the result to %s", show(after))
	}
	first, _ := Get(after, "bb")
	second, _ := Get(after, "bb")
	spoil(first)
	if !same(after, want) || !same(second, list(counted("p", "q"), text("r"))) {
		t.Errorf("a change of a value that was got is seen in %s", show(after))
	}
	spoil(after)
	if !same(second, list(counted("p", "q"), text("r"))) {
		t.Errorf("a change of a dictionary is seen in a value of it that was got before")
	}
}

// R5: a result does not hang on the calls before it.
func TestCallsLeaveNothingBehind(t *testing.T) {
	results := func() string {
		x, ok := Get(many(), "a")
		return fmt.Sprint(Int(5), Text("a"), List(kids(number(1))), Dict(), Set(many(), "bb", text("x")), x, ok, Depth(many()), Right(many()), Right(api.Tree{}), Copy(many()), Same(many(), many()))
	}
	first := results()
	eachTree(func(x api.Tree) {
		if x.N != 0 || x.S != "" {
			return
		}
		spoil(Set(x, "a", x))
		spoil(Copy(x))
		v, _ := Get(x, "a")
		spoil(v)
		spoil(List(kids(x)))
		spoil(Dict())
		if Depth(x); Right(x) == api.OK && !Same(x, x) {
			t.Fatalf("%s is not the same as itself", show(x))
		}
	})
	if again := results(); again != first {
		t.Errorf("behind other calls the results %s are %s", first, again)
	}
}
