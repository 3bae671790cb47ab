package ring

import (
	"math"
	"math/big"
	"slices"
	"testing"
)

const (
	top  = math.MaxUint64
	half = 1 << 63
)

// around is the ring's size, which no uint64 holds.
func around() *big.Int {
	return new(big.Int).Lsh(big.NewInt(1), 64)
}

// dist follows the words of 3.1 with numbers of any size.
func dist(a, b uint64) uint64 {
	d := new(big.Int).Sub(new(big.Int).SetUint64(b), new(big.Int).SetUint64(a))
	return d.Mod(d, around()).Uint64()
}

// start follows the words of 3.1 with numbers of any size.
func start(id uint64, bit int) uint64 {
	if bit < 0 || bit > 63 {
		return id
	}
	s := new(big.Int).Lsh(big.NewInt(1), uint(bit))
	s.Add(s, new(big.Int).SetUint64(id))
	return s.Mod(s, around()).Uint64()
}

// upto follows the words of 3.2 by the order of numbers alone, without a distance.
func upto(a, x, b uint64) bool {
	switch {
	case a == b:
		return true
	case a < b:
		return a < x && x <= b
	default: // the interval leads over 0
		return a < x || x <= b
	}
}

// between follows the words of 3.2 in the same way.
func between(a, x, b uint64) bool {
	switch {
	case a == b:
		return x != a
	case a < b:
		return a < x && x < b
	default:
		return a < x || x < b
	}
}

// owner follows the words of 3.3.
func owner(ids []uint64, key uint64) int {
	if len(ids) == 0 {
		return -1
	}
	distances := make([]uint64, len(ids))
	for i, id := range ids {
		distances[i] = dist(key, id)
	}
	return slices.Index(distances, slices.Min(distances))
}

// sorted follows the words of 3.3: the identifiers of each distance, the least distance first.
func sorted(from uint64, ids []uint64) []uint64 {
	var distances []uint64
	for _, id := range ids {
		distances = append(distances, dist(from, id))
	}
	slices.Sort(distances)
	var l []uint64
	for _, d := range distances {
		for _, id := range ids {
			if dist(from, id) == d {
				l = append(l, id)
				break
			}
		}
	}
	return l
}

// mixed yields count identifiers without any plain order, the same ones each time.
func mixed(count int) []uint64 {
	l := make([]uint64, count)
	x := uint64(88172645463325252)
	for i := range l {
		x ^= x << 13
		x ^= x >> 7
		x ^= x << 17
		l[i] = x
	}
	return l
}

// few holds identifiers on both sides of 0 and of the ring's middle, and some others.
func few() []uint64 {
	l := append([]uint64{17, 300, 1 << 32, 1<<32 - 1, half / 2, half + half/2}, mixed(12)...)
	for i := range uint64(4) {
		l = append(l, i, top-i, half+i, half-1-i)
	}
	return l
}

// many holds those, both sides of every power of 2, and their opposites on the ring.
func many() []uint64 {
	l := few()
	for i := range 64 {
		p := uint64(1) << i
		l = append(l, p-1, p, p+1, -p-1, -p, -p+1)
	}
	return l
}

// lists holds lists of identifiers: none, one, equal ones, on both sides of 0, in order, in reverse and mixed.
func lists() [][]uint64 {
	l := [][]uint64{
		nil,
		{},
		{0},
		{7},
		{top},
		{5, 20},
		{20, 5},
		{4, 4},
		{4, 4, 4, 4},
		{9, 4, 9, 4, 9},
		{0, top, 0, top},
		{top - 1, 1, top, 0, 2, top - 2},
		{half - 1, half, half + 1, 0, top},
		mixed(3),
		mixed(50),
		few(),
		slices.Concat(few(), mixed(30), few()),
		many(),
	}
	increasing := slices.Sorted(slices.Values(many()))
	decreasing := slices.Clone(increasing)
	slices.Reverse(decreasing)
	return append(l, increasing, decreasing)
}

func TestDist(t *testing.T) { // 3.1
	cases := []struct{ a, b, want uint64 }{
		{5, 3, top - 1}, // the chapter's example
		{3, 5, 2},
		{0, 0, 0},
		{7, 7, 0},
		{top, top, 0},
		{half, half, 0},
		{0, top, top},
		{top, 0, 1},
		{top, 5, 6},
		{top - 2, 2, 5},
		{1, 0, top},
		{0, 1, 1},
		{0, half, half},
		{half, 0, half},
		{half - 1, half, 1},
		{half, half - 1, top},
		{top, half, half + 1},
	}
	for _, c := range cases {
		if got := Dist(c.a, c.b); got != c.want {
			t.Errorf("Dist(%d, %d) = %d, want %d", c.a, c.b, got, c.want)
		}
	}
}

func TestDistFollowsTheChapter(t *testing.T) { // 3.1
	for _, a := range many() {
		for _, b := range many() {
			if got, want := Dist(a, b), dist(a, b); got != want {
				t.Errorf("Dist(%d, %d) = %d, want %d", a, b, got, want)
			}
		}
	}
}

func TestStart(t *testing.T) { // 3.1
	cases := []struct {
		id   uint64
		bit  int
		want uint64
	}{
		{1, 4, 17}, // the chapter's example
		{0, 0, 1},
		{41, 0, 42},
		{0, 1, 2},
		{0, 62, half / 2},
		{0, 63, half},
		{5, 63, half + 5},
		{top, 0, 0},
		{top, 3, 7},
		{top, 63, half - 1},
		{half, 63, 0},
		{half + 9, 63, 9},
		{top - 3, 2, 0},
		{7, -1, 7},
		{7, -2, 7},
		{7, -63, 7},
		{7, -64, 7},
		{7, 64, 7},
		{7, 65, 7},
		{7, 127, 7},
		{7, 128, 7},
		{7, 256, 7},
		{7, 1 << 32, 7},
		{7, math.MinInt, 7},
		{7, math.MinInt + 1, 7},
		{7, math.MaxInt, 7},
		{7, math.MaxInt - 1, 7},
		{top, -1, top},
		{top, 64, top},
		{0, math.MinInt, 0},
		{0, math.MaxInt, 0},
	}
	for _, c := range cases {
		if got := Start(c.id, c.bit); got != c.want {
			t.Errorf("Start(%d, %d) = %d, want %d", c.id, c.bit, got, c.want)
		}
	}
}

func TestStartFollowsTheChapter(t *testing.T) { // 3.1
	for _, id := range many() {
		for bit := -70; bit <= 140; bit++ {
			if got, want := Start(id, bit), start(id, bit); got != want {
				t.Errorf("Start(%d, %d) = %d, want %d", id, bit, got, want)
			}
		}
	}
}

func TestStartIsAtItsDistance(t *testing.T) { // 3.1
	for _, id := range many() {
		want := uint64(1)
		for bit := range 64 {
			if got := Dist(id, Start(id, bit)); got != want {
				t.Errorf("Dist(%d, Start(%d, %d)) = %d, want %d", id, id, bit, got, want)
			}
			want *= 2
		}
	}
}

func TestIntervals(t *testing.T) { // 3.2
	cases := []struct {
		a, x, b       uint64
		upto, between bool
	}{
		{9, 2, 2, true, false}, // the chapter's example
		{2, 5, 9, true, true},
		{2, 3, 9, true, true},
		{2, 8, 9, true, true},
		{2, 2, 9, false, false},
		{2, 9, 9, true, false},
		{2, 1, 9, false, false},
		{2, 10, 9, false, false},
		{2, 0, 9, false, false},
		{2, top, 9, false, false},
		{9, 9, 2, false, false},
		{9, 10, 2, true, true},
		{9, top, 2, true, true},
		{9, 0, 2, true, true},
		{9, 1, 2, true, true},
		{9, 3, 2, false, false},
		{9, 8, 2, false, false},
		{2, 3, 3, true, false},
		{2, 2, 3, false, false},
		{2, 4, 3, false, false},
		{2, 1, 3, false, false},
		{top, 0, 0, true, false},
		{top, top, 0, false, false},
		{top, 1, 0, false, false},
		{top, 0, 1, true, true},
		{0, top, top, true, false},
		{0, 0, top, false, false},
		{0, 1, top, true, true},
		{0, top - 1, top, true, true},
		{top - 1, top, 0, true, true},
		{top - 1, top, top, true, false},
		{half, half + 1, half - 1, true, true},
		{half, half, half - 1, false, false},
		{half, half - 1, half - 1, true, false},
		{7, 7, 7, true, false},
		{7, 8, 7, true, true},
		{7, 6, 7, true, true},
		{7, 0, 7, true, true},
		{7, top, 7, true, true},
		{0, 0, 0, true, false},
		{0, 1, 0, true, true},
		{0, top, 0, true, true},
		{top, top, top, true, false},
		{top, 0, top, true, true},
		{top, top - 1, top, true, true},
	}
	for _, c := range cases {
		if got := Upto(c.a, c.x, c.b); got != c.upto {
			t.Errorf("Upto(%d, %d, %d) = %t, want %t", c.a, c.x, c.b, got, c.upto)
		}
		if got := Between(c.a, c.x, c.b); got != c.between {
			t.Errorf("Between(%d, %d, %d) = %t, want %t", c.a, c.x, c.b, got, c.between)
		}
	}
}

func TestIntervalsFollowTheChapter(t *testing.T) { // 3.2
	for _, a := range few() {
		for _, b := range few() {
			for _, x := range append(many(), a-1, a, a+1, b-1, b, b+1) {
				if got, want := Upto(a, x, b), upto(a, x, b); got != want {
					t.Errorf("Upto(%d, %d, %d) = %t, want %t", a, x, b, got, want)
				}
				if got, want := Between(a, x, b), between(a, x, b); got != want {
					t.Errorf("Between(%d, %d, %d) = %t, want %t", a, x, b, got, want)
				}
			}
		}
	}
}

func TestIntervalsAreTraversed(t *testing.T) { // 3.2
	for _, a := range few() {
		for length := range uint64(12) {
			if length == 0 {
				continue // the whole ring
			}
			b := a + length
			for i := range uint64(24) {
				x := a + i
				if got, want := Upto(a, x, b), i >= 1 && i <= length; got != want {
					t.Errorf("Upto(%d, %d, %d) = %t, want %t", a, x, b, got, want)
				}
				if got, want := Between(a, x, b), i >= 1 && i < length; got != want {
					t.Errorf("Between(%d, %d, %d) = %t, want %t", a, x, b, got, want)
				}
			}
		}
	}
}

func TestIntervalsOfTheWholeRing(t *testing.T) { // 3.2
	for _, a := range many() {
		for _, x := range append(many(), a-1, a, a+1) {
			if !Upto(a, x, a) {
				t.Errorf("Upto(%d, %d, %d) = false, want true", a, x, a)
			}
			if got, want := Between(a, x, a), x != a; got != want {
				t.Errorf("Between(%d, %d, %d) = %t, want %t", a, x, a, got, want)
			}
		}
	}
}

func TestOwner(t *testing.T) { // 3.3
	cases := []struct {
		name string
		ids  []uint64
		key  uint64
		want int
	}{
		{"the chapter's example", []uint64{5, 20}, 6, 1},
		{"the chapter's example over 0", []uint64{5, 20}, 21, 0},
		{"nil", nil, 1, -1},
		{"no identifiers", []uint64{}, 0, -1},
		{"no identifiers, with more behind", []uint64{1, 2}[:0], 1, -1},
		{"one, ahead of the key", []uint64{3}, 4, 0},
		{"one, behind the key", []uint64{5}, 4, 0},
		{"one, the key", []uint64{4}, 4, 0},
		{"one, at the greatest distance", []uint64{top}, 0, 0},
		{"the key among them", []uint64{9, 7, 8, 6}, 8, 2},
		{"the key is the first", []uint64{8, 9, 7}, 8, 0},
		{"the key is the last", []uint64{9, 7, 8}, 8, 2},
		{"the key more than once", []uint64{9, 8, 7, 8, 8}, 8, 1},
		{"equal identifiers", []uint64{4, 4, 4}, 1, 0},
		{"equal identifiers, not the nearest", []uint64{4, 4, 2}, 1, 2},
		{"equal identifiers, the nearest", []uint64{9, 4, 2, 4, 2}, 1, 2},
		{"equal identifiers at the greatest distance", []uint64{0, 0}, 1, 0},
		{"0 behind the greatest", []uint64{2, 0, 1}, top, 1},
		{"the least behind 0", []uint64{20, 5, 10}, top, 1},
		{"the greatest is the key", []uint64{0, top}, top, 1},
		{"the nearest is ahead of 0", []uint64{0, top, 1}, top - 3, 1},
		{"in reverse", []uint64{30, 20, 10}, 11, 1},
	}
	for _, c := range cases {
		if got := Owner(c.ids, c.key); got != c.want {
			t.Errorf("%s: Owner(%v, %d) = %d, want %d", c.name, c.ids, c.key, got, c.want)
		}
	}
}

func TestOwnerFollowsTheChapter(t *testing.T) { // 3.3
	for _, ids := range lists() {
		for _, key := range slices.Concat(few(), ids[:min(len(ids), 40)]) {
			if got, want := Owner(ids, key), owner(ids, key); got != want {
				t.Errorf("Owner(%v, %d) = %d, want %d", ids, key, got, want)
			}
		}
	}
}

func TestSort(t *testing.T) { // 3.3
	cases := []struct {
		name string
		from uint64
		ids  []uint64
		want []uint64
	}{
		{"nil", 3, nil, nil},
		{"no identifiers", 3, []uint64{}, nil},
		{"one", 3, []uint64{2}, []uint64{2}},
		{"one, from itself", 3, []uint64{3}, []uint64{3}},
		{"from 0", 0, []uint64{3, 0, top, 2}, []uint64{0, 2, 3, top}},
		{"from the greatest", top, []uint64{3, 0, top, 2}, []uint64{top, 0, 2, 3}},
		{"from itself among them", 3, []uint64{2, 4, 3, 1}, []uint64{3, 4, 1, 2}},
		{"from just behind one", 3, []uint64{2, 5, 4}, []uint64{4, 5, 2}},
		{"equal identifiers", 9, []uint64{4, 4, 4}, []uint64{4, 4, 4}},
		{"equal identifiers among others", 5, []uint64{4, 6, 4, 6, 5, 4}, []uint64{5, 6, 6, 4, 4, 4}},
		{"from more than once", 5, []uint64{6, 5, 4, 5}, []uint64{5, 5, 6, 4}},
		{"both sides of 0", top - 1, []uint64{1, top, 0, top - 2, top - 1, 2}, []uint64{top - 1, top, 0, 1, 2, top - 2}},
		{"both sides of the middle", half, []uint64{half - 1, 0, half + 1, half, top}, []uint64{half, half + 1, top, 0, half - 1}},
		{"in order", 1, []uint64{1, 2, 3}, []uint64{1, 2, 3}},
		{"in reverse", 1, []uint64{3, 2, 1}, []uint64{1, 2, 3}},
	}
	for _, c := range cases {
		if got := Sort(c.from, c.ids); !slices.Equal(got, c.want) {
			t.Errorf("%s: Sort(%d, %v) = %v, want %v", c.name, c.from, c.ids, got, c.want)
		}
	}
}

func TestSortFollowsTheChapter(t *testing.T) { // 3.3
	for _, ids := range lists() {
		if len(ids) > 100 {
			continue // the next test has these
		}
		for _, from := range slices.Concat(few(), ids[:min(len(ids), 20)]) {
			if got, want := Sort(from, ids), sorted(from, ids); !slices.Equal(got, want) {
				t.Errorf("Sort(%d, %v) = %v, want %v", from, ids, got, want)
			}
		}
	}
}

func TestSortOrdersAndKeepsAll(t *testing.T) { // 3.3
	for _, ids := range append(lists(), mixed(5000), make([]uint64, 3000)) {
		want := slices.Sorted(slices.Values(ids))
		for _, from := range append(few()[:12:12], ids[:min(len(ids), 10)]...) {
			got := Sort(from, ids)
			for i := 1; i < len(got); i++ {
				if dist(from, got[i-1]) > dist(from, got[i]) {
					t.Errorf("Sort from %d of %d identifiers puts %d ahead of %d", from, len(ids), got[i-1], got[i])
				}
			}
			if all := slices.Sorted(slices.Values(got)); !slices.Equal(all, want) {
				t.Errorf("Sort from %d of %d identifiers yields others than it was given", from, len(ids))
			}
		}
	}
}

func TestSortBeginsWithTheOwner(t *testing.T) { // 3.3
	for _, ids := range lists() {
		for _, key := range few() {
			if at := Owner(ids, key); at >= 0 && Sort(key, ids)[0] != ids[at] {
				t.Errorf("Sort(%d, %v) begins with another one than Owner's, %d", key, ids, ids[at])
			}
		}
	}
}

func TestArgumentsAreLeft(t *testing.T) { // 3.3, R4
	for _, ids := range lists() {
		whole := slices.Concat([]uint64{11, 12}, ids, []uint64{13, 14, 15})
		kept := slices.Clone(whole)
		part := whole[2 : 2+len(ids)] // with identifiers ahead of it and spare capacity behind it
		for _, from := range few()[:10] {
			Owner(part, from)
			got := Sort(from, part)
			want := slices.Clone(got)
			if !slices.Equal(whole, kept) {
				t.Fatalf("from %d: the identifiers %v were changed to %v", from, kept, whole)
			}
			clear(part)
			if !slices.Equal(got, want) {
				t.Fatalf("Sort(%d, %v): the result changes with the argument", from, ids)
			}
			copy(whole, kept)
			_ = append(got, 1, 2, 3)
			clear(got)
			if !slices.Equal(whole, kept) {
				t.Fatalf("Sort(%d, %v): the argument changes with the result", from, ids)
			}
		}
	}
}

func TestResultsStayTheSame(t *testing.T) { // 3.3, R5
	for _, ids := range lists() {
		for _, from := range few()[:10] {
			first := Sort(from, ids)
			at := Owner(ids, from)
			Sort(from+1, few())
			Owner(few(), from+1)
			if again := Sort(from, ids); !slices.Equal(again, first) {
				t.Errorf("Sort(%d, %v) = %v, and then %v", from, ids, first, again)
			}
			if again := Owner(ids, from); again != at {
				t.Errorf("Owner(%v, %d) = %d, and then %d", ids, from, at, again)
			}
		}
	}
}

func TestIntervalsMakeUpTheRing(t *testing.T) { // 3.4
	for _, a := range few() {
		for _, b := range append(few(), a-1, a+1, a+half) {
			if a == b {
				continue
			}
			for _, x := range append(many(), a-1, a, a+1, b-1, b, b+1) {
				if !Upto(a, x, b) && !Upto(b, x, a) {
					t.Errorf("%d is neither upto %d from %d nor upto %d from %d", x, b, a, a, b)
				}
				if Upto(a, x, b) && Upto(b, x, a) {
					t.Errorf("%d is both upto %d from %d and upto %d from %d", x, b, a, a, b)
				}
			}
		}
	}
}
