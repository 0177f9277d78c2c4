package tree

import (
	"crypto/sha256"
	"encoding/hex"
	"fmt"
	"math"
	"math/big"
	"math/bits"
	"math/rand"
	"slices"
	"strings"
	"testing"

	"annals/api"
)

const (
	top    = 1 << 62 // MaxSize, written out, so that the tests do not lean on what they look at
	widest = 32
	most   = 122 // pieces of a range
)

// cut is the hash of a text by another program, of w bytes.
func cut(w int, text string) string {
	h := sha256.Sum256([]byte(text))
	return string(h[:w])
}

func at(level, index int) api.Addr {
	return api.Addr{Level: level, Index: index}
}

// textOf is a text of n bytes of all kinds.
func textOf(r *rand.Rand, n int) string {
	b := make([]byte, n)
	for i := range b {
		b[i] = byte(r.Intn(256))
	}
	return string(b)
}

// widths are all widths that count, each with how many bytes it asks for, and those outside.
func widths() map[int]int {
	m := map[int]int{}
	for w := 1; w <= widest; w++ {
		m[w] = w
	}
	for _, w := range []int{0, -1, -32, -33, 33, 34, 64, 256, 257, 1 << 32, 1<<32 + 4, math.MinInt, math.MinInt + 4, math.MaxInt} {
		m[w] = widest
	}
	return m
}

// numbers are the ints at which a rule may turn: each power of two, what stands beside it, and both below 0.
func numbers() []int {
	list := []int{0, math.MinInt, math.MinInt + 1, math.MaxInt, math.MaxInt - 1}
	for k := range 63 {
		for _, d := range []int{-1, 0, 1} {
			list = append(list, 1<<k+d, -(1<<k)+d)
		}
	}
	return list
}

// levels are all levels that are asked for: those that there are, those beside them, and others.
func levels() []int {
	list := []int{math.MinInt, math.MinInt + 1, -1 << 32, -64, -63, -62, -2, 128, 256, 1 << 32, 1<<32 + 3, 1 << 62, math.MaxInt - 1, math.MaxInt}
	for l := -1; l <= 65; l++ {
		list = append(list, l)
	}
	return list
}

// addresses are all levels with all the numbers at which a rule may turn: the first, the last and the next index of each level are among them.
func addresses() []api.Addr {
	var list []api.Addr
	for _, l := range levels() {
		for _, i := range numbers() {
			list = append(list, at(l, i))
		}
	}
	return list
}

// span is where the leaves of an address begin and end, reckoned in numbers that do not wrap. The level must not be below 0.
func span(a api.Addr) (*big.Int, *big.Int) {
	lo := big.NewInt(int64(a.Index))
	hi := new(big.Int).Add(lo, big.NewInt(1))
	return lo.Lsh(lo, uint(a.Level)), hi.Lsh(hi, uint(a.Level))
}

// isNode is 5.2 in numbers that do not wrap.
func isNode(a api.Addr) bool {
	if a.Level < 0 || a.Level > 62 || a.Index < 0 {
		return false
	}
	_, hi := span(a)
	return hi.Cmp(big.NewInt(top)) <= 0
}

// nodes are those of the addresses that are some.
func nodes() []api.Addr {
	return slices.DeleteFunc(addresses(), func(a api.Addr) bool { return !isNode(a) })
}

// isPower tells whether a number is 1, 2, 4 and so on.
func isPower(n int) bool {
	return n > 0 && bits.OnesCount(uint(n)) == 1
}

// half is the root of hashes as the standard has it: the greatest power of two below their number to the left, the others to the right.
func half(w int, list []string) string {
	switch len(list) {
	case 0:
		return cut(w, "")
	case 1:
		return list[0]
	}
	k := len(list) - 1
	for !isPower(k) {
		k--
	}
	return cut(w, "\x01"+half(w, list[:k])+half(w, list[k:]))
}

// cover is 5.5, step by step: at each place the greatest level is looked for from above.
func cover(lo, hi int) []api.Addr {
	var list []api.Addr
	for p := lo; p < hi; {
		for l := 62; ; l-- {
			if p%(1<<l) == 0 && 1<<l <= hi-p {
				list = append(list, at(l, p/(1<<l)))
				p += 1 << l
				break
			}
		}
	}
	return list
}

// edges are the places at which a range may begin or end: 0, each power of two, what stands beside it, MaxSize, and others.
func edges() []int {
	r := rand.New(rand.NewSource(5))
	list := []int{0, 3, 5, 6, 7, 11, 12, 13, 100, 1000, top - 3, top - 100, top/2 + top/4, top/3 + 1, top / 3 * 2}
	for k := range 63 {
		list = append(list, 1<<k-1, 1<<k)
		if k < 62 {
			list = append(list, 1<<k+1)
		}
	}
	for range 40 {
		list = append(list, r.Intn(top>>r.Intn(62)))
	}
	slices.Sort(list)
	return slices.Compact(list)
}

func mustCover(t *testing.T, lo, hi int) []api.Addr {
	t.Helper()
	list, e := Cover(lo, hi)
	if e != api.OK {
		t.Fatalf("Cover(%d, %d): %d", lo, hi, e)
	}
	return list
}

func TestHashes_5_1(t *testing.T) {
	r := rand.New(rand.NewSource(1))
	for w, n := range widths() {
		if Empty(w) != cut(n, "") {
			t.Errorf("Empty(%d) = %x", w, Empty(w))
		}
		for _, l := range []int{0, 1, 2, 31, 32, 33, 54, 55, 56, 62, 63, 64, 65, 119, 120, 200} {
			a, b := textOf(r, l), textOf(r, r.Intn(70))
			if got := Leaf(w, a); got != cut(n, "\x00"+a) {
				t.Errorf("Leaf(%d, %q) = %x", w, a, got)
			}
			if got := Node(w, a, b); got != cut(n, "\x01"+a+b) {
				t.Errorf("Node(%d, %q, %q) = %x", w, a, b, got)
			}
			if got := Node(w, b, a); got != cut(n, "\x01"+b+a) {
				t.Errorf("Node(%d, %q, %q) = %x", w, b, a, got)
			}
		}
	}
}

func TestHashExamples_5_1(t *testing.T) {
	for _, c := range []struct{ got, want string }{
		{Empty(4), "e3b0c442"},
		{Leaf(4, ""), "6e340b9c"},
		{Leaf(4, "a"), "022a6979"},
		{Node(32, "", ""), hex.EncodeToString([]byte(cut(32, "\x01")))},
		{Empty(32), "e3b0c44298fc1c149afbf4c8996fb92427ae41e4649b934ca495991b7852b855"},
		{Leaf(32, ""), "6e340b9cffb37a989ca544e6bb780a2c78901d3fb33738768511a30617afa01d"},
	} {
		if hex.EncodeToString([]byte(c.got)) != c.want {
			t.Errorf("%x, want %s", c.got, c.want)
		}
	}
}

// What Node is handed is not cut or filled up to the width: only where it ends, not how it is parted, is not to be seen.
func TestNodeTakesAnyLength_5_1(t *testing.T) {
	long := strings.Repeat("long", 1000)
	for _, c := range []struct{ l, r string }{
		{"", ""}, {"", "r"}, {"l", ""}, {"\x00", "\x00"}, {long, ""}, {"", long}, {long, long}, {"\xff", long}, {"\x01", "\x01"},
	} {
		for _, w := range []int{1, 4, 31, 32} {
			if got := Node(w, c.l, c.r); got != cut(w, "\x01"+c.l+c.r) {
				t.Errorf("Node(%d, of %d bytes, of %d bytes) = %x", w, len(c.l), len(c.r), got)
			}
		}
	}
	if Node(32, "l", "r") == Node(32, "r", "l") {
		t.Error("left and right are one to Node")
	}
}

func TestValid_5_2(t *testing.T) {
	for _, a := range addresses() {
		if Valid(a) != isNode(a) {
			t.Errorf("Valid(%v) = %v", a, Valid(a))
		}
	}
	for l := range 63 {
		last := 1<<(62-l) - 1
		for _, c := range []struct {
			index int
			want  bool
		}{{0, true}, {last, true}, {last + 1, false}, {-1, false}, {math.MinInt, false}, {math.MaxInt, false}} {
			if Valid(at(l, c.index)) != c.want {
				t.Errorf("Valid(%v) = %v", at(l, c.index), !c.want)
			}
		}
	}
	for _, l := range []int{-1, -2, 63, 64, 65, math.MinInt, math.MaxInt} {
		for _, i := range numbers() {
			if Valid(at(l, i)) {
				t.Errorf("Valid(%v)", at(l, i))
			}
		}
	}
}

// Products of an index and 2 to the level that wrap to a number that looks right are no nodes.
func TestValidDoesNotWrap_5_2(t *testing.T) {
	for l := 2; l <= 62; l++ {
		for _, i := range []int{1<<(64-l) - 1, 1 << (64 - l), 1<<(64-l) + 1, 1<<(63-l) - 1, 1 << (63 - l), 1<<(63-l) + 1} {
			if Valid(at(l, i)) {
				t.Errorf("Valid(%v)", at(l, i))
			}
		}
	}
}

func TestValidExamples_5_2(t *testing.T) {
	for _, c := range []struct {
		a    api.Addr
		want bool
	}{
		{at(62, 0), true}, {at(62, 1), false}, {at(63, 0), false}, {at(0, 1<<62-1), true}, {at(0, 1<<62), false}, {at(-1, 0), false}, {at(0, -1), false},
	} {
		if Valid(c.a) != c.want {
			t.Errorf("Valid(%v) = %v", c.a, !c.want)
		}
	}
}

func TestSpan_5_3(t *testing.T) {
	for _, a := range addresses() {
		lo, hi, e := Span(a)
		if !isNode(a) {
			if lo != 0 || hi != 0 || e != api.ErrAddr {
				t.Errorf("Span(%v) = %d, %d, %d", a, lo, hi, e)
			}
			continue
		}
		l, h := span(a)
		if e != api.OK || l.Cmp(big.NewInt(int64(lo))) != 0 || h.Cmp(big.NewInt(int64(hi))) != 0 {
			t.Errorf("Span(%v) = %d, %d, %d", a, lo, hi, e)
		}
	}
}

func TestSpanExamples_5_3(t *testing.T) {
	for _, c := range []struct {
		a      api.Addr
		lo, hi int
		e      api.Errno
	}{
		{at(3, 5), 40, 48, api.OK}, {at(0, 0), 0, 1, api.OK}, {at(62, 1), 0, 0, api.ErrAddr},
		{at(62, 0), 0, top, api.OK}, {at(0, top-1), top - 1, top, api.OK}, {at(61, 1), top / 2, top, api.OK},
	} {
		if lo, hi, e := Span(c.a); lo != c.lo || hi != c.hi || e != c.e {
			t.Errorf("Span(%v) = %d, %d, %d", c.a, lo, hi, e)
		}
	}
}

// kinCalls are the four calls, each with the rule of 5.4 in numbers that do not wrap.
func kinCalls() []struct {
	name string
	call func(api.Addr) (api.Addr, api.Errno)
	rule func(level, index *big.Int) (*big.Int, *big.Int)
} {
	one, two := big.NewInt(1), big.NewInt(2)
	up := func(l *big.Int) *big.Int { return new(big.Int).Add(l, one) }
	down := func(l *big.Int) *big.Int { return new(big.Int).Sub(l, one) }
	twice := func(i *big.Int) *big.Int { return new(big.Int).Mul(i, two) }
	return []struct {
		name string
		call func(api.Addr) (api.Addr, api.Errno)
		rule func(level, index *big.Int) (*big.Int, *big.Int)
	}{
		{"Parent", Parent, func(l, i *big.Int) (*big.Int, *big.Int) { return up(l), new(big.Int).Div(i, two) }},
		{"Sibling", Sibling, func(l, i *big.Int) (*big.Int, *big.Int) {
			if i.Bit(0) == 0 {
				return l, up(i)
			}
			return l, down(i)
		}},
		{"Left", Left, func(l, i *big.Int) (*big.Int, *big.Int) { return down(l), twice(i) }},
		{"Right", Right, func(l, i *big.Int) (*big.Int, *big.Int) { return down(l), up(twice(i)) }},
	}
}

func TestKin_5_4(t *testing.T) {
	for _, k := range kinCalls() {
		for _, a := range addresses() {
			want, e := api.Addr{}, api.ErrAddr
			if isNode(a) {
				l, i := k.rule(big.NewInt(int64(a.Level)), big.NewInt(int64(a.Index)))
				if b := at(int(l.Int64()), int(i.Int64())); l.IsInt64() && i.IsInt64() && isNode(b) {
					want, e = b, api.OK
				}
			}
			if b, code := k.call(a); b != want || code != e {
				t.Errorf("%s(%v) = %v, %d, want %v, %d", k.name, a, b, code, want, e)
			}
		}
	}
}

func TestKinExamples_5_4(t *testing.T) {
	no := api.Addr{}
	for _, c := range []struct {
		name string
		call func(api.Addr) (api.Addr, api.Errno)
		a, b api.Addr
		e    api.Errno
	}{
		{"Parent", Parent, at(0, 5), at(1, 2), api.OK},
		{"Parent", Parent, at(61, 1), at(62, 0), api.OK},
		{"Parent", Parent, at(62, 0), no, api.ErrAddr},
		{"Sibling", Sibling, at(0, 5), at(0, 4), api.OK},
		{"Sibling", Sibling, at(0, 4), at(0, 5), api.OK},
		{"Sibling", Sibling, at(62, 0), no, api.ErrAddr},
		{"Sibling", Sibling, at(61, 0), at(61, 1), api.OK},
		{"Left", Left, at(3, 5), at(2, 10), api.OK},
		{"Right", Right, at(3, 5), at(2, 11), api.OK},
		{"Left", Left, at(0, 5), no, api.ErrAddr},
		{"Right", Right, at(0, 5), no, api.ErrAddr},
		{"Left", Left, at(0, top-1), no, api.ErrAddr},
		{"Right", Right, at(0, top-1), no, api.ErrAddr},
		{"Left", Left, at(62, 1), no, api.ErrAddr},
		{"Left", Left, at(63, 0), no, api.ErrAddr},
		{"Right", Right, at(63, 0), no, api.ErrAddr},
		{"Parent", Parent, at(-1, 0), no, api.ErrAddr},
		{"Parent", Parent, at(0, top), no, api.ErrAddr},
		{"Parent", Parent, at(3, -1), no, api.ErrAddr},
		{"Sibling", Sibling, at(61, 2), no, api.ErrAddr},
		{"Sibling", Sibling, at(0, -1), no, api.ErrAddr},
		{"Parent", Parent, at(math.MaxInt, 0), no, api.ErrAddr},
		{"Left", Left, at(math.MinInt, 0), no, api.ErrAddr},
		{"Left", Left, at(3, math.MinInt), no, api.ErrAddr},
	} {
		if b, e := c.call(c.a); b != c.b || e != c.e {
			t.Errorf("%s(%v) = %v, %d, want %v, %d", c.name, c.a, b, e, c.b, c.e)
		}
	}
}

func TestCover_5_5(t *testing.T) {
	for lo := range 130 {
		for hi := lo; hi < 140; hi++ {
			if list := mustCover(t, lo, hi); !slices.Equal(list, cover(lo, hi)) {
				t.Errorf("Cover(%d, %d) = %v", lo, hi, list)
			}
		}
	}
	for _, lo := range edges() {
		for _, hi := range edges() {
			if lo > hi {
				continue
			}
			if list := mustCover(t, lo, hi); !slices.Equal(list, cover(lo, hi)) {
				t.Errorf("Cover(%d, %d) = %v", lo, hi, list)
			}
		}
	}
}

func TestCoverExamples_5_5(t *testing.T) {
	for _, c := range []struct {
		lo, hi int
		want   []api.Addr
	}{
		{0, 7, []api.Addr{at(2, 0), at(1, 2), at(0, 6)}},
		{3, 13, []api.Addr{at(0, 3), at(2, 1), at(2, 2), at(0, 12)}},
		{5, 5, nil},
		{0, 0, nil},
		{top, top, nil},
		{0, 1 << 62, []api.Addr{at(62, 0)}},
		{0, 1<<62 - 1 - (1<<61 - 1), []api.Addr{at(61, 0)}},
		{1 << 61, 1 << 62, []api.Addr{at(61, 1)}},
		{1<<62 - 1, 1 << 62, []api.Addr{at(0, 1<<62-1)}},
		{1<<61 - 1, 1<<61 + 1, []api.Addr{at(0, 1<<61-1), at(0, 1<<61)}},
	} {
		if list := mustCover(t, c.lo, c.hi); !slices.Equal(list, c.want) {
			t.Errorf("Cover(%d, %d) = %v", c.lo, c.hi, list)
		}
	}
}

func TestCoverRefuses_5_5(t *testing.T) {
	places := numbers()
	for _, lo := range places {
		for _, hi := range places {
			list, e := Cover(lo, hi)
			want := api.ErrRange
			if 0 <= lo && lo <= hi && hi <= top {
				want = api.OK
			}
			if e != want || e != api.OK && len(list) != 0 {
				t.Errorf("Cover(%d, %d): %d pieces, %d, want %d", lo, hi, len(list), e, want)
			}
		}
	}
	for _, c := range [][2]int{{6, 5}, {0, 1<<62 + 1}, {-1, 0}, {-1, -1}, {0, -1}, {1<<62 + 1, 1<<62 + 1}, {1, 0}, {math.MinInt, math.MaxInt}, {math.MaxInt, math.MinInt}, {math.MinInt, math.MinInt}, {math.MaxInt, math.MaxInt}} {
		if list, e := Cover(c[0], c[1]); len(list) != 0 || e != api.ErrRange {
			t.Errorf("Cover(%d, %d): %v, %d", c[0], c[1], list, e)
		}
	}
}

// What is written into one answer, or put behind it, is not to be seen in another.
func TestCoverAnswersAreApart_5_5(t *testing.T) {
	for _, c := range [][2]int{{0, 1}, {0, 3}, {0, 7}, {0, 31}, {3, 13}, {1, 1<<62 - 1}, {0, 1 << 62}, {7, 7}} {
		want := cover(c[0], c[1])
		first := mustCover(t, c[0], c[1])
		second := mustCover(t, c[0], c[1])
		spoil(first)
		if !slices.Equal(second, want) {
			t.Errorf("Cover(%d, %d): the second answer is %v", c[0], c[1], second)
		}
		behind := append(second, at(9, 9))
		if third := append(mustCover(t, c[0], c[1]), at(8, 8)); !slices.Equal(third[:len(want)], want) || behind[len(want)] != at(9, 9) {
			t.Errorf("Cover(%d, %d): the third answer is %v", c[0], c[1], third)
		}
	}
}

// spoil writes into a list and into all the room behind it.
func spoil(list []api.Addr) {
	list = list[:cap(list)]
	for i := range list {
		list[i] = at(-7, -7)
	}
}

func TestFold_5_6(t *testing.T) {
	r := rand.New(rand.NewSource(6))
	for w, n := range widths() {
		for count := range 20 {
			peaks := make([]string, count)
			for i := range peaks {
				peaks[i] = textOf(r, r.Intn(40))
			}
			if got, want := Fold(w, peaks), foldOf(n, peaks); got != want {
				t.Errorf("Fold(%d, %q) = %x, want %x", w, peaks, got, want)
			}
		}
	}
}

// foldOf is 5.6 from the left: the first, above all that stand to the right of it.
func foldOf(w int, peaks []string) string {
	switch len(peaks) {
	case 0:
		return cut(w, "")
	case 1:
		return peaks[0]
	}
	return cut(w, "\x01"+peaks[0]+foldOf(w, peaks[1:]))
}

func TestFoldExamples_5_6(t *testing.T) {
	for w := range widths() {
		x, y, z := "x", "the second", ""
		if Fold(w, nil) != Empty(w) || Fold(w, []string{}) != Empty(w) {
			t.Errorf("Fold(%d, none) = %x", w, Fold(w, nil))
		}
		for _, alone := range []string{x, y, z, "\x00", strings.Repeat("l", 100)} {
			if got := Fold(w, []string{alone}); got != alone {
				t.Errorf("Fold(%d, %q) = %q", w, alone, got)
			}
		}
		if got := Fold(w, []string{x, y}); got != Node(w, x, y) {
			t.Errorf("Fold(%d, x, y) = %x", w, got)
		}
		if got := Fold(w, []string{x, y, z}); got != Node(w, x, Node(w, y, z)) {
			t.Errorf("Fold(%d, x, y, z) = %x", w, got)
		}
	}
}

func TestFoldLeavesItsList_5_6(t *testing.T) {
	for count := range 12 {
		room := make([]string, 16)
		for i := range room {
			room[i] = fmt.Sprint("hash ", i)
		}
		was := slices.Clone(room)
		first := Fold(32, room[2:2+count])
		if !slices.Equal(room, was) {
			t.Errorf("Fold of %d changed its list, or what lies beside it: %q", count, room)
		}
		for i := range room {
			room[i] = "other"
		}
		if again := Fold(32, was[2:2+count]); again != first {
			t.Errorf("Fold of %d keeps its list: %x, then %x", count, first, again)
		}
	}
}

// lookAtTiling looks whether the pieces tile the range, by 5.7, and whether none of them could be greater.
func lookAtTiling(t *testing.T, lo, hi int) {
	t.Helper()
	place := lo
	list := mustCover(t, lo, hi)
	for _, a := range list {
		from, to, e := Span(a)
		if e != api.OK || from != place || to <= from {
			t.Fatalf("Cover(%d, %d): %v is not what follows %d", lo, hi, a, place)
		}
		place = to
		if p, e := Parent(a); e == api.OK {
			if from, to, _ := Span(p); lo <= from && to <= hi {
				t.Errorf("Cover(%d, %d): the parent of %v lies within", lo, hi, a)
			}
		}
	}
	if place != hi || len(list) > most {
		t.Errorf("Cover(%d, %d): %d pieces, up to %d", lo, hi, len(list), place)
	}
}

func TestCoverTiles_5_7(t *testing.T) {
	for lo := range 100 {
		for hi := lo; hi < 200; hi++ {
			lookAtTiling(t, lo, hi)
		}
	}
	for _, lo := range edges() {
		for _, hi := range edges() {
			if lo <= hi {
				lookAtTiling(t, lo, hi)
			}
		}
	}
	r := rand.New(rand.NewSource(7))
	for range 20000 {
		lo, hi := r.Intn(top>>r.Intn(62)), r.Intn(top>>r.Intn(62))
		lookAtTiling(t, min(lo, hi), max(lo, hi))
	}
}

// Of all the lists of whole subtrees that tile a range the answer is the only shortest one: all lists are counted, by what the first piece is.
func TestCoverIsTheShortest_5_7(t *testing.T) {
	const places = 130
	for hi := range places {
		fewest, lists := make([]int, hi+1), make([]int, hi+1)
		lists[hi] = 1
		for lo := hi - 1; lo >= 0; lo-- {
			fewest[lo] = places
			for size := 1; lo%size == 0 && lo+size <= hi; size *= 2 {
				switch n := 1 + fewest[lo+size]; {
				case n < fewest[lo]:
					fewest[lo], lists[lo] = n, lists[lo+size]
				case n == fewest[lo]:
					lists[lo] += lists[lo+size]
				}
			}
		}
		for lo := range hi + 1 {
			if got := len(mustCover(t, lo, hi)); got != fewest[lo] || lists[lo] != 1 {
				t.Errorf("Cover(%d, %d): %d pieces; %d lists have %d", lo, hi, got, lists[lo], fewest[lo])
			}
		}
	}
}

func TestCoverHas122AtMost_5_7(t *testing.T) {
	list := mustCover(t, 1, 1<<62-1)
	if len(list) != most {
		t.Errorf("Cover(1, 2^62 - 1): %d pieces", len(list))
	}
	for i, a := range list {
		want := at(i, 1)
		if i > 60 {
			want = at(121-i, 1<<(i-59)-2)
		}
		if a != want {
			t.Errorf("Cover(1, 2^62 - 1): piece %d is %v, want %v", i, a, want)
		}
	}
}

func TestCoverFromNought_5_7(t *testing.T) {
	look := func(n int) {
		list := mustCover(t, 0, n)
		if len(list) != bits.OnesCount64(uint64(n)) {
			t.Errorf("Cover(0, %d): %d pieces", n, len(list))
		}
		for i := 1; i < len(list); i++ {
			if list[i].Level >= list[i-1].Level {
				t.Errorf("Cover(0, %d): the levels do not fall: %v", n, list)
			}
		}
	}
	for n := range 3000 {
		look(n)
	}
	for _, n := range edges() {
		look(n)
	}
}

func TestChildren_5_8(t *testing.T) {
	for _, a := range nodes() {
		l, el := Left(a)
		r, er := Right(a)
		if a.Level == 0 {
			if el != api.ErrAddr || er != api.ErrAddr {
				t.Errorf("a leaf, %v, has something below: %v, %v", a, l, r)
			}
			continue
		}
		if el != api.OK || er != api.OK {
			t.Errorf("%v: Left %d, Right %d", a, el, er)
			continue
		}
		if s, e := Sibling(l); s != r || e != api.OK {
			t.Errorf("%v: Sibling of the left is %v, %d", a, s, e)
		}
		if s, e := Sibling(r); s != l || e != api.OK {
			t.Errorf("%v: Sibling of the right is %v, %d", a, s, e)
		}
		for _, b := range []api.Addr{l, r} {
			if p, e := Parent(b); p != a || e != api.OK {
				t.Errorf("%v: Parent of %v is %v, %d", a, b, p, e)
			}
		}
		lo, hi, _ := Span(a)
		from, mid, _ := Span(l)
		next, to, _ := Span(r)
		if from != lo || mid != next || to != hi || mid-from != to-next {
			t.Errorf("%v: %d to %d falls into %d to %d and %d to %d", a, lo, hi, from, mid, next, to)
		}
	}
}

// A leaf may have any bytes, those too that a node's text has: its hash is another one.
func TestLeafIsNoNode_5_9(t *testing.T) {
	r := rand.New(rand.NewSource(9))
	for range 300 {
		x, y := textOf(r, r.Intn(40)), textOf(r, r.Intn(40))
		node := Node(32, x, y)
		for _, data := range []string{x + y, "\x01" + x + y, "\x00" + x + y, x, y, node, "\x00", "\x01", ""} {
			if Leaf(32, data) == node {
				t.Errorf("Leaf of %q is Node of %q and %q", data, x, y)
			}
			if Leaf(32, data) != cut(32, "\x00"+data) {
				t.Errorf("Leaf of %q: its text does not begin with a byte 0", data)
			}
		}
		if node != cut(32, "\x01"+x+y) {
			t.Errorf("Node of %q and %q: its text does not begin with a byte 1", x, y)
		}
	}
}

func TestFoldOfCover_5_10(t *testing.T) {
	for _, w := range []int{1, 4, 32} {
		var hashes []string
		for n := range 600 {
			var peaks []string
			for _, a := range mustCover(t, 0, n) {
				lo, hi, e := Span(a)
				if e != api.OK {
					t.Fatalf("Span(%v): %d", a, e)
				}
				peaks = append(peaks, half(w, hashes[lo:hi]))
			}
			if got, want := Fold(w, peaks), half(w, hashes); got != want {
				t.Errorf("width %d, %d hashes: %x, want %x", w, n, got, want)
			}
			hashes = append(hashes, Leaf(w, fmt.Sprint("leaf ", n)))
		}
	}
}

// The hashes of 5.10 may be any texts: it is the shape of the tree that is promised.
func TestFoldOfCoverAnyHashes_5_10(t *testing.T) {
	r := rand.New(rand.NewSource(10))
	for n := range 100 {
		hashes := make([]string, n)
		for i := range hashes {
			hashes[i] = textOf(r, r.Intn(50))
		}
		var peaks []string
		for _, a := range mustCover(t, 0, n) {
			lo, hi, _ := Span(a)
			peaks = append(peaks, half(32, hashes[lo:hi]))
		}
		if got, want := Fold(32, peaks), half(32, hashes); got != want {
			t.Errorf("%d hashes: %x, want %x", n, got, want)
		}
	}
}

// Whatever takes from the range's pieces may stop at any of them, and take them again from the first on.
func TestPiecesMayBeLeft_5_5(t *testing.T) {
	seq := pieces(1, 100)
	for wanted := range 12 {
		var got []api.Addr
		for a := range seq {
			if len(got) == wanted {
				break
			}
			got = append(got, a)
		}
		want := cover(1, 100)
		if want = want[:min(wanted, len(want))]; !slices.Equal(got, want) {
			t.Errorf("the first %d pieces: %v, want %v", wanted, got, want)
		}
	}
}
