package check

import (
	"crypto/sha256"
	"fmt"
	"math"
	"math/bits"
	"math/rand"
	"slices"
	"strings"
	"testing"

	"annals/api"
	"annals/mth"
	"annals/nums"
	"annals/prove"
	"annals/tree"
)

const (
	top    = 1 << 62 // MaxSize, MaxWidth and MaxBatch, written out, so that the tests do not lean on what they look at
	widest = 32
	most   = 1024
)

// The four kinds, as the chapter numbers them.
const (
	one = iota + 1
	two
	three
	four
)

// cut is the hash of a text by another program, of so many bytes.
func cut(bytes int, text string) string {
	h := sha256.Sum256([]byte(text))
	return string(h[:bytes])
}

// widths are all widths that count, each with how many bytes it asks for, and those outside.
func widths() map[int]int {
	m := map[int]int{}
	for w := 1; w <= widest; w++ {
		m[w] = w
	}
	for _, w := range []int{0, -1, -32, -33, 33, 34, 64, 256, 257, 1 << 32, 1<<32 + 4, math.MinInt, math.MinInt + 4, math.MaxInt} {
		m[w] = widest
	}
	return m
}

// outside are ints that are no sizes.
func outside() []int {
	list := []int{-1, -2, -32, math.MinInt, math.MinInt + 1, math.MaxInt, math.MaxInt - 1, top + 1, top + 2, top + top/2}
	for k := range 62 {
		list = append(list, -1<<k, top+1<<k)
	}
	return list
}

// edges are sizes and places of note: 0, each power of two, what stands beside it, MaxSize, and others.
func edges() []int {
	list := []int{3, 5, 6, 7, 11, 12, 13, 100, 1000, top - 3, top - 100, top/2 + top/4, top/3 + 1, top / 3 * 2}
	for k := range 63 {
		list = append(list, 1<<k-1, 1<<k, top-1<<k)
		if k < 62 {
			list = append(list, 1<<k+1)
		}
	}
	slices.Sort(list)
	return slices.Compact(list)
}

// few are some of the edges, where all of them are gone through with one another.
func few() []int {
	return []int{0, 1, 2, 3, 7, 8, 12, 100, 1<<31 - 1, 1 << 31, 1<<32 + 1, top / 3, top/3*2 + 1, top/2 - 1, top / 2, top/2 + 1, top/2 + top/4, top - 100, top - 3, top - 2, top - 1, top}
}

// upTo are those of a list that are places of n leaves.
func upTo(n int, list []int) []int {
	return slices.DeleteFunc(slices.Clone(list), func(i int) bool { return i < 0 || i >= n })
}

// from are the places from lo up to hi.
func from(lo, hi int) []int {
	list := make([]int, 0, hi-lo)
	for i := lo; i < hi; i++ {
		list = append(list, i)
	}
	return list
}

// some are at most k places below n, in order.
func some(r *rand.Rand, k, n int) []int {
	list := make([]int, k)
	for i := range list {
		list[i] = r.Intn(n)
		if r.Intn(3) == 0 {
			near := upTo(n, few())
			list[i] = near[r.Intn(len(near))]
		}
	}
	slices.Sort(list)
	return slices.Compact(list)
}

// subset are the places below n whose bits a number has.
func subset(bits, n int) []int {
	return slices.DeleteFunc(from(0, n), func(i int) bool { return bits>>i&1 == 0 })
}

// split is the greatest power of two below n, found from below.
func split(n int) int {
	k := 1
	for 2*k < n {
		k *= 2
	}
	return k
}

// ceil is chapter 1's Ceil, another way.
func ceil(n int) int {
	if n < 2 {
		return 0
	}
	return bits.Len(uint(n - 1))
}

// piece is a part of a tree, as the tests have it.
type piece struct{ lo, hi int }

// piecesOfOne are the parts of 9.1: what is left aside on the way down, turned round.
func piecesOfOne(i, n int) []piece {
	var list []piece
	for lo, hi := 0, n; hi-lo > 1; {
		mid := lo + split(hi-lo)
		if i < mid {
			list = append(list, piece{mid, hi})
			hi = mid
		} else {
			list = append(list, piece{lo, mid})
			lo = mid
		}
	}
	slices.Reverse(list)
	return list
}

// piecesOfOld are the parts of 9.2.
func piecesOfOld(m, n int) []piece {
	if m == 0 || m == n {
		return nil
	}
	return sub(m, 0, n, true)
}

// sub is SUB of 9.2, word by word; m is counted from the part's beginning.
func sub(m, a, b int, whole bool) []piece {
	if m == b-a {
		if whole {
			return nil
		}
		return []piece{{a, b}}
	}
	k := split(b - a)
	if m <= k {
		return append(sub(m, a, a+k, whole), piece{a + k, b})
	}
	return append(sub(m-k, a+k, b, false), piece{a, a + k})
}

// beside are the parts of 9.3 and 9.4 from [a, b) on, when counted says how many leaves of a part are wanted.
func beside(a, b int, counted func(a, b int) int) []piece {
	switch counted(a, b) {
	case 0:
		return []piece{{a, b}}
	case b - a:
		return nil
	}
	k := split(b - a)
	return append(beside(a, a+k, counted), beside(a+k, b, counted)...)
}

// claim is what one of the looks is handed: of a leaf, an older size, a range or some places, with what is claimed (the leaves' hashes, or the older root), the proof and the root.
type claim struct {
	kind, a, b, n int
	at            []int
	claimed       []string
	proof         []string
	root          string
}

func (c claim) String() string {
	at := fmt.Sprint(c.at)
	if len(c.at) > 20 {
		at = fmt.Sprint(len(c.at), " places")
	}
	return fmt.Sprintf("kind %d of %d, %d, %s in %d, %d claimed, %d proved", c.kind, c.a, c.b, at, c.n, len(c.claimed), len(c.proof))
}

// pieces are the parts whose hashes the proof has.
func (c claim) pieces() []piece {
	switch c.kind {
	case one:
		return piecesOfOne(c.a, c.n)
	case two:
		return piecesOfOld(c.a, c.n)
	case three:
		return beside(0, c.n, func(a, b int) int { return max(0, min(c.b, b)-max(c.a, a)) })
	default:
		return beside(0, c.n, func(a, b int) int {
			i, _ := slices.BinarySearch(c.at, a)
			j, _ := slices.BinarySearch(c.at, b)
			return j - i
		})
	}
}

// places are the leaves that are claimed; of an older size, that whole tree.
func (c claim) places() []piece {
	switch c.kind {
	case one:
		return []piece{{c.a, c.a + 1}}
	case two:
		return []piece{{0, c.a}}
	}
	at := c.at
	if c.kind == three {
		at = from(c.a, c.b)
	}
	var list []piece
	for _, i := range at {
		list = append(list, piece{i, i + 1})
	}
	return list
}

// look hands a claim to its look.
func (c claim) look(w int) api.Errno {
	switch c.kind {
	case one:
		return Inclusion(w, c.a, c.n, c.claimed[0], c.proof, c.root)
	case two:
		return Consistency(w, c.a, c.n, c.claimed[0], c.root, c.proof)
	case three:
		return Range(w, c.a, c.n, c.claimed, c.proof, c.root)
	default:
		return Multi(w, c.n, c.at, c.claimed, c.proof, c.root)
	}
}

// lists are all hashes that a claim has, list by list.
func (c *claim) lists() [][]string {
	return [][]string{c.claimed, c.proof}
}

// clone is a claim whose hashes may be written over.
func (c claim) clone() claim {
	c.at, c.claimed, c.proof = slices.Clone(c.at), slices.Clone(c.claimed), slices.Clone(c.proof)
	return c
}

// known are the hashes of parts that a claim gives.
func (c claim) known() map[piece]string {
	m := map[piece]string{}
	for k, p := range c.pieces() {
		m[p] = c.proof[k]
	}
	for k, p := range c.places() {
		if _, ok := m[p]; !ok {
			m[p] = c.claimed[k]
		}
	}
	return m
}

// above is the hash of a part, out of those of the parts below it that are known, by another program.
func above(bytes int, p piece, known map[piece]string) string {
	if h, ok := known[p]; ok {
		return h
	}
	if p.hi-p.lo < 2 {
		panic(fmt.Sprint("nothing is known of ", p))
	}
	mid := p.lo + split(p.hi-p.lo)
	return cut(bytes, "\x01"+above(bytes, piece{p.lo, mid}, known)+above(bytes, piece{mid, p.hi}, known))
}

// roots are the older root (of a consistency proof alone) and the root to which a claim of the right numbers leads.
func (c claim) roots(bytes int) (string, string) {
	known := c.known()
	if c.kind != two || c.a == c.n {
		return "", above(bytes, piece{0, c.n}, known)
	}
	if c.a&(c.a-1) == 0 { // the older tree is a part of the newer one
		return c.claimed[0], above(bytes, piece{0, c.n}, known)
	}
	delete(known, piece{0, c.a})
	return above(bytes, piece{0, c.a}, known), above(bytes, piece{0, c.n}, known)
}

// made is a claim of made-up hashes, each another one, with the root to which they lead.
func made(bytes int, salt string, c claim) claim {
	c.proof, c.claimed = nil, nil
	for _, p := range c.pieces() {
		c.proof = append(c.proof, cut(bytes, fmt.Sprint(salt, "part ", p.lo, " ", p.hi)))
	}
	for _, p := range c.places() {
		c.claimed = append(c.claimed, cut(bytes, fmt.Sprint(salt, "leaf ", p.lo, " ", p.hi)))
	}
	if c.kind == two && c.a == 0 {
		c.claimed[0] = cut(bytes, "")
		c.root = cut(bytes, salt+"any root")
		if c.n == 0 {
			c.root = cut(bytes, "")
		}
		return c
	}
	old, root := c.roots(bytes)
	c.root = root
	if old != "" {
		c.claimed[0] = old
	}
	return c
}

func ofLeaf(i, n int) claim       { return claim{kind: one, a: i, n: n} }
func ofOld(m, n int) claim        { return claim{kind: two, a: m, n: n} }
func ofRange(lo, hi, n int) claim { return claim{kind: three, a: lo, b: hi, n: n} }
func ofPlaces(n int, at ...int) claim {
	return claim{kind: four, at: at, n: n}
}

// allShapes are those of n leaves: each place, each size, each range, and sets of places: all sets of few leaves, and some of more.
func allShapes(r *rand.Rand, n int) []claim {
	var list []claim
	for i := range n + 1 {
		list = append(list, ofOld(i, n))
		if i < n {
			list = append(list, ofLeaf(i, n))
		}
		for lo := range i {
			list = append(list, ofRange(lo, i, n))
		}
	}
	if n <= 7 {
		for set := 1; set < 1<<n; set++ {
			list = append(list, ofPlaces(n, subset(set, n)...))
		}
		return list
	}
	for range 30 {
		list = append(list, ofPlaces(n, some(r, 1+r.Intn(n), n)...))
	}
	return list
}

// greatShapes are those of so great a tree that nobody has it; ranges of at most some hundred leaves.
func greatShapes(r *rand.Rand, n int) []claim {
	list := []claim{ofOld(n, n)}
	near := upTo(n, append(few(), n-1, n/2, n/3, n/2+1))
	for _, i := range near {
		list = append(list, ofLeaf(i, n), ofOld(i, n), ofPlaces(n, i), ofRange(i, i+1, n), ofRange(i, min(n, i+130), n), ofRange(max(0, i-77), i+1, n))
		for _, hi := range near {
			if i < hi {
				list = append(list, ofPlaces(n, i, hi))
			}
		}
	}
	for range 5 {
		list = append(list, ofPlaces(n, some(r, 1+r.Intn(40), n)...))
	}
	return list
}

// greatSizes are sizes of trees that nobody has.
func greatSizes() []int {
	return []int{1<<31 - 1, 1 << 32, 1<<32 + 1, top / 3, top / 2, top/2 + 1, top - 100, top - 2, top - 1, top}
}

// wrong is what Count refuses, in 9.5's words.
func wrong(kind, a, b, n int, at []int) api.Errno {
	if !slices.Contains([]int{1, 2, 3, 4}, kind) {
		return api.ErrKind
	}
	if !(0 <= n && n <= top) {
		return api.ErrSize
	}
	switch kind {
	case one:
		if !(0 <= a && a <= n-1) {
			return api.ErrIndex
		}
	case two:
		if !(0 <= a && a <= n) {
			return api.ErrSize
		}
	case three:
		if !(0 <= a && a < b && b <= n) {
			return api.ErrIndex
		}
	case four:
		return wrongPlaces(at, n)
	}
	return api.OK
}

// wrongPlaces is the part of it that is Multi's.
func wrongPlaces(at []int, n int) api.Errno {
	if len(at) == 0 {
		return api.ErrEmpty
	}
	if len(at) > most {
		return api.ErrMany
	}
	ahead := math.MinInt
	for _, i := range at {
		if !(0 <= i && i <= n-1) {
			return api.ErrIndex
		}
		if !(i > ahead) {
			return api.ErrOrder
		}
		ahead = i
	}
	return api.OK
}

// counted looks whether Count answers that.
func counted(t *testing.T, kind, a, b, n int, at []int, want int, wantErr api.Errno) {
	t.Helper()
	if got, e := Count(kind, a, b, n, at); got != want || e != wantErr {
		t.Errorf("Count(%d, %d, %d, %d, %v of %d) = %d, %d, want %d, %d", kind, a, b, n, at[:min(len(at), 20)], len(at), got, e, want, wantErr)
	}
}

// accepted looks whether a claim is.
func accepted(t *testing.T, w int, c claim) {
	t.Helper()
	if e := c.look(w); e != api.OK {
		t.Errorf("%v, width %d: %d", c, w, e)
	}
}

// refused looks whether a claim is refused so.
func refused(t *testing.T, w int, c claim, want api.Errno, why string) {
	t.Helper()
	if e := c.look(w); e != want {
		t.Errorf("%v, width %d, %s: %d, want %d", c, w, why, e, want)
	}
}

func TestCountExamples_9_5(t *testing.T) {
	for _, c := range []struct {
		kind, a, b, n int
		at            []int
		want          int
		e             api.Errno
	}{
		{1, 3, 0, 7, nil, 3, 0}, {1, 6, 0, 7, nil, 2, 0}, {2, 3, 0, 7, nil, 4, 0}, {2, 4, 0, 7, nil, 1, 0}, {2, 7, 0, 7, nil, 0, 0},
		{3, 1, 6, 7, nil, 2, 0}, {4, 0, 0, 7, []int{1, 5}, 4, 0},
		{1, 0, 0, 1 << 62, nil, 62, 0}, {2, 1, 0, 1 << 62, nil, 62, 0},
		{5, 0, 0, 7, nil, 0, api.ErrKind}, {1, 0, 0, -1, nil, 0, api.ErrSize}, {1, 7, 0, 7, nil, 0, api.ErrIndex}, {2, 8, 0, 7, nil, 0, api.ErrSize}, {3, 2, 2, 7, nil, 0, api.ErrIndex},
		{4, 0, 0, 7, nil, 0, api.ErrEmpty}, {4, 0, 0, 7, []int{}, 0, api.ErrEmpty}, {4, 0, 0, 7, []int{3, 3}, 0, api.ErrOrder}, {4, 0, 0, 7, []int{3, 7, 2}, 0, api.ErrIndex}, {4, 0, 0, 7, []int{3, 2, 7}, 0, api.ErrOrder},
	} {
		counted(t, c.kind, c.a, c.b, c.n, c.at, c.want, c.e)
	}
}

// By hand: the smallest trees, and what hangs on powers of two.
func TestCountByHand_9_5(t *testing.T) {
	for _, c := range []struct {
		kind, a, b, n int
		at            []int
		want          int
	}{
		{1, 0, 0, 1, nil, 0}, {1, 0, 0, 2, nil, 1}, {1, 2, 0, 3, nil, 1}, {1, 0, 0, 3, nil, 2}, {1, 4, 0, 5, nil, 1}, {1, 1 << 61, 0, 1<<61 + 1, nil, 1}, {1, 0, 0, 1<<61 + 1, nil, 62},
		{2, 0, 0, 0, nil, 0}, {2, 0, 0, 1, nil, 0}, {2, 1, 0, 1, nil, 0}, {2, 1, 0, 2, nil, 1}, {2, 2, 0, 3, nil, 1}, {2, 1, 0, 3, nil, 2}, {2, 3, 0, 4, nil, 3}, {2, 5, 0, 6, nil, 3},
		{2, 0, 0, 1 << 62, nil, 0}, {2, 1 << 62, 0, 1 << 62, nil, 0}, {2, 1 << 61, 0, 1 << 62, nil, 1}, {2, 1<<62 - 1, 0, 1 << 62, nil, 63}, {2, 1<<61 - 1, 0, 1 << 62, nil, 63}, {2, 1<<61 + 1, 0, 1 << 62, nil, 63},
		{3, 0, 1, 1, nil, 0}, {3, 0, 1 << 62, 1 << 62, nil, 0}, {3, 1, 1 << 62, 1 << 62, nil, 1}, {3, 1, 1<<62 - 1, 1 << 62, nil, 2}, {3, 1<<61 - 1, 1<<61 + 1, 1 << 62, nil, 122},
		{4, 0, 0, 1, []int{0}, 0}, {4, 0, 0, 1 << 62, []int{0, 1<<62 - 1}, 122}, {4, 0, 0, 1 << 62, []int{0, 1}, 61}, {4, 0, 0, 1024, from(0, 1024), 0}, {4, 0, 0, 1 << 62, from(0, 1024), 52},
	} {
		counted(t, c.kind, c.a, c.b, c.n, c.at, c.want, api.OK)
	}
}

func TestCount_9_5(t *testing.T) {
	for n := range 45 {
		for i := range n + 1 {
			if i < n {
				counted(t, one, i, 0, n, nil, len(piecesOfOne(i, n)), api.OK)
			}
			counted(t, two, i, 0, n, nil, len(piecesOfOld(i, n)), api.OK)
			for lo := range i {
				counted(t, three, lo, i, n, nil, len(ofRange(lo, i, n).pieces()), api.OK)
			}
		}
	}
	for n := 1; n <= 12; n++ {
		for set := 1; set < 1<<n; set++ {
			c := ofPlaces(n, subset(set, n)...)
			counted(t, four, 0, 0, n, c.at, len(c.pieces()), api.OK)
		}
	}
	r := rand.New(rand.NewSource(1))
	for range 2000 {
		n := 1 + r.Intn(3000)
		c := ofPlaces(n, some(r, 1+r.Intn(most), n)...)
		counted(t, four, 0, 0, n, c.at, len(c.pieces()), api.OK)
	}
}

func TestCountInGreatTrees_9_5(t *testing.T) {
	r := rand.New(rand.NewSource(2))
	for _, n := range few() {
		for _, i := range append(upTo(n, edges()), n) {
			counted(t, two, i, 0, n, nil, len(piecesOfOld(i, n)), api.OK)
			if i < n {
				counted(t, one, i, 0, n, nil, len(piecesOfOne(i, n)), api.OK)
			}
			for _, lo := range upTo(i, few()) {
				counted(t, three, lo, i, n, nil, len(ofRange(lo, i, n).pieces()), api.OK)
			}
		}
		if n > 0 {
			c := ofPlaces(n, some(r, 1+r.Intn(most), n)...)
			counted(t, four, 0, 0, n, c.at, len(c.pieces()), api.OK)
		}
	}
	for range 20000 {
		n := 1 + r.Intn(top)
		lo := r.Intn(n)
		hi := lo + 1 + r.Intn(n-lo)
		counted(t, one, lo, 0, n, nil, len(piecesOfOne(lo, n)), api.OK)
		counted(t, two, lo, 0, n, nil, len(piecesOfOld(lo, n)), api.OK)
		counted(t, three, lo, hi, n, nil, len(ofRange(lo, hi, n).pieces()), api.OK)
	}
}

// What a kind does not name may be whatever.
func TestCountDoesNotLookAtTheRest_9_5(t *testing.T) {
	lists := [][]int{nil, {}, {3}, {3, 3}, {-1}, {9, 2, math.MinInt}, from(0, 7), make([]int, most+1), {math.MaxInt}}
	for _, x := range append(outside(), edges()...) {
		for _, at := range lists {
			counted(t, one, 3, x, 7, at, 3, api.OK)
			counted(t, two, 3, x, 7, at, 4, api.OK)
			counted(t, one, 7, x, 7, at, 0, api.ErrIndex)
			counted(t, two, 8, x, 7, at, 0, api.ErrSize)
			counted(t, three, 1, 6, 7, at, 2, api.OK)
			counted(t, three, 6, 6, 7, at, 0, api.ErrIndex)
		}
		for _, y := range []int{x, 0, 3, -1, math.MaxInt, math.MinInt} {
			counted(t, four, x, y, 7, []int{1, 5}, 4, api.OK)
			counted(t, four, y, x, 7, []int{1, 5}, 4, api.OK)
			counted(t, four, x, y, 7, nil, 0, api.ErrEmpty)
		}
	}
}

func TestCountKinds_9_5(t *testing.T) {
	for _, kind := range []int{0, 5, 6, -1, -2, -4, 8, 16, 255, 256, 257, 258, 259, 260, 1 << 32, 1<<32 + 1, 1<<32 + 4, math.MinInt, math.MinInt + 1, math.MinInt + 4, math.MaxInt, math.MaxInt - 1} {
		for _, n := range []int{7, 0, 1, -1, top, top + 1, math.MinInt, math.MaxInt} {
			for _, a := range []int{0, 3, 7, 8, -1, math.MinInt, math.MaxInt} {
				counted(t, kind, a, 5, n, nil, 0, api.ErrKind)
				counted(t, kind, a, a, n, []int{3}, 0, api.ErrKind)
				counted(t, kind, a, a, n, make([]int, most+1), 0, api.ErrKind)
			}
		}
	}
}

func TestCountSizes_9_5(t *testing.T) {
	for _, n := range outside() {
		for kind := one; kind <= four; kind++ {
			for _, a := range append(few(), -1, math.MinInt, math.MaxInt, n, n-1, n+1) {
				for _, at := range [][]int{nil, {3}, {3, 3}, {n}, {n - 1}, make([]int, most+1), from(0, most)} {
					counted(t, kind, a, a+1, n, at, 0, api.ErrSize)
				}
			}
		}
	}
}

func TestCountNumbers_9_5(t *testing.T) {
	for _, n := range append(from(0, 14), append(edges(), few()...)...) {
		for _, x := range append(outside(), n+1, n+2, -n-1) {
			counted(t, one, x, 0, n, nil, 0, api.ErrIndex)
			counted(t, two, x, 0, n, nil, 0, api.ErrSize)
			for _, y := range []int{0, n, x, x + 1, x - 1, math.MinInt, math.MaxInt} {
				counted(t, three, x, y, n, nil, 0, api.ErrIndex)
				counted(t, three, y, x, n, nil, 0, api.ErrIndex)
			}
		}
		counted(t, one, n, 0, n, nil, 0, api.ErrIndex)
		counted(t, three, n, n, n, nil, 0, api.ErrIndex)
		counted(t, three, 0, 0, n, nil, 0, api.ErrIndex)
		counted(t, three, n, 0, n, nil, 0, api.ErrIndex)
	}
	for n := range 12 {
		for a := -3; a < 15; a++ {
			for b := -3; b < 15; b++ {
				for kind := one; kind <= three; kind++ {
					if want := wrong(kind, a, b, n, nil); want != api.OK {
						counted(t, kind, a, b, n, nil, 0, want)
					}
				}
			}
		}
	}
}

// All short lists of small numbers.
func TestCountShortLists_9_5(t *testing.T) {
	for _, a := range from(-1, 5) {
		for _, b := range from(-1, 5) {
			for _, c := range from(-1, 5) {
				for n := range 5 {
					for _, at := range [][]int{{a}, {a, b}, {a, b, c}} {
						if want := wrong(four, 0, 0, n, at); want != api.OK {
							counted(t, four, 0, 0, n, at, 0, want)
						} else {
							counted(t, four, 0, 0, n, at, len(ofPlaces(n, at...).pieces()), api.OK)
						}
					}
				}
			}
		}
	}
}

// Which of two faults of a list is told, and how long it may be.
func TestCountPlaces_9_5(t *testing.T) {
	for _, n := range []int{0, 1, 7, top} {
		counted(t, four, 0, 0, n, nil, 0, api.ErrEmpty)
		counted(t, four, 0, 0, n, make([]int, most+1), 0, api.ErrMany)
		counted(t, four, 0, 0, n, slices.Repeat([]int{-1}, most+1), 0, api.ErrMany)
		counted(t, four, 0, 0, n, from(0, most+1), 0, api.ErrMany)
		counted(t, four, 0, 0, n, from(0, 5*most), 0, api.ErrMany)
		counted(t, four, 0, 0, 0, []int{n}, 0, api.ErrIndex)
	}
	for _, x := range outside() {
		counted(t, four, 0, 0, top, []int{x}, 0, api.ErrIndex)
		counted(t, four, 0, 0, top, []int{5, x}, 0, api.ErrIndex)
		counted(t, four, 0, 0, top, []int{5, 5, x}, 0, api.ErrOrder)
		counted(t, four, 0, 0, top, []int{5, x, 5}, 0, api.ErrIndex)
	}
	counted(t, four, 0, 0, most, from(0, most), 0, api.OK)
	counted(t, four, 0, 0, most-1, from(0, most), 0, api.ErrIndex)
	for k := range most {
		at := from(5, most+5)
		at[k] = top
		counted(t, four, 0, 0, top, at, 0, api.ErrIndex)
		at[k] = -1
		counted(t, four, 0, 0, top, at, 0, api.ErrIndex)
		if k > 0 {
			at[k] = at[k-1]
			counted(t, four, 0, 0, top, at, 0, api.ErrOrder)
			at[k] = 0
			counted(t, four, 0, 0, top, at, 0, api.ErrOrder)
		}
	}
}

// someInt is an int of any kind, near n or far.
func someInt(r *rand.Rand, n int) int {
	switch r.Intn(6) {
	case 0:
		return outside()[r.Intn(20)]
	case 1:
		return edges()[r.Intn(len(edges()))]
	case 2:
		return int(r.Uint64())
	case 3:
		return n + r.Intn(5) - 2
	default:
		return r.Intn(10) - 1
	}
}

func TestCountOfWhatever_9_5(t *testing.T) {
	r := rand.New(rand.NewSource(3))
	for range 30000 {
		n := someInt(r, 8)
		kind, a, b := r.Intn(7)-1, someInt(r, n), someInt(r, n)
		var at []int
		for range r.Intn(4) {
			at = append(at, someInt(r, n))
		}
		if r.Intn(2) == 0 {
			slices.Sort(at)
		}
		want, e := 0, wrong(kind, a, b, n, at)
		if e == api.OK {
			want = len(claim{kind: kind, a: a, b: b, n: n, at: at}.pieces())
		}
		counted(t, kind, a, b, n, at, want, e)
	}
}

// letters are the chapter's seven leaves and the nodes above them, by another program.
func letters(bytes int) map[string]string {
	h := map[string]string{"Empty": cut(bytes, "")}
	for _, x := range "ABCDEFG" {
		h[string(x)] = cut(bytes, "\x00"+string(x))
	}
	for _, x := range [][2]string{{"A", "B"}, {"C", "D"}, {"E", "F"}, {"AB", "C"}, {"AB", "CD"}, {"EF", "G"}, {"ABCD", "EFG"}} {
		h[x[0]+x[1]] = cut(bytes, "\x01"+h[x[0]]+h[x[1]])
	}
	h["R"] = h["ABCDEFG"]
	h["short"] = strings.Repeat("s", bytes-1)
	return h
}

// spelt are the hashes of some words.
func spelt(h map[string]string, words string) []string {
	var list []string
	for _, x := range strings.Fields(words) {
		hash, ok := h[x]
		if !ok {
			panic(x)
		}
		list = append(list, hash)
	}
	return list
}

func TestExamples_9_6_to_9_9(t *testing.T) {
	for w, bytes := range widths() {
		h := letters(bytes)
		for _, c := range []struct {
			shape         claim
			claimed, root string
			proof         string
			want          api.Errno
		}{
			{ofLeaf(3, 7), "D", "R", "C AB EFG", api.OK},
			{ofLeaf(3, 7), "E", "R", "C AB EFG", api.ErrRoot},
			{ofLeaf(3, 7), "D", "R", "AB C EFG", api.ErrRoot},
			{ofLeaf(3, 7), "D", "R", "C AB", api.ErrCount},
			{ofLeaf(3, 7), "D", "R", "C AB short", api.ErrHash},
			{ofOld(3, 7), "ABC", "R", "C D AB EFG", api.OK},
			{ofOld(4, 7), "ABCD", "R", "EFG", api.OK},
			{ofOld(7, 7), "R", "R", "", api.OK},
			{ofOld(0, 7), "Empty", "R", "", api.OK},
			{ofOld(0, 7), "R", "R", "", api.ErrRoot},
			{ofOld(7, 7), "ABCD", "R", "", api.ErrRoot},
			{ofOld(0, 0), "Empty", "R", "", api.ErrRoot},
			{ofOld(0, 0), "Empty", "Empty", "", api.OK},
			{ofRange(1, 6, 7), "B C D E F", "R", "A G", api.OK},
			{ofRange(0, 7, 7), "A B C D E F G", "R", "", api.OK},
			{ofPlaces(7, 1, 5), "B F", "R", "A CD E G", api.OK},
			{ofRange(7, 7, 7), "", "R", "", api.ErrIndex},
			{ofRange(6, 8, 7), "F G", "R", "", api.ErrIndex},
		} {
			if bytes == 1 && c.want == api.ErrRoot && c.shape.kind == one {
				continue // one byte may be alike by chance
			}
			c.shape.claimed, c.shape.proof, c.shape.root = spelt(h, c.claimed), spelt(h, c.proof), h[c.root]
			refused(t, w, c.shape, c.want, c.claimed+", "+c.proof)
		}
	}
}

// The proof's hashes are those of the chapter's parts, in its order: each claim has its hash for each part, and one root that they lead to.
func TestShapes_9_1_to_9_4(t *testing.T) {
	r := rand.New(rand.NewSource(4))
	for n := range 26 {
		for _, c := range allShapes(r, n) {
			accepted(t, 8, made(8, "", c))
		}
	}
	for _, n := range []int{31, 32, 33, 63, 64, 65, 100} {
		for i := range n + 1 {
			accepted(t, 8, made(8, "", ofOld(i, n)))
			if i < n {
				accepted(t, 8, made(8, "", ofLeaf(i, n)))
				accepted(t, 8, made(8, "", ofRange(i/2, i+1, n)))
				accepted(t, 8, made(8, "", ofPlaces(n, some(r, 1+i, n)...)))
			}
		}
	}
}

func TestShapesInGreatTrees_9_1_to_9_4(t *testing.T) {
	r := rand.New(rand.NewSource(5))
	for _, n := range greatSizes() {
		for _, c := range greatShapes(r, n) {
			accepted(t, 8, made(8, "", c))
		}
	}
}

func TestWidths_9_6(t *testing.T) {
	r := rand.New(rand.NewSource(6))
	for w, bytes := range widths() {
		for _, n := range []int{0, 1, 2, 3, 6, 7} {
			for _, c := range allShapes(r, n) {
				c = made(bytes, "", c)
				accepted(t, w, c)
				for _, other := range []int{bytes - 1, bytes + 1, 32 - bytes} { // the same hashes, but another width is said
					if 1 <= other && other <= 32 && other != bytes {
						refused(t, other, c, api.ErrHash, "other width")
					}
				}
			}
		}
	}
}

// Two hashes of a proof in the other order lead to another root.
func TestOrderOfHashes_9_1_to_9_4(t *testing.T) {
	r := rand.New(rand.NewSource(7))
	for n := 2; n < 12; n++ {
		for _, c := range allShapes(r, n) {
			c = made(8, "", c)
			for _, list := range c.lists() {
				for k := 1; k < len(list); k++ {
					list[k-1], list[k] = list[k], list[k-1]
					refused(t, 8, c, api.ErrRoot, "two hashes changed for one another")
					list[k-1], list[k] = list[k], list[k-1]
				}
			}
		}
	}
}

// turn is a hash with one bit turned.
func turn(hash string, bit int) string {
	b := []byte(hash)
	b[bit/8] ^= 1 << (bit % 8)
	return string(b)
}

// A bit turned in whatever hash is handed in, at each place: what leads to another root is refused.
func lookTurned(t *testing.T, r *rand.Rand, w, bytes int, c claim) {
	t.Helper()
	free := c.kind == two && c.a == 0 && c.n > 0 // nothing is said of the root
	for _, list := range c.lists() {
		for k := range list {
			right := list[k]
			list[k] = turn(right, r.Intn(8*bytes))
			refused(t, w, c, api.ErrRoot, "a bit turned")
			list[k] = cut(bytes, "other")
			refused(t, w, c, api.ErrRoot, "another hash")
			list[k] = right
		}
	}
	for bit := range 8 * bytes {
		other := c
		other.root = turn(c.root, bit)
		if free {
			accepted(t, w, other)
		} else {
			refused(t, w, other, api.ErrRoot, "another root")
		}
	}
	accepted(t, w, c)
}

func TestTurnedHashes_9_6(t *testing.T) {
	r := rand.New(rand.NewSource(8))
	for n := range 10 {
		for _, c := range allShapes(r, n) {
			lookTurned(t, r, 8, 8, made(8, "", c))
		}
	}
	for _, n := range []int{top/3 + 1, top - 1, top} {
		for _, c := range []claim{ofLeaf(n/3, n), ofLeaf(n-1, n), ofLeaf(0, n), ofOld(n/3, n), ofOld(n-1, n), ofOld(1, n), ofOld(1<<40, n), ofOld(n, n), ofRange(n/3, n/3+5, n), ofPlaces(n, 0, n/2)} {
			lookTurned(t, r, widest, widest, made(widest, "", c))
		}
	}
}

// Each bit of each hash of some claims.
func TestEachBit_9_6(t *testing.T) {
	for _, c := range []claim{ofLeaf(3, 7), ofOld(3, 7), ofOld(4, 7), ofOld(6, 7), ofOld(7, 7), ofRange(1, 5, 7), ofPlaces(7, 1, 5)} {
		c = made(widest, "", c)
		for _, list := range c.lists() {
			for k, right := range list {
				for bit := range 8 * widest {
					list[k] = turn(right, bit)
					refused(t, 33, c, api.ErrRoot, "a bit turned")
				}
				list[k] = right
			}
		}
	}
}

// lookLengths: a hash of another length at each place of what is handed in, whatever the number of hashes of the proof.
func lookLengths(t *testing.T, w, bytes int, c claim) {
	t.Helper()
	for _, length := range []int{0, bytes - 1, bytes + 1, 2 * bytes, 32, 33, bytes + 256} {
		if length == bytes {
			continue
		}
		text := strings.Repeat("h", length)
		other := c
		other.root = text
		lookBadHash(t, w, other)
		for _, list := range c.lists() {
			for k, right := range list {
				list[k] = text
				lookBadHash(t, w, c)
				list[k] = right
			}
		}
	}
}

// lookBadHash: ErrHash, also when the proof has a hash less, or one more, be that of the right length or not.
func lookBadHash(t *testing.T, w int, c claim) {
	t.Helper()
	refused(t, w, c, api.ErrHash, "a hash of another length")
	right := c.proof
	c.proof = append(slices.Clone(right), c.root)
	refused(t, w, c, api.ErrHash, "a hash of another length and one more")
	c.proof = append(slices.Clone(right), "")
	refused(t, w, c, api.ErrHash, "a hash of another length and an empty one more")
	c.proof = append([]string{""}, right...)
	refused(t, w, c, api.ErrHash, "an empty hash ahead")
}

func TestLengths_9_6(t *testing.T) {
	r := rand.New(rand.NewSource(9))
	for n := range 8 {
		for _, c := range allShapes(r, n) {
			lookLengths(t, 8, 8, made(8, "", c))
		}
	}
	for w, bytes := range widths() {
		for _, c := range []claim{ofLeaf(3, 7), ofLeaf(0, 1), ofOld(3, 7), ofOld(0, 7), ofOld(0, 0), ofOld(7, 7), ofOld(4, 7), ofRange(1, 5, 7), ofRange(0, 7, 7), ofPlaces(7, 1, 5)} {
			lookLengths(t, w, bytes, made(bytes, "", c))
		}
	}
	for _, c := range []claim{ofLeaf(9, top), ofOld(top-1, top), ofRange(5, 9, top), ofPlaces(top, 3, top/2)} {
		lookLengths(t, widest, widest, made(widest, "", c))
	}
}

// A wrong length is told also where a hash that is missing would have been the wrong one's neighbour.
func TestLengthsOfShortProofs_9_6(t *testing.T) {
	c := made(8, "", ofLeaf(3, 7))
	c.proof = c.proof[:2]
	c.root = "short"
	refused(t, 8, c, api.ErrHash, "root of another length, path too short")
	if h, e := Leads(8, 3, 7, c.claimed[0], c.proof); h != "" || e != api.ErrCount {
		t.Errorf("Leads: %x, %d", h, e)
	}
	c.proof = nil
	refused(t, 8, c, api.ErrHash, "root of another length, no path")
}

// lookNumbers: a hash more or less at each place of the proof.
func lookNumbers(t *testing.T, w int, c claim) {
	t.Helper()
	right := c.proof
	for k := range len(right) + 1 {
		for _, more := range []string{c.root, c.claimed[0]} {
			c.proof = slices.Insert(slices.Clone(right), k, more)
			refused(t, w, c, api.ErrCount, "a hash more")
		}
		if k < len(right) {
			c.proof = slices.Delete(slices.Clone(right), k, k+1)
			refused(t, w, c, api.ErrCount, "a hash less")
			c.proof = slices.Insert(slices.Clone(right), k, right[k])
			refused(t, w, c, api.ErrCount, "a hash twice")
		}
	}
	if len(right) > 0 {
		c.proof = nil
		refused(t, w, c, api.ErrCount, "no hashes")
		c.proof = append(slices.Clone(right), right...)
		refused(t, w, c, api.ErrCount, "all hashes twice")
	}
	c.proof = append(slices.Clone(right), slices.Repeat([]string{c.root}, 2000)...)
	refused(t, w, c, api.ErrCount, "many hashes more")
	c.root = cut(len(c.root), "other")
	refused(t, w, c, api.ErrCount, "many hashes more, another root")
}

func TestNumbers_9_13(t *testing.T) {
	r := rand.New(rand.NewSource(10))
	for n := range 12 {
		for _, c := range allShapes(r, n) {
			lookNumbers(t, 8, made(8, "", c))
		}
	}
	for _, n := range greatSizes() {
		for _, c := range []claim{ofLeaf(n/3, n), ofOld(n/3, n), ofOld(0, n), ofOld(n, n), ofOld(1<<20, n), ofRange(n/3, n/3+9, n), ofPlaces(n, 0, n/2)} {
			lookNumbers(t, 8, made(8, "", c))
		}
	}
}

// answer is what 9.6 says of any claim, in its words.
func (c claim) answer(bytes int) api.Errno {
	if c.kind == three {
		if c.b = c.a + len(c.claimed); c.b < c.a { // beyond all ints
			c.b = c.a
		}
	}
	if e := wrong(c.kind, c.a, c.b, c.n, c.at); e != api.OK {
		return e
	}
	if c.kind == four && len(c.claimed) != len(c.at) {
		return api.ErrCount
	}
	for _, h := range slices.Concat(c.claimed, c.proof, []string{c.root}) {
		if len(h) != bytes {
			return api.ErrHash
		}
	}
	if len(c.proof) != len(c.pieces()) {
		return api.ErrCount
	}
	if c.leads(bytes) {
		return api.OK
	}
	return api.ErrRoot
}

// leads: does a claim of the right numbers lead to its root (and to the older root that it claims)?
func (c claim) leads(bytes int) bool {
	if c.kind == two && c.a == 0 {
		return c.claimed[0] == cut(bytes, "") && (c.n > 0 || c.root == c.claimed[0])
	}
	old, root := c.roots(bytes)
	return root == c.root && (old == "" || old == c.claimed[0])
}

// spoil changes something of a claim; of the numbers, the hashes or the root.
func (c *claim) spoil(r *rand.Rand, bytes int) {
	texts := []string{cut(bytes, "other"), c.root, strings.Repeat("h", bytes+1), strings.Repeat("h", bytes-1), cut(bytes, ""), ""}
	text := texts[min(r.Intn(9), 5)]
	if r.Intn(2) == 0 {
		text = texts[r.Intn(2)]
	}
	list := &c.proof
	if r.Intn(3) == 0 && c.kind > two {
		list = &c.claimed
	}
	k := r.Intn(len(*list) + 1)
	switch r.Intn(9) {
	case 0:
		c.a = someInt(r, c.n)
	case 1:
		c.n = someInt(r, c.n)
	case 2:
		if len(c.at) > 0 {
			c.at[r.Intn(len(c.at))] = someInt(r, c.n)
		}
	case 3:
		*list = slices.Insert(*list, k, text)
	case 4:
		if k < len(*list) {
			*list = slices.Delete(*list, k, k+1)
		}
	case 5:
		if k < len(*list) {
			(*list)[k] = text
		}
	case 6:
		c.root = text
	case 7:
		if k > 0 && k < len(*list) {
			(*list)[k], (*list)[k-1] = (*list)[k-1], (*list)[k]
		}
	case 8:
		if len(c.claimed) > 0 {
			c.claimed[r.Intn(len(c.claimed))] = text
		}
	}
}

func TestWhatever_9_6(t *testing.T) {
	r := rand.New(rand.NewSource(11))
	seen := map[int]map[api.Errno]int{}
	for k := range 60000 {
		n := 1 + r.Intn(9)
		if k%10 == 0 {
			n = few()[1+r.Intn(len(few())-1)]
		}
		bytes := []int{1, 2, 8, 32}[r.Intn(4)]
		shapes := []claim{ofLeaf(r.Intn(n), n), ofOld(r.Intn(min(n, top-1)+1), n), ofPlaces(n, some(r, 1+r.Intn(4), n)...), ofRange(0, min(n, 5), n)}
		if lo := r.Intn(n); true {
			shapes = append(shapes, ofRange(lo, min(n, lo+1+r.Intn(6)), n))
		}
		c := made(bytes, "", shapes[r.Intn(len(shapes))]).clone()
		for range r.Intn(4) {
			c.spoil(r, bytes)
		}
		want := c.answer(bytes)
		refused(t, bytes, c, want, fmt.Sprintf("%x, %x, %x", c.claimed, c.proof, c.root))
		if seen[c.kind] == nil {
			seen[c.kind] = map[api.Errno]int{}
		}
		seen[c.kind][want]++
	}
	for kind, list := range map[int][]api.Errno{one: {api.ErrIndex}, two: nil, three: {api.ErrIndex}, four: {api.ErrIndex, api.ErrOrder}} {
		for _, e := range append(list, api.OK, api.ErrSize, api.ErrHash, api.ErrCount, api.ErrRoot) {
			if seen[kind][e] < 50 {
				t.Errorf("kind %d: %d was met %d times alone", kind, e, seen[kind][e])
			}
		}
	}
}

// fault is one thing wrong with a claim, and what is told of it where nothing that comes ahead is wrong.
type fault struct {
	name string
	do   func(c *claim)
	want api.Errno
}

// faults are those of a kind, in the order in which they are told.
func faults(kind int) []fault {
	size := fault{"no size", func(c *claim) { c.n = -1 }, api.ErrSize}
	place := fault{"a place outside", func(c *claim) { c.a = 99 }, api.ErrIndex}
	list := []fault{size}
	switch kind {
	case one, three:
		list = append(list, place)
	case two:
		list = append(list, fault{"an older size above", func(c *claim) { c.a = 99 }, api.ErrSize})
	case four:
		list = append(list, fault{"a place outside", func(c *claim) { c.at[0] = 99 }, api.ErrIndex},
			fault{"places that do not rise", func(c *claim) { c.at[1] = c.at[0] }, api.ErrOrder},
			fault{"a leaf's hash too few", func(c *claim) { c.claimed = c.claimed[:1] }, api.ErrCount})
	}
	return append(list,
		fault{"a claimed hash of another length", func(c *claim) { c.claimed[0] += "x" }, api.ErrHash},
		fault{"a root of another length", func(c *claim) { c.root = c.root[1:] }, api.ErrHash},
		fault{"a proof's hash of another length", func(c *claim) { c.proof[len(c.proof)-1] += "x" }, api.ErrHash},
		fault{"a hash more", func(c *claim) { c.proof = append([]string{cut(8, "more")}, c.proof...) }, api.ErrCount},
		fault{"another root", func(c *claim) { c.root = turn(c.root+"        ", 3)[:len(c.root)] }, api.ErrRoot})
}

// All sets of faults at once: the first one is told.
func TestOrderOfRefusals_9_6(t *testing.T) {
	for _, shape := range []claim{ofLeaf(3, 7), ofOld(3, 7), ofOld(4, 7), ofRange(1, 5, 7), ofPlaces(7, 1, 5)} {
		list := faults(shape.kind)
		for set := 0; set < 1<<len(list); set++ {
			c := made(8, "", shape).clone()
			want, names := api.OK, ""
			for k := len(list) - 1; k >= 0; k-- {
				if set>>k&1 == 1 {
					list[k].do(&c)
					want, names = list[k].want, list[k].name+", "+names
				}
			}
			refused(t, 8, c, want, names)
		}
	}
}

// The same for a list of places that is empty, or too long.
func TestPlacesOfMulti_9_6(t *testing.T) {
	for _, hashes := range [][]string{nil, {"x"}, {cut(8, "a")}, make([]string, most), make([]string, most+1)} {
		for _, proof := range [][]string{nil, {"x"}, {cut(8, "b"), cut(8, "c")}} {
			for _, root := range []string{"", cut(8, "r")} {
				for _, n := range []int{0, 1, 7, top} {
					refused(t, 8, claim{four, 0, 0, n, nil, hashes, proof, root}, api.ErrEmpty, "no places")
					refused(t, 8, claim{four, 0, 0, n, from(0, most+1), hashes, proof, root}, api.ErrMany, "too many places")
					refused(t, 8, claim{four, 0, 0, n, make([]int, most+1), hashes, proof, root}, api.ErrMany, "too many places")
				}
				for _, n := range outside() {
					refused(t, 8, claim{four, 0, 0, n, nil, hashes, proof, root}, api.ErrSize, "no places, no size")
				}
				refused(t, 8, claim{four, 0, 0, 7, []int{3, 7, 2}, hashes, proof, root}, api.ErrIndex, "outside ahead of order")
				refused(t, 8, claim{four, 0, 0, 7, []int{3, 2, 7}, hashes, proof, root}, api.ErrOrder, "order ahead of outside")
				refused(t, 8, claim{four, 0, 0, 7, []int{3, 3}, hashes, proof, root}, api.ErrOrder, "a place twice")
				refused(t, 8, claim{four, 0, 0, 7, []int{1, 3}, hashes, proof, root}, api.ErrCount, "other number of hashes")
			}
		}
	}
}

// As many hashes as places are asked for, whatever their lengths.
func TestHashesOfMulti_9_6(t *testing.T) {
	for n := 1; n <= 7; n++ {
		for set := 1; set < 1<<n; set++ {
			c := made(8, "", ofPlaces(n, subset(set, n)...))
			right := c.claimed
			for k := range 10 {
				if k == len(right) {
					continue
				}
				c.claimed = append(slices.Clone(right), right...)[:min(k, 2*len(right))]
				if len(c.claimed) != len(right) {
					refused(t, 8, c, api.ErrCount, "other number of hashes")
				}
				c.claimed = make([]string, k)
				refused(t, 8, c, api.ErrCount, "other number of empty hashes")
			}
		}
	}
}

func TestMaxBatch_9_6(t *testing.T) {
	for _, n := range []int{most, most + 1, 5000, top} {
		c := made(8, "", ofPlaces(n, from(0, most)...))
		accepted(t, 8, c)
		c.claimed = c.claimed[1:]
		refused(t, 8, c, api.ErrCount, "a hash less")
	}
	c := made(8, "", ofPlaces(5000, from(0, most)...))
	c.at = from(0, most+1)
	c.claimed = append(c.claimed, cut(8, "x"))
	refused(t, 8, c, api.ErrMany, "a place more")
	c = made(8, "", ofRange(0, most+500, 5000))
	accepted(t, 8, c)
}

// Of an n that is a size: a range that is empty, or begins or ends outside, is ErrIndex, whatever the hashes; else ErrSize.
func TestPlacesOfRange_9_6(t *testing.T) {
	lists := [][]string{nil, {}, {""}, {"x"}, {cut(8, "a")}, {cut(8, "a"), cut(8, "b")}, make([]string, 9), make([]string, 5000)}
	for _, hashes := range lists {
		for _, proof := range [][]string{nil, {""}, {cut(8, "b"), cut(8, "c")}} {
			for _, root := range []string{"", cut(8, "r")} {
				for _, n := range append([]int{4, 5, 6}, few()...) {
					for _, lo := range append(outside(), n, n+1, n+2, -n-1, n-len(hashes)+1) {
						if lo < 0 || lo+len(hashes) > n || lo > n || len(hashes) == 0 {
							refused(t, 8, claim{three, lo, 0, n, nil, hashes, proof, root}, api.ErrIndex, "outside")
						}
					}
					if len(hashes) == 0 {
						for _, lo := range []int{0, 1, n / 2, n - 1, n} {
							refused(t, 8, claim{three, lo, 0, n, nil, hashes, proof, root}, api.ErrIndex, "empty")
						}
					}
				}
				for _, n := range outside() {
					for _, lo := range []int{0, -1, 3, n, math.MaxInt, math.MinInt, top, math.MaxInt - 1} {
						refused(t, 8, claim{three, lo, 0, n, nil, hashes, proof, root}, api.ErrSize, "no size")
					}
				}
			}
		}
	}
}

func TestPlacesOfOneAndOld_9_6(t *testing.T) {
	for _, hash := range []string{"", "x", cut(8, "a")} {
		for _, proof := range [][]string{nil, {""}, {cut(8, "b"), cut(8, "c")}} {
			for _, root := range []string{"", cut(8, "r")} {
				for _, n := range append(from(0, 8), few()...) {
					for _, i := range append(outside(), n+1, n+2, -n-1) {
						refused(t, 8, claim{one, i, 0, n, nil, []string{hash}, proof, root}, api.ErrIndex, "outside")
						refused(t, 8, claim{two, i, 0, n, nil, []string{hash}, proof, root}, api.ErrSize, "outside")
					}
					refused(t, 8, claim{one, n, 0, n, nil, []string{hash}, proof, root}, api.ErrIndex, "at the end")
				}
				for _, n := range outside() {
					for _, i := range []int{0, 1, -1, n, n - 1, n + 1, math.MinInt, math.MaxInt, top, top - 1} {
						refused(t, 8, claim{one, i, 0, n, nil, []string{hash}, proof, root}, api.ErrSize, "no size")
						refused(t, 8, claim{two, i, 0, n, nil, []string{hash}, proof, root}, api.ErrSize, "no size")
					}
				}
			}
		}
	}
}

// lookLeads holds Leads against Inclusion: the same refusals, but for the root's, and just that root is taken.
func lookLeads(t *testing.T, w, bytes int, c claim) {
	t.Helper()
	root, e := Leads(w, c.a, c.n, c.claimed[0], c.proof)
	if e == api.ErrRoot || (e != api.OK && root != "") || (e == api.OK && len(root) != bytes) {
		t.Errorf("%v, width %d: Leads %x, %d", c, w, root, e)
	}
	want := c.answer(bytes)
	if len(c.root) == bytes && want != api.ErrRoot && want != e {
		t.Errorf("%v, width %d: Leads refuses with %d, want %d", c, w, e, want)
	}
	if e != api.OK {
		c.root = cut(bytes, "any")
		refused(t, w, c, e, "Leads refuses so")
		return
	}
	if len(c.root) == bytes && (want == api.OK) != (c.root == root) {
		t.Errorf("%v, width %d: Leads to %x, Inclusion of %x: %d", c, w, root, c.root, want)
	}
	_, known := c.roots(bytes)
	if known != root {
		t.Errorf("%v, width %d: Leads to %x, want %x", c, w, root, known)
	}
	c.root = root
	refused(t, w, c, api.OK, "the root that it leads to")
	for _, bit := range []int{0, c.n % (8 * bytes), 8*bytes - 1} {
		c.root = turn(root, bit)
		refused(t, w, c, api.ErrRoot, "another root")
	}
}

func TestLeads_9_7(t *testing.T) {
	for n := 1; n < 40; n++ {
		for i := range n {
			lookLeads(t, 4, 4, made(4, "", ofLeaf(i, n)))
		}
	}
	for w, bytes := range widths() {
		for _, n := range []int{1, 2, 3, 7, top} {
			for _, i := range upTo(n, []int{0, 1, n / 2, n - 1}) {
				lookLeads(t, w, bytes, made(bytes, "", ofLeaf(i, n)))
			}
		}
	}
	for _, n := range few() {
		for _, i := range upTo(n, few()) {
			lookLeads(t, 4, 4, made(4, "", ofLeaf(i, n)))
		}
	}
}

func TestLeadsOfWhatever_9_7(t *testing.T) {
	r := rand.New(rand.NewSource(12))
	for range 10000 {
		n := few()[1+r.Intn(len(few())-1)]
		if r.Intn(2) == 0 {
			n = 1 + r.Intn(9)
		}
		c := made(3, "", ofLeaf(r.Intn(n), n)).clone()
		for range r.Intn(3) {
			c.spoil(r, 3)
		}
		lookLeads(t, 3, 3, c)
	}
}

// Of one leaf: its hash is the root, and nothing is hashed.
func TestLeadsOfOneLeaf_9_7(t *testing.T) {
	for w, bytes := range widths() {
		h := cut(bytes, "whatever")
		if root, e := Leads(w, 0, 1, h, nil); root != h || e != api.OK {
			t.Errorf("width %d: %x, %d", w, root, e)
		}
		if e := Inclusion(w, 0, 1, h, []string{}, h); e != api.OK {
			t.Errorf("width %d: %d", w, e)
		}
	}
}

// m = 0: the older root is that of no leaves, and any root goes on from it, but if there are no leaves at all.
func TestOldOfNone_9_8(t *testing.T) {
	for w, bytes := range widths() {
		none := cut(bytes, "")
		if none != tree.Empty(w) {
			t.Fatalf("Empty(%d)", w)
		}
		other := turn(none, 8*bytes-1)
		for _, n := range append([]int{1, 2, 7}, few()[1:]...) {
			for _, root := range []string{none, other, cut(bytes, "r")} {
				refused(t, w, claim{two, 0, 0, n, nil, []string{none}, nil, root}, api.OK, "of none")
				refused(t, w, claim{two, 0, 0, n, nil, []string{other}, nil, root}, api.ErrRoot, "other older root")
				refused(t, w, claim{two, 0, 0, n, nil, []string{none}, []string{root}, root}, api.ErrCount, "a hash more")
			}
		}
		refused(t, w, claim{two, 0, 0, 0, nil, []string{none}, nil, none}, api.OK, "none of none")
		refused(t, w, claim{two, 0, 0, 0, nil, []string{none}, nil, other}, api.ErrRoot, "other root")
		refused(t, w, claim{two, 0, 0, 0, nil, []string{other}, nil, none}, api.ErrRoot, "other older root")
		refused(t, w, claim{two, 0, 0, 0, nil, []string{other}, nil, other}, api.ErrRoot, "both others")
		refused(t, w, claim{two, 0, 0, 0, nil, []string{none}, []string{none}, none}, api.ErrCount, "a hash more")
	}
}

// m = n: the two roots are one, whatever it is.
func TestOldOfAll_9_8(t *testing.T) {
	for w, bytes := range widths() {
		root := cut(bytes, "whatever")
		for _, n := range append(from(1, 10), few()[1:]...) {
			refused(t, w, claim{two, n, 0, n, nil, []string{root}, nil, root}, api.OK, "all")
			refused(t, w, claim{two, n, 0, n, nil, []string{turn(root, 0)}, nil, root}, api.ErrRoot, "other older root")
			refused(t, w, claim{two, n, 0, n, nil, []string{root}, nil, turn(root, 0)}, api.ErrRoot, "other root")
			refused(t, w, claim{two, n, 0, n, nil, []string{root}, []string{root}, root}, api.ErrCount, "a hash more")
		}
	}
}

// Where m is a power of two the older root is a node of the newer tree: it alone is believed or not. Else the proof has all that makes it, and must make it.
func TestOldAndNew_9_8(t *testing.T) {
	for n := 2; n < 70; n++ {
		for m := 1; m < n; m++ {
			c := made(8, "", ofOld(m, n))
			accepted(t, 8, c)
			other := made(8, "other", ofOld(m, n))
			c.claimed = other.claimed
			refused(t, 8, c, api.ErrRoot, "another older root")
			c.root = other.root
			refused(t, 8, c, api.ErrRoot, "both roots of another proof")
			c = made(8, "", ofOld(m, n))
			c.root = other.root
			refused(t, 8, c, api.ErrRoot, "another root")
			c.claimed = []string{c.root}
			refused(t, 8, c, api.ErrRoot, "the root as the older one")
		}
	}
	for _, n := range greatSizes() {
		for k := range 62 {
			if m := 1 << k; m < n {
				c := made(8, "", ofOld(m, n))
				accepted(t, 8, c)
				c.claimed = []string{turn(c.claimed[0], k)}
				refused(t, 8, c, api.ErrRoot, "another older root")
				c.root = above(8, piece{0, n}, c.known())
				refused(t, 8, c, api.OK, "the root of another older tree") // nothing but the root is against it
			}
		}
	}
}

// A proof of an older size leads to the newer root with an older root that is not its own: refused.
func TestOldRootIsReckoned_9_8(t *testing.T) {
	for n := 3; n < 40; n++ {
		for m := 3; m < n; m++ {
			if m&(m-1) == 0 {
				continue
			}
			c := made(4, "", ofOld(m, n))
			for _, p := range c.proof {
				c.claimed = []string{p}
				refused(t, 4, c, api.ErrRoot, "a proof's hash as the older root")
			}
		}
	}
}

// leaves are n leaves with their hashes.
func leaves(w, n int) ([]string, []string) {
	list, hashes := make([]string, n), make([]string, n)
	for i := range list {
		list[i] = fmt.Sprint("leaf ", i)
		hashes[i] = tree.Leaf(w, list[i])
	}
	return list, hashes
}

// proved8 is what chapter 8 proves of a shape, with what is claimed rightly.
func proved8(t *testing.T, w int, c claim, list, hashes []string) claim {
	t.Helper()
	r := prove.Of(w, hashes)
	var e api.Errno
	switch c.kind {
	case one:
		c.proof, e = prove.Inclusion(r, c.a, c.n)
		c.claimed = []string{hashes[c.a]}
	case two:
		c.proof, e = prove.Consistency(r, c.a, c.n)
		c.claimed = []string{mth.Root(w, list[:c.a])}
	case three:
		c.proof, e = prove.Range(r, c.a, c.b, c.n)
		c.claimed = hashes[c.a:c.b]
	case four:
		c.proof, e = prove.Multi(r, c.at, c.n)
		for _, i := range c.at {
			c.claimed = append(c.claimed, hashes[i])
		}
	}
	if e != api.OK {
		t.Fatalf("%v: no proof, %d", c, e)
	}
	c.root = mth.Root(w, list[:c.n])
	return c
}

func TestComplete_9_10(t *testing.T) {
	r := rand.New(rand.NewSource(13))
	list, hashes := leaves(widest, 33)
	for n := range 18 {
		for _, c := range allShapes(r, n) {
			accepted(t, widest, proved8(t, widest, c, list, hashes))
		}
	}
	for n := 18; n <= 33; n++ {
		for i := range n {
			for _, c := range []claim{ofLeaf(i, n), ofOld(i, n), ofRange(i, n, n), ofRange(0, i+1, n), ofPlaces(n, some(r, 1+r.Intn(n), n)...)} {
				accepted(t, widest, proved8(t, widest, c, list, hashes))
			}
		}
	}
}

func TestCompleteWidths_9_10(t *testing.T) {
	r := rand.New(rand.NewSource(14))
	for w := range widths() {
		list, hashes := leaves(w, 6)
		for n := range 7 {
			for _, c := range allShapes(r, n) {
				accepted(t, w, proved8(t, w, c, list, hashes))
			}
		}
	}
}

// Chapter 6's own proofs, against its roots and no others.
func TestCompleteByTheStandard_9_10(t *testing.T) {
	const n = 21
	list, hashes := leaves(16, n)
	roots := make([]string, n+1)
	for k := range roots {
		roots[k] = mth.Root(16, list[:k])
	}
	for k := range n + 1 {
		for i := range k + 1 {
			proof, _ := mth.Proof(16, i, list[:k])
			for other := range n + 1 {
				want := api.ErrRoot
				if other == k || i == 0 && k > 0 {
					want = api.OK
				}
				refused(t, 16, claim{two, i, 0, k, nil, []string{roots[i]}, proof, roots[other]}, want, "newer root of any size")
				want = api.ErrRoot
				if other == i {
					want = api.OK
				}
				refused(t, 16, claim{two, i, 0, k, nil, []string{roots[other]}, proof, roots[k]}, want, "older root of any size")
			}
			if i == k {
				continue
			}
			path, _ := mth.Path(16, i, list[:k])
			for other := range n {
				want := api.ErrRoot
				if other == i {
					want = api.OK
				}
				refused(t, 16, claim{one, i, 0, k, nil, []string{hashes[other]}, path, roots[k]}, want, "any leaf")
				want = api.ErrRoot
				if other+1 == k {
					want = api.OK
				}
				refused(t, 16, claim{one, i, 0, k, nil, []string{hashes[i]}, path, roots[other+1]}, want, "any root")
			}
		}
	}
}

// A proof for one place or older size is none for another, be the number of hashes the same or not. (Of another n it may be: a root does not tell how many leaves there are.)
func TestOtherPlaces_9_10(t *testing.T) {
	r := rand.New(rand.NewSource(15))
	list, hashes := leaves(8, 13)
	for n := 1; n <= 13; n++ {
		for _, c := range allShapes(r, n) {
			c = proved8(t, 8, c, list, hashes)
			for x := range 15 {
				other := c.clone()
				if c.kind == four {
					other.at[r.Intn(len(other.at))] = x
				} else {
					other.a = x
				}
				if !slices.Equal(other.at, c.at) || other.a != c.a {
					lookWrong(t, other)
				}
				other = c.clone()
				other.n = x
				refused(t, 8, other, other.answer(8), "of another size")
			}
		}
	}
}

// lookWrong: a claim that is not true of the list is refused, as 9.6 says.
func lookWrong(t *testing.T, c claim) {
	t.Helper()
	want := c.answer(8)
	if want == api.OK {
		t.Errorf("%v: true of two places", c)
	}
	refused(t, 8, c, want, "of another place")
}

// texts are what is hashed on the way to a claim's roots, with the hashes that they have.
func texts(bytes int, p piece, known map[piece]string, put func(text string)) string {
	if h, ok := known[p]; ok {
		return h
	}
	mid := p.lo + split(p.hi-p.lo)
	text := "\x01" + texts(bytes, piece{p.lo, mid}, known, put) + texts(bytes, piece{mid, p.hi}, known, put)
	put(text)
	return cut(bytes, text)
}

// clashes: are there two unlike texts with one hash among what is hashed on the way to the roots of two claims?
func clashes(bytes int, a, b claim) bool {
	seen := map[string]string{}
	found := false
	put := func(text string) {
		h := cut(bytes, text)
		if other, ok := seen[h]; ok && other != text {
			found = true
		}
		seen[h] = text
	}
	for _, c := range []claim{a, b} {
		known := c.known()
		if c.kind == two && c.a&(c.a-1) != 0 {
			delete(known, piece{0, c.a})
			texts(bytes, piece{0, c.a}, known, put)
		}
		texts(bytes, piece{0, c.n}, known, put)
	}
	return found
}

// unlike looks for claims of one shape and one root that are accepted and unlike, by hashes of one byte, and for the clash that is behind them.
func unlike(t *testing.T, r *rand.Rand, shape claim) int {
	t.Helper()
	first := made(1, "", shape)
	met := 0
	for range 3000 {
		c := first.clone()
		for _, list := range c.lists() {
			for k := range list {
				if r.Intn(2) == 0 {
					list[k] = string([]byte{byte(r.Intn(256))})
				}
			}
		}
		want := c.answer(1)
		if got := c.look(1); got != want {
			t.Errorf("%v: %d, want %d", c, got, want)
		}
		if want != api.OK || slices.Equal(c.claimed, first.claimed) {
			continue
		}
		met++
		if !clashes(1, first, c) {
			t.Errorf("%v: %x and %x are both accepted without a clash", c, first.claimed, c.claimed)
		}
	}
	return met
}

func TestSound_9_11(t *testing.T) {
	r := rand.New(rand.NewSource(16))
	met := map[int]int{}
	for _, shape := range []claim{
		ofLeaf(3, 7), ofLeaf(0, 2), ofLeaf(6, 7), ofOld(1, 2), ofOld(4, 7), ofOld(2, 3), ofOld(2, 8), ofOld(16, 40), ofOld(3, 7), ofOld(6, 7), ofOld(3, 4),
		ofRange(1, 5, 7), ofRange(0, 7, 7), ofRange(0, 3, 5), ofPlaces(7, 1, 5), ofPlaces(9, 0, 4, 8),
	} {
		met[shape.kind] += unlike(t, r, shape)
	}
	for kind := one; kind <= four; kind++ {
		if met[kind] < 10 {
			t.Errorf("kind %d: only %d unlike claims were accepted", kind, met[kind])
		}
	}
}

// With hashes of full width nobody knows a clash: what is accepted against a list's root is the list's.
func TestNothingElseIsAccepted_9_11(t *testing.T) {
	r := rand.New(rand.NewSource(17))
	list, hashes := leaves(widest, 9)
	pool := append(slices.Clone(hashes), mth.Root(widest, nil))
	for hi := range 10 {
		for lo := range hi {
			pool = append(pool, mth.Root(widest, list[lo:hi]))
		}
	}
	for range 4000 {
		n := 1 + r.Intn(9)
		shapes := allShapes(r, n)
		right := proved8(t, widest, shapes[r.Intn(len(shapes))], list, hashes)
		c := right.clone()
		for range 1 + r.Intn(3) {
			chosen := c.lists()[r.Intn(2)]
			if len(chosen) > 0 {
				chosen[r.Intn(len(chosen))] = pool[r.Intn(len(pool))]
			}
		}
		want := api.ErrRoot
		if slices.Equal(c.claimed, right.claimed) && slices.Equal(c.proof, right.proof) {
			want = api.OK
		}
		refused(t, widest, c, want, "some of the list's hashes")
	}
}

// bound is how many hashes a proof of a shape has at most.
func (c claim) bound() int {
	switch c.kind {
	case one:
		return ceil(c.n)
	case two:
		return ceil(c.n) + 1
	case three:
		return 2 * ceil(c.n)
	default:
		return len(c.at) * ceil(c.n)
	}
}

func TestAtMost_9_12(t *testing.T) {
	r := rand.New(rand.NewSource(18))
	for _, n := range append(from(0, 20), edges()...) {
		if ceil(n) != nums.Ceil(n) {
			t.Fatalf("Ceil(%d)", n)
		}
		shapes := allShapes
		if n >= 20 {
			shapes = greatShapes
		}
		for _, c := range shapes(r, n) {
			if got, e := Count(c.kind, c.a, c.b, c.n, c.at); got > c.bound() || e != api.OK {
				t.Errorf("%v: Count %d, %d, at most %d", c, got, e, c.bound())
			}
		}
	}
	for _, n := range few()[2:] {
		for _, c := range []claim{ofRange(n/3, n-n/3, n), ofRange(1, n, n), ofRange(0, n-1, n), ofRange(n/2, n, n), ofOld(n-1, n), ofOld(n/2, n)} {
			if got, e := Count(c.kind, c.a, c.b, c.n, c.at); got > c.bound() || e != api.OK {
				t.Errorf("%v: Count %d, %d, at most %d", c, got, e, c.bound())
			}
		}
	}
}

// Range of one leaf and Multi of one place take the hashes of an inclusion proof, from left to right.
func TestOneLeafThreeWays_9_12(t *testing.T) {
	look := func(i, n int) {
		c := made(8, "", ofLeaf(i, n))
		pieces := c.pieces()
		order := from(0, len(pieces))
		slices.SortFunc(order, func(x, y int) int { return pieces[x].lo - pieces[y].lo })
		var sorted []string
		for _, k := range order {
			sorted = append(sorted, c.proof[k])
		}
		accepted(t, 8, c)
		accepted(t, 8, claim{three, i, i + 1, n, nil, c.claimed, sorted, c.root})
		accepted(t, 8, claim{four, 0, 0, n, []int{i}, c.claimed, sorted, c.root})
		for _, kind := range []int{three, four} {
			counted(t, kind, i, i+1, n, []int{i}, len(c.proof), api.OK)
			if !slices.Equal(sorted, c.proof) {
				refused(t, 8, claim{kind, i, i + 1, n, []int{i}, c.claimed, c.proof, c.root}, api.ErrRoot, "an inclusion proof's order")
			}
		}
	}
	for n := range 40 {
		for i := range n {
			look(i, n)
		}
	}
	for _, n := range few() {
		for _, i := range upTo(n, few()) {
			look(i, n)
		}
	}
}

// Range is Multi of places one behind the other.
func TestRangeIsMulti_9_12(t *testing.T) {
	for n := range 14 {
		for hi := range n + 1 {
			for lo := range hi {
				c := made(8, "", ofRange(lo, hi, n))
				accepted(t, 8, claim{four, 0, 0, n, from(lo, hi), c.claimed, c.proof, c.root})
				counted(t, four, 0, 0, n, from(lo, hi), len(c.proof), api.OK)
			}
		}
	}
}

// work is how often a call takes memory. One that made a step for each leaf of a tree of MaxSize leaves would not end; one that hashed more than it has to would take more than so many nodes' memory.
func work(call func()) int {
	return int(testing.AllocsPerRun(3, call))
}

func TestStepsOfCount_9_13(t *testing.T) {
	least := work(func() { Count(one, 0, 0, 1, nil) })
	for _, n := range append(few()[1:], greatSizes()...) {
		wide := make([]int, 0, most)
		for k := range most {
			if place := n / most * k; k == 0 || place > wide[len(wide)-1] {
				wide = append(wide, place)
			}
		}
		for _, c := range []claim{ofLeaf(n-1, n), ofLeaf(0, n), ofOld(n-1, n), ofOld(n/3, n), ofRange(0, n, n), ofRange(n/3, n, n), ofRange(0, n-n/4, n), ofPlaces(n, wide...)} {
			if got := work(func() { Count(c.kind, c.a, c.b, c.n, c.at) }); got > least+5 {
				t.Errorf("%v: takes memory %d times, %d for the smallest", c, got, least)
			}
		}
	}
}

func TestStepsOfLooks_9_13(t *testing.T) {
	node := work(func() { tree.Node(8, "left 8 .", "right 8.") })
	r := rand.New(rand.NewSource(19))
	for _, n := range []int{1, 2, 7, 100, 1 << 32, top / 3, top - 1, top} {
		for _, c := range append(greatShapes(r, n), ofOld(n, n), ofLeaf(n-1, n), ofLeaf(0, n), ofOld(n-1, n)) {
			c = made(8, "", c)
			hashes := len(c.proof) + len(c.claimed) // a tree over so many hashes has one node less
			if c.kind == two {
				hashes *= 2
			}
			if got := work(func() { c.look(8) }); got > node*hashes+20 {
				t.Errorf("%v: takes memory %d times, a node %d times", c, got, node)
			}
		}
	}
}

// As many places as may be, as far apart as can be, in the greatest tree.
func TestManyFarPlaces_9_13(t *testing.T) {
	at := make([]int, most)
	for k := range at {
		at[k] = k*(top/most) + k%7
	}
	c := made(4, "", ofPlaces(top, at...))
	if len(c.proof) != most*52 {
		t.Fatalf("%d hashes", len(c.proof))
	}
	accepted(t, 4, c)
	c.proof[len(c.proof)-1] = turn(c.proof[len(c.proof)-1], 9)
	refused(t, 4, c, api.ErrRoot, "a bit turned")
	refused(t, 4, claim{four, 0, 0, top, at, c.claimed, c.proof[1:], c.root}, api.ErrCount, "a hash less")
}

func TestManyClaimedLeaves_9_13(t *testing.T) {
	for _, lo := range []int{0, 1, top/2 - 1500, top - 3000} {
		c := made(4, "", ofRange(lo, lo+3000, top))
		accepted(t, 4, c)
		c.claimed[2999] = turn(c.claimed[2999], 30)
		refused(t, 4, c, api.ErrRoot, "a bit turned")
	}
}

// within puts a list in the midst of a greater one, and answers both.
func within[T any](list []T, mark T) ([]T, []T) {
	room := append(append([]T{mark, mark}, list...), mark, mark, mark)
	return room[2 : 2+len(list)], room
}

// Lists that are handed in stay as they were, with what lies beside and behind them; and the same is answered again.
func TestListsStay_R4(t *testing.T) {
	r := rand.New(rand.NewSource(20))
	for n := range 9 {
		for _, shape := range allShapes(r, n) {
			c := made(8, "", shape)
			for k := range 4 {
				for range k {
					c.spoil(r, 8)
				}
				lookStay(t, c.clone())
			}
		}
	}
	for _, shape := range greatShapes(r, top) {
		lookStay(t, made(8, "", shape))
	}
}

func lookStay(t *testing.T, c claim) {
	t.Helper()
	at, roomAt := within(c.at, -7)
	claimed, roomClaimed := within(c.claimed, "mark")
	proof, roomProof := within(c.proof, "mark")
	wasAt, wasClaimed, wasProof := slices.Clone(roomAt), slices.Clone(roomClaimed), slices.Clone(roomProof)
	c.at, c.claimed, c.proof = at, claimed, proof
	want := c.answer(8)
	for range 2 {
		refused(t, 8, c, want, "lists with room behind")
		Count(c.kind, c.a, c.b, c.n, c.at)
		if c.kind == one {
			Leads(8, c.a, c.n, c.claimed[0], c.proof)
		}
	}
	if !slices.Equal(roomAt, wasAt) || !slices.Equal(roomClaimed, wasClaimed) || !slices.Equal(roomProof, wasProof) {
		t.Errorf("%v: a list was changed", c)
	}
}

// A list without elements may be nil or empty.
func TestNilOrEmpty_R4(t *testing.T) {
	h := cut(8, "h")
	for _, none := range [][]string{nil, {}, make([]string, 0, 5)} {
		for _, c := range []claim{{one, 0, 0, 1, nil, []string{h}, none, h}, {two, 5, 0, 5, nil, []string{h}, none, h}, {two, 0, 0, 5, nil, []string{cut(8, "")}, none, h}, {three, 0, 0, 1, nil, []string{h}, none, h}, {four, 0, 0, 1, []int{0}, []string{h}, none, h}} {
			accepted(t, 8, c)
		}
		refused(t, 8, claim{three, 0, 0, 1, nil, none, none, h}, api.ErrIndex, "no hashes")
		refused(t, 8, claim{four, 0, 0, 1, []int{}, none, none, h}, api.ErrEmpty, "no places")
		refused(t, 8, claim{four, 0, 0, 1, []int{0}, none, none, h}, api.ErrCount, "no hashes")
	}
}

// What a call answers does not hang on what was asked before: refused, accepted, in whatever order.
func TestAnswersHangOnArguments_R2(t *testing.T) {
	r := rand.New(rand.NewSource(21))
	var list []claim
	for _, n := range []int{1, 5, 7, top} {
		for range 40 {
			c := made(8, "", ofPlaces(n, some(r, 1+r.Intn(5), n)...)).clone()
			list = append(list, c, made(8, "", ofLeaf(r.Intn(n), n)), made(8, "", ofOld(r.Intn(n), n)))
			c.spoil(r, 8)
			list = append(list, c)
		}
	}
	for range 10 {
		for _, k := range r.Perm(len(list)) {
			refused(t, 8, list[k], list[k].answer(8), "in another order")
		}
	}
}
