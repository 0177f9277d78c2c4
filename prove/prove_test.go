package prove

import (
	"crypto/sha256"
	"fmt"
	"math"
	"math/bits"
	"math/rand"
	"slices"
	"strings"
	"testing"

	"annals/api"
	"annals/mth"
	"annals/nums"
	"annals/tree"
)

const (
	top    = 1 << 62 // MaxSize, MaxWidth and MaxBatch, written out, so that the tests do not lean on what they look at
	widest = 32
	most   = 1024
)

// cut is the hash of a text by another program, of so many bytes.
func cut(bytes int, text string) string {
	h := sha256.Sum256([]byte(text))
	return string(h[:bytes])
}

func at(level, index int) api.Addr {
	return api.Addr{Level: level, Index: index}
}

// widths are all widths that count, each with how many bytes it asks for, and those outside.
func widths() map[int]int {
	m := map[int]int{}
	for w := 1; w <= widest; w++ {
		m[w] = w
	}
	for _, w := range []int{0, -1, -32, -33, 33, 34, 64, 256, 257, 1 << 32, 1<<32 + 4, math.MinInt, math.MinInt + 4, math.MaxInt} {
		m[w] = widest
	}
	return m
}

// outside are ints that are no sizes.
func outside() []int {
	list := []int{-1, -2, -32, math.MinInt, math.MinInt + 1, math.MaxInt, math.MaxInt - 1, top + 1, top + 2, top + top/2}
	for k := range 62 {
		list = append(list, -1<<k, top+1<<k)
	}
	return list
}

// edges are sizes and places of note: 0, each power of two, what stands beside it, MaxSize, and others.
func edges() []int {
	list := []int{3, 5, 6, 7, 11, 12, 13, 100, 1000, top - 3, top - 100, top/2 + top/4, top/3 + 1, top / 3 * 2}
	for k := range 63 {
		list = append(list, 1<<k-1, 1<<k, top-1<<k)
		if k < 62 {
			list = append(list, 1<<k+1)
		}
	}
	slices.Sort(list)
	return slices.Compact(list)
}

// few are some of the edges, where all of them are gone through with one another.
func few() []int {
	return []int{0, 1, 2, 3, 7, 8, 12, 100, 1<<31 - 1, 1 << 31, 1<<32 + 1, top / 3, top/3*2 + 1, top/2 - 1, top / 2, top/2 + 1, top/2 + top/4, top - 100, top - 3, top - 2, top - 1, top}
}

// upTo are those of a list that are below n.
func upTo(n int, list []int) []int {
	return slices.DeleteFunc(slices.Clone(list), func(i int) bool { return i >= n })
}

// from are the places from lo up to hi.
func from(lo, hi int) []int {
	list := make([]int, 0, hi-lo)
	for i := lo; i < hi; i++ {
		list = append(list, i)
	}
	return list
}

// some are at most k places below n, in order.
func some(r *rand.Rand, k, n int) []int {
	list := make([]int, k)
	for i := range list {
		list[i] = r.Intn(n)
		if r.Intn(3) == 0 {
			near := upTo(n, few())
			list[i] = near[r.Intn(len(near))]
		}
	}
	slices.Sort(list)
	return slices.Compact(list)
}

// split is the greatest power of two below n, found from below.
func split(n int) int {
	k := 1
	for 2*k < n {
		k *= 2
	}
	return k
}

// cover is chapter 5's Cover, step by step: at each place the greatest level is looked for from above.
func cover(lo, hi int) []api.Addr {
	var list []api.Addr
	for p := lo; p < hi; {
		for l := 62; ; l-- {
			if p%(1<<l) == 0 && 1<<l <= hi-p {
				list = append(list, at(l, p/(1<<l)))
				p += 1 << l
				break
			}
		}
	}
	return list
}

// folded is the root above hashes of subtrees that get smaller, by another program.
func folded(bytes int, hashes []string) string {
	if len(hashes) == 0 {
		return cut(bytes, "")
	}
	if len(hashes) == 1 {
		return hashes[0]
	}
	return cut(bytes, "\x01"+hashes[0]+folded(bytes, hashes[1:]))
}

// piece is a part of a tree, as the tests have it.
type piece struct{ lo, hi int }

// inclusion are the parts of 8.4: what is left aside on the way down, turned round.
func inclusion(i, n int) []piece {
	var list []piece
	for lo, hi := 0, n; hi-lo > 1; {
		mid := lo + split(hi-lo)
		if i < mid {
			list = append(list, piece{mid, hi})
			hi = mid
		} else {
			list = append(list, piece{lo, mid})
			lo = mid
		}
	}
	slices.Reverse(list)
	return list
}

// consistency are the parts of 8.5.
func consistency(m, n int) []piece {
	if m == 0 || m == n {
		return nil
	}
	return sub(m, 0, n, true)
}

// sub is SUB of 8.5, word by word.
func sub(m, a, b int, whole bool) []piece {
	if m >= b {
		if whole {
			return nil
		}
		return []piece{{a, b}}
	}
	k := split(b - a)
	if m <= a+k {
		return append(sub(m, a, a+k, whole), piece{a + k, b})
	}
	return append(sub(m, a+k, b, false), piece{a, a + k})
}

// beside are the parts of 8.6 and 8.7 from [a, b) on, when count says how many leaves of a part are wanted.
func beside(a, b int, count func(a, b int) int) []piece {
	switch count(a, b) {
	case 0:
		return []piece{{a, b}}
	case b - a:
		return nil
	}
	k := split(b - a)
	return append(beside(a, a+k, count), beside(a+k, b, count)...)
}

// besideRange are the parts of 8.6.
func besideRange(lo, hi, n int) []piece {
	return beside(0, n, func(a, b int) int { return max(0, min(hi, b)-max(lo, a)) })
}

// besidePlaces are the parts of 8.7.
func besidePlaces(places []int, n int) []piece {
	return beside(0, n, func(a, b int) int {
		c := 0
		for _, i := range places {
			if a <= i && i < b {
				c++
			}
		}
		return c
	})
}

// call is one of the five calls, with the parts whose hashes it answers.
type call struct {
	name string
	n    int
	ask  func(r Reader) ([]string, api.Errno)
	want []piece
}

// rootCall is Root as if it answered a proof of one hash.
func rootCall(n int) call {
	return call{fmt.Sprintf("Root of %d", n), n, func(r Reader) ([]string, api.Errno) {
		h, e := Root(r, n)
		if h == "" {
			return nil, e
		}
		return []string{h}, e
	}, []piece{{0, n}}}
}

func inclusionCall(i, n int) call {
	return call{fmt.Sprintf("Inclusion of %d in %d", i, n), n, func(r Reader) ([]string, api.Errno) { return Inclusion(r, i, n) }, inclusion(i, n)}
}

func consistencyCall(m, n int) call {
	return call{fmt.Sprintf("Consistency of %d in %d", m, n), n, func(r Reader) ([]string, api.Errno) { return Consistency(r, m, n) }, consistency(m, n)}
}

func rangeCall(lo, hi, n int) call {
	return call{fmt.Sprintf("Range [%d, %d) in %d", lo, hi, n), n, func(r Reader) ([]string, api.Errno) { return Range(r, lo, hi, n) }, besideRange(lo, hi, n)}
}

func multiCall(places []int, n int) call {
	name := fmt.Sprintf("Multi of %d places in %d", len(places), n)
	if len(places) < 20 {
		name = fmt.Sprintf("Multi of %v in %d", places, n)
	}
	return call{name, n, func(r Reader) ([]string, api.Errno) { return Multi(r, places, n) }, besidePlaces(places, n)}
}

// rangeCalls are those of all ranges of n leaves.
func rangeCalls(n int) []call {
	var list []call
	for hi := range n + 1 {
		for lo := range hi {
			list = append(list, rangeCall(lo, hi, n))
		}
	}
	return list
}

// allCalls are the calls of n leaves: each place, each size, each range, and sets of places: all sets of few leaves, and some of more.
func allCalls(r *rand.Rand, n int) []call {
	list := append(rangeCalls(n), rootCall(n))
	for i := range n + 1 {
		list = append(list, consistencyCall(i, n))
		if i < n {
			list = append(list, inclusionCall(i, n))
		}
	}
	if n <= 7 {
		for set := 1; set < 1<<n; set++ {
			list = append(list, multiCall(slices.DeleteFunc(from(0, n), func(i int) bool { return set>>i&1 == 0 }), n))
		}
		return list
	}
	for range 30 {
		list = append(list, multiCall(some(r, 1+r.Intn(n), n), n))
	}
	return list
}

// greatCalls are calls of so great a tree that nobody has it.
func greatCalls(r *rand.Rand, n int) []call {
	list := []call{rootCall(n), consistencyCall(n, n)}
	near := upTo(n, append(few(), n-1, n/2, n/3, n/2+1))
	for _, i := range near {
		list = append(list, inclusionCall(i, n), consistencyCall(i, n), multiCall([]int{i}, n), rangeCall(i, n, n), rangeCall(i, i+1, n))
		for _, hi := range near {
			if i < hi {
				list = append(list, rangeCall(i, hi, n), multiCall([]int{i, hi}, n))
			}
		}
	}
	for range 5 {
		list = append(list, multiCall(some(r, 1+r.Intn(40), n), n))
	}
	return list
}

// scribe answers each address with a hash of its own and writes down what it is asked. At the question of number stop, from 0, it answers what it was told.
type scribe struct {
	bytes int
	salt  string
	asked []api.Addr
	stop  int
	hash  string
	errno api.Errno
}

// newScribe is one that never stops.
func newScribe(bytes int) *scribe {
	return &scribe{bytes: bytes, stop: -1}
}

// of is the hash that it answers.
func (s *scribe) of(a api.Addr) string {
	return cut(s.bytes, fmt.Sprint(s.salt, "node ", a.Level, " ", a.Index))
}

func (s *scribe) node(a api.Addr) (string, api.Errno) {
	s.asked = append(s.asked, a)
	if len(s.asked)-1 == s.stop {
		return s.hash, s.errno
	}
	return s.of(a), api.OK
}

// asks are the addresses that a call has to ask.
func (c call) asks() []api.Addr {
	var list []api.Addr
	for _, p := range c.want {
		list = append(list, cover(p.lo, p.hi)...)
	}
	return list
}

// hashes are what it has to answer, when the scribe is asked.
func (c call) hashes(s *scribe) []string {
	var list []string
	for _, p := range c.want {
		var below []string
		for _, a := range cover(p.lo, p.hi) {
			below = append(below, s.of(a))
		}
		list = append(list, folded(s.bytes, below))
	}
	return list
}

// look makes a call of a scribe that has size leaves and looks at what it answers and asks.
func look(t *testing.T, w, bytes, size int, c call) {
	t.Helper()
	s := newScribe(bytes)
	got, e := c.ask(Reader{Width: w, Size: size, Node: s.node})
	if e != api.OK || !slices.Equal(got, c.hashes(s)) {
		t.Errorf("%s, width %d, size %d: %x, %d, want %x", c.name, w, size, got, e, c.hashes(s))
	}
	if !slices.Equal(s.asked, c.asks()) {
		t.Errorf("%s, width %d, size %d: asked %v, want %v", c.name, w, size, s.asked, c.asks())
	}
}

// refused looks whether a call refuses with that number and nothing else, and whether it asks nothing.
func refused(t *testing.T, r Reader, c call, want api.Errno) {
	t.Helper()
	s := newScribe(1)
	if r.Node != nil {
		r.Node = s.node
	}
	if got, e := c.ask(r); len(got) != 0 || e != want || len(s.asked) != 0 {
		t.Errorf("%s, size %d: %x, %d, asked %v, want %d", c.name, r.Size, got, e, s.asked, want)
	}
}

// leafHashes are the hashes of n leaves, by another program.
func leafHashes(bytes, n int) []string {
	list := make([]string, n)
	for i := range list {
		list[i] = cut(bytes, fmt.Sprint("\x00leaf ", i))
	}
	return list
}

// nodeOf is the node of an address over leaves' hashes, by another program.
func nodeOf(bytes int, a api.Addr, hashes []string) string {
	if a.Level == 0 {
		return hashes[a.Index]
	}
	return cut(bytes, "\x01"+nodeOf(bytes, at(a.Level-1, 2*a.Index), hashes)+nodeOf(bytes, at(a.Level-1, 2*a.Index+1), hashes))
}

// lookNodes asks a reader of some leaves' hashes for all nodes within and many outside.
func lookNodes(t *testing.T, w, bytes int, r Reader, hashes []string) {
	t.Helper()
	n := len(hashes)
	for l := range 63 {
		for i := range 2*n + 3 {
			a := at(l, i)
			if i > (top-1)>>l {
				if h, e := r.Node(a); h != "" || e != api.ErrAddr {
					t.Errorf("width %d, Node(%v) of %d = %x, %d, want ErrAddr", w, a, n, h, e)
				}
				continue
			}
			if i >= n>>l {
				if h, e := r.Node(a); h != "" || e != api.ErrSize {
					t.Errorf("width %d, Node(%v) of %d = %x, %d, want ErrSize", w, a, n, h, e)
				}
				continue
			}
			if h, e := r.Node(a); h != nodeOf(bytes, a, hashes) || e != api.OK {
				t.Errorf("width %d, Node(%v) of %d = %x, %d", w, a, n, h, e)
			}
		}
	}
}

func TestOf_8_1(t *testing.T) {
	for n := range 36 {
		hashes := leafHashes(widest, n)
		r := Of(widest, hashes)
		if r.Width != widest || r.Size != n || r.Node == nil {
			t.Fatalf("Of %d hashes: width %d, size %d", n, r.Width, r.Size)
		}
		lookNodes(t, widest, widest, r, hashes)
	}
}

func TestOfWidths_8_1(t *testing.T) {
	for w, bytes := range widths() {
		for _, n := range []int{0, 1, 2, 7, 9} {
			hashes := leafHashes(bytes, n)
			r := Of(w, hashes)
			if r.Width != w || r.Size != n {
				t.Errorf("Of(%d) of %d hashes: width %d, size %d", w, n, r.Width, r.Size)
			}
			lookNodes(t, w, bytes, r, hashes)
		}
	}
}

// A leaf's hash is answered as it is, and goes into the nodes above as it is, whatever its length.
func TestOfHashesOfAnyLength_8_1(t *testing.T) {
	hashes := []string{"", "x", strings.Repeat("y", 31), strings.Repeat("z", 33), strings.Repeat("long", 500), "\x00", "\xff\xfe", cut(32, ""), "", "", "\x01\x00"}
	for w, bytes := range widths() {
		lookNodes(t, w, bytes, Of(w, hashes), hashes)
	}
}

func TestOfManyLeaves_8_1(t *testing.T) {
	hashes := leafHashes(8, 2050)
	r := Of(8, hashes)
	for _, a := range []api.Addr{at(11, 0), at(10, 1), at(10, 0), at(1, 1024), at(0, 2049), at(5, 63)} {
		if h, e := r.Node(a); h != nodeOf(8, a, hashes) || e != api.OK {
			t.Errorf("Node(%v) = %x, %d", a, h, e)
		}
	}
	for _, a := range []api.Addr{at(11, 1), at(12, 0), at(1, 1025), at(0, 2050), at(5, 64)} {
		if h, e := r.Node(a); h != "" || e != api.ErrSize {
			t.Errorf("Node(%v) = %x, %d", a, h, e)
		}
	}
}

// An address that is not valid is refused as that, whatever the list has; one of so great a tree as nobody has, as outside.
func TestOfRefuses_8_1(t *testing.T) {
	for _, n := range []int{0, 1, 7, 64} {
		r := Of(4, leafHashes(4, n))
		bad := []api.Addr{at(62, 1), at(63, 0), at(64, 0), at(0, top), at(1, top/2), at(61, 2), at(0, -1), at(-1, 0), at(-1, -1)}
		for _, x := range []int{math.MinInt, math.MaxInt, -64, 127, 128, 1 << 32} {
			bad = append(bad, at(x, 0), at(x, 1), at(x, -1), at(x, x))
		}
		for _, x := range outside() {
			bad = append(bad, at(0, x), at(3, x), at(62, x))
		}
		for _, a := range bad {
			if h, e := r.Node(a); h != "" || e != api.ErrAddr {
				t.Errorf("Node(%v) of %d = %x, %d, want ErrAddr", a, n, h, e)
			}
		}
		for _, a := range []api.Addr{at(62, 0), at(61, 0), at(61, 1), at(0, top-1), at(1, top/2-1), at(7, 0), at(0, 64), at(0, 1<<32), at(32, 1<<29)} {
			if h, e := r.Node(a); h != "" || e != api.ErrSize {
				t.Errorf("Node(%v) of %d = %x, %d, want ErrSize", a, n, h, e)
			}
		}
	}
}

func TestOfNone_8_1(t *testing.T) {
	for _, hashes := range [][]string{nil, {}} {
		r := Of(5, hashes)
		if r.Width != 5 || r.Size != 0 || r.Node == nil {
			t.Fatalf("Of none: width %d, size %d", r.Width, r.Size)
		}
		if h, e := Root(r, 0); h != cut(5, "") || e != api.OK {
			t.Errorf("Root of none = %x, %d", h, e)
		}
		if h, e := r.Node(at(0, 0)); h != "" || e != api.ErrSize {
			t.Errorf("Node of none = %x, %d", h, e)
		}
	}
}

// What is written into the list later does not show: not in a leaf, not in a node, not in the size.
func TestOfDoesNotKeepTheList_8_1(t *testing.T) {
	room := leafHashes(8, 12)
	want := slices.Clone(room)
	list := room[:7]
	r := Of(8, list)
	for _, a := range []api.Addr{at(0, 3), at(2, 0)} {
		r.Node(a)
	}
	if !slices.Equal(room, want) {
		t.Fatal("the list was changed")
	}
	again := Of(8, list)
	for i := range room {
		room[i] = "mark"
		lookNodes(t, 8, 8, r, want[:7])
		lookNodes(t, 8, 8, again, want[:7])
	}
	if list = append(list, "more"); r.Size != 7 || len(list) != 8 {
		t.Errorf("size %d", r.Size)
	}
	lookNodes(t, 8, 8, r, want[:7])
}

// Two readers of one list know of it what it was when each was made.
func TestOfTwice_8_1(t *testing.T) {
	list := leafHashes(8, 5)
	old := slices.Clone(list)
	before := Of(8, list)
	list[2] = cut(8, "other")
	behind := Of(8, list)
	lookNodes(t, 8, 8, before, old)
	lookNodes(t, 8, 8, behind, list)
	lookNodes(t, 8, 8, before, old)
}

// letters are the chapter's seven leaves and the nodes above them, by another program.
func letters(bytes int) map[string]string {
	h := map[string]string{"": cut(bytes, "")}
	for _, x := range "ABCDEFG" {
		h[string(x)] = cut(bytes, "\x00"+string(x))
	}
	for _, x := range [][2]string{{"A", "B"}, {"C", "D"}, {"E", "F"}, {"AB", "CD"}, {"EF", "G"}, {"ABCD", "EFG"}} {
		h[x[0]+x[1]] = cut(bytes, "\x01"+h[x[0]]+h[x[1]])
	}
	return h
}

// noted is a reader that asks another one and writes down what it was asked.
func noted(r Reader) (Reader, *[]api.Addr) {
	var asked []api.Addr
	node := r.Node
	r.Node = func(a api.Addr) (string, api.Errno) {
		asked = append(asked, a)
		return node(a)
	}
	return r, &asked
}

// sevenOf is the reader of the chapter's seven leaves.
func sevenOf(w, bytes int) Reader {
	h := letters(bytes)
	return Of(w, []string{h["A"], h["B"], h["C"], h["D"], h["E"], h["F"], h["G"]})
}

func TestExamples_8_3_to_8_7(t *testing.T) {
	for w, bytes := range widths() {
		h := letters(bytes)
		r, asked := noted(sevenOf(w, bytes))
		for _, c := range []struct {
			call  call
			want  string
			asked []api.Addr
		}{
			{rootCall(1), "A", []api.Addr{at(0, 0)}},
			{rootCall(7), "ABCDEFG", []api.Addr{at(2, 0), at(1, 2), at(0, 6)}},
			{inclusionCall(3, 7), "C AB EFG", []api.Addr{at(0, 2), at(1, 0), at(1, 2), at(0, 6)}},
			{inclusionCall(6, 7), "EF ABCD", []api.Addr{at(1, 2), at(2, 0)}},
			{inclusionCall(0, 1), "", nil},
			{consistencyCall(3, 7), "C D AB EFG", []api.Addr{at(0, 2), at(0, 3), at(1, 0), at(1, 2), at(0, 6)}},
			{consistencyCall(4, 7), "EFG", []api.Addr{at(1, 2), at(0, 6)}},
			{consistencyCall(6, 7), "EF G ABCD", []api.Addr{at(1, 2), at(0, 6), at(2, 0)}},
			{consistencyCall(0, 7), "", nil},
			{consistencyCall(7, 7), "", nil},
			{consistencyCall(0, 0), "", nil},
			{rangeCall(1, 6, 7), "A G", []api.Addr{at(0, 0), at(0, 6)}},
			{rangeCall(0, 7, 7), "", nil},
			{rangeCall(4, 6, 7), "ABCD G", []api.Addr{at(2, 0), at(0, 6)}},
			{multiCall([]int{1, 5}, 7), "A CD E G", []api.Addr{at(0, 0), at(1, 1), at(0, 4), at(0, 6)}},
			{multiCall([]int{3}, 7), "AB C EFG", []api.Addr{at(1, 0), at(0, 2), at(1, 2), at(0, 6)}},
			{multiCall(from(0, 7), 7), "", nil},
		} {
			*asked = nil
			var want []string
			for _, x := range strings.Fields(c.want) {
				want = append(want, h[x])
			}
			if got, e := c.call.ask(r); e != api.OK || !slices.Equal(got, want) || !slices.Equal(*asked, c.asked) {
				t.Errorf("width %d, %s: %x, %d, asked %v, want %s", w, c.call.name, got, e, *asked, c.want)
			}
		}
		*asked = nil
		if got, e := Root(r, 0); got != h[""] || got != tree.Empty(w) || e != api.OK || len(*asked) != 0 {
			t.Errorf("width %d, Root of 0: %x, %d, asked %v", w, got, e, *asked)
		}
	}
}

// wrongInclusion and its like are calls whose numbers may be wrong, so that no parts are reckoned for them.
func wrongInclusion(i, n int) call {
	return call{name: fmt.Sprintf("Inclusion of %d in %d", i, n), ask: func(r Reader) ([]string, api.Errno) { return Inclusion(r, i, n) }}
}

func wrongConsistency(m, n int) call {
	return call{name: fmt.Sprintf("Consistency of %d in %d", m, n), ask: func(r Reader) ([]string, api.Errno) { return Consistency(r, m, n) }}
}

func wrongRange(lo, hi, n int) call {
	return call{name: fmt.Sprintf("Range [%d, %d) in %d", lo, hi, n), ask: func(r Reader) ([]string, api.Errno) { return Range(r, lo, hi, n) }}
}

func wrongMulti(n int, places ...int) call {
	return call{name: fmt.Sprintf("Multi of %v in %d", places[:min(len(places), 20)], n), ask: func(r Reader) ([]string, api.Errno) { return Multi(r, places, n) }}
}

func TestRefusalExamples_8_4_to_8_7(t *testing.T) {
	for w, bytes := range widths() {
		r := sevenOf(w, bytes)
		for _, c := range []struct {
			call call
			want api.Errno
		}{
			{wrongInclusion(7, 7), api.ErrIndex}, {wrongInclusion(-1, 7), api.ErrIndex}, {wrongInclusion(0, 0), api.ErrIndex}, {wrongInclusion(0, 8), api.ErrSize},
			{wrongRange(3, 3, 7), api.ErrIndex}, {wrongRange(3, 8, 7), api.ErrIndex},
			{wrongMulti(7), api.ErrEmpty}, {wrongMulti(7, 3, 3), api.ErrOrder}, {wrongMulti(7, 3, 7, 2), api.ErrIndex}, {wrongMulti(7, 3, 2, 7), api.ErrOrder},
			{wrongConsistency(8, 7), api.ErrSize}, {wrongConsistency(-1, 7), api.ErrSize},
		} {
			refused(t, r, c.call, c.want)
		}
	}
}

func TestGreatExample_8_9(t *testing.T) {
	for w, bytes := range widths() {
		s := newScribe(bytes)
		proof, e := Inclusion(Reader{Width: w, Size: top, Node: s.node}, 0, top)
		if len(proof) != 62 || len(s.asked) != 62 || e != api.OK {
			t.Fatalf("width %d: %d hashes, %d, asked %v", w, len(proof), e, s.asked)
		}
		for l := range 62 {
			if s.asked[l] != at(l, 1) || proof[l] != s.of(at(l, 1)) {
				t.Errorf("width %d: asked %v at %d", w, s.asked[l], l)
			}
		}
	}
}

func TestRefusingExample_8_4(t *testing.T) {
	r := sevenOf(32, 32)
	node := r.Node
	r.Node = func(a api.Addr) (string, api.Errno) {
		if a == at(1, 0) {
			return "", api.ErrDown
		}
		return node(a)
	}
	r, asked := noted(r)
	if proof, e := Inclusion(r, 3, 7); len(proof) != 0 || e != api.ErrDown || !slices.Equal(*asked, []api.Addr{at(0, 2), at(1, 0)}) {
		t.Errorf("%x, %d, asked %v", proof, e, *asked)
	}
}

// wrongCalls are calls of the first n leaves whose other numbers are right and wrong: whoever is refused ahead of all does not look at them.
func wrongCalls(n int) []call {
	list := []call{rootCall(n)}
	for _, x := range []int{0, 1, 3, 7, 8, n, n - 1, -1, top, math.MinInt, math.MaxInt} {
		list = append(list, wrongInclusion(x, n), wrongConsistency(x, n), wrongRange(x, x, n), wrongRange(x, 5, n), wrongRange(0, x, n), wrongMulti(n, x), wrongMulti(n, x, x))
	}
	return append(list, wrongMulti(n), wrongMulti(n, make([]int, most+1)...), wrongMulti(n, from(0, most)...))
}

// sizes are what n may be, right and wrong.
func sizes() []int {
	return append([]int{0, 1, 2, 7, 8, 9, top - 1, top}, -1, -7, top+1, math.MinInt, math.MaxInt)
}

func TestNoReader_8_2(t *testing.T) {
	node := newScribe(1).node
	readers := []Reader{{}, {Size: 7}, {Width: 8, Size: 7}, {Width: 8, Size: top}, {Width: 33, Size: 0}}
	for _, size := range outside() {
		readers = append(readers, Reader{Width: 8, Size: size, Node: node}, Reader{Width: 8, Size: size})
	}
	for _, n := range sizes() {
		for _, c := range wrongCalls(n) {
			for _, r := range readers {
				refused(t, r, c, api.ErrRange)
			}
		}
	}
	for _, r := range readers {
		for _, c := range wrongCalls(r.Size) {
			refused(t, r, c, api.ErrRange)
		}
	}
}

func TestSizeOutside_8_2(t *testing.T) {
	node := newScribe(1).node
	for _, size := range []int{0, 1, 2, 7, 8, 100, top / 2, top - 1, top} {
		for _, n := range append(sizes(), size+1, size+2, size+top, -size-1, 2*size+1) {
			if 0 <= n && n <= size {
				continue
			}
			for _, c := range wrongCalls(n) {
				refused(t, Reader{Width: 1, Size: size, Node: node}, c, api.ErrSize)
			}
		}
	}
	for _, n := range outside() {
		for _, c := range wrongCalls(n) {
			refused(t, Reader{Width: 1, Size: top, Node: node}, c, api.ErrSize)
		}
	}
}

// The tree is that of the first n leaves, whatever else the reader has.
func TestFirstLeaves_8_2(t *testing.T) {
	r := rand.New(rand.NewSource(2))
	for n := range 14 {
		for _, c := range allCalls(r, n) {
			for _, size := range []int{n, n + 1, n + 2, 2*n + 1, 1000, top - 1, top} {
				look(t, 4, 4, size, c)
			}
		}
	}
}

func TestRoot_8_3(t *testing.T) {
	for n := range 300 {
		look(t, 8, 8, n, rootCall(n))
	}
	for _, n := range edges() {
		look(t, 8, 8, top, rootCall(n))
		look(t, 8, 8, n, rootCall(n))
	}
}

func TestInclusion_8_4(t *testing.T) {
	for n := range 70 {
		for i := range n {
			look(t, 8, 8, n, inclusionCall(i, n))
		}
	}
}

func TestInclusionInGreatTrees_8_4(t *testing.T) {
	for _, n := range few() {
		for _, i := range upTo(n, append(edges(), n-1, n-2, n/2)) {
			if i >= 0 {
				look(t, 8, 8, n, inclusionCall(i, n))
			}
		}
	}
}

func TestInclusionRefuses_8_4(t *testing.T) {
	for _, n := range append(from(0, 40), edges()...) {
		r := Reader{Width: 1, Size: n, Node: newScribe(1).node}
		for _, i := range append(outside(), n, n+1, -n-1, n+top) {
			refused(t, r, wrongInclusion(i, n), api.ErrIndex)
		}
	}
	for _, i := range from(-3, 40) {
		refused(t, Reader{Width: 1, Size: 40, Node: newScribe(1).node}, wrongInclusion(i, max(0, min(i, 2))), api.ErrIndex)
	}
}

func TestConsistency_8_5(t *testing.T) {
	for n := range 70 {
		for m := range n + 1 {
			look(t, 8, 8, n, consistencyCall(m, n))
		}
	}
}

func TestConsistencyInGreatTrees_8_5(t *testing.T) {
	for _, n := range few() {
		for _, m := range append(upTo(n, append(edges(), n-1, n-2, n/2)), n) {
			if m >= 0 {
				look(t, 8, 8, n, consistencyCall(m, n))
			}
		}
	}
}

func TestConsistencyRefuses_8_5(t *testing.T) {
	for _, n := range append(from(0, 40), edges()...) {
		r := Reader{Width: 1, Size: top, Node: newScribe(1).node}
		for _, m := range append(outside(), n+1, n+2, -n-1, 2*n+1) {
			refused(t, r, wrongConsistency(m, n), api.ErrSize)
		}
	}
}

func TestRange_8_6(t *testing.T) {
	for n := range 40 {
		for _, c := range rangeCalls(n) {
			look(t, 8, 8, n, c)
		}
	}
}

func TestRangeInGreatTrees_8_6(t *testing.T) {
	for _, n := range few() {
		near := append(upTo(n, few()), n)
		for _, lo := range near {
			for _, hi := range near {
				if lo < hi {
					look(t, 4, 4, n, rangeCall(lo, hi, n))
				}
			}
		}
	}
	for _, p := range edges() {
		for _, r := range []piece{{p, top}, {0, p}, {p, p + 1}, {1, p}, {p, top - 1}, {p / 2, p}, {p, min(p+1000, top)}} {
			if r.lo < r.hi && r.hi <= top {
				look(t, 4, 4, top, rangeCall(r.lo, r.hi, top))
			}
		}
	}
}

func TestRangeRefuses_8_6(t *testing.T) {
	for _, n := range append(from(0, 12), edges()...) {
		r := Reader{Width: 1, Size: n, Node: newScribe(1).node}
		for _, x := range append(outside(), n+1, -n-1) {
			for _, c := range []call{wrongRange(x, n, n), wrongRange(0, x, n), wrongRange(x, x, n), wrongRange(x, 0, n), wrongRange(n, x, n), wrongRange(x, x+1, n)} {
				refused(t, r, c, api.ErrIndex)
			}
		}
		for _, x := range append(upTo(n, few()), n) {
			for _, y := range append(upTo(x, few()), x) {
				refused(t, r, wrongRange(x, y, n), api.ErrIndex)
			}
		}
	}
	for n := range 12 {
		r := Reader{Width: 1, Size: n, Node: newScribe(1).node}
		for lo := -3; lo < 15; lo++ {
			for hi := -3; hi < 15; hi++ {
				if !(0 <= lo && lo < hi && hi <= n) {
					refused(t, r, wrongRange(lo, hi, n), api.ErrIndex)
				}
			}
		}
	}
}

func TestMulti_8_7(t *testing.T) {
	for n := 1; n <= 10; n++ {
		for set := 1; set < 1<<n; set++ {
			places := slices.DeleteFunc(from(0, n), func(i int) bool { return set>>i&1 == 0 })
			look(t, 8, 8, n, multiCall(places, n))
		}
	}
	r := rand.New(rand.NewSource(1))
	for n := 11; n < 90; n++ {
		for range 30 {
			look(t, 8, 8, n, multiCall(some(r, 1+r.Intn(n), n), n))
		}
	}
}

func TestMultiInGreatTrees_8_7(t *testing.T) {
	r := rand.New(rand.NewSource(3))
	for _, n := range edges() {
		if n == 0 {
			continue
		}
		look(t, 4, 4, n, multiCall([]int{0}, n))
		look(t, 4, 4, n, multiCall([]int{n - 1}, n))
		for range 4 {
			look(t, 4, 4, n, multiCall(some(r, 1+r.Intn(30), n), n))
		}
	}
	look(t, 4, 4, top, multiCall(upTo(top, edges()), top))
}

// As many places as may be: side by side, far from one another, at the end.
func TestMultiOfMaxBatch_8_7(t *testing.T) {
	far := make([]int, most)
	for i := range far {
		far[i] = i << 52
	}
	for _, places := range [][]int{from(0, most), from(1, most+1), from(77, most+77), from(top-most, top), far} {
		n := max(2*most, places[most-1]+1)
		look(t, 4, 4, n, multiCall(places, n))
		look(t, 4, 4, top, multiCall(places, top))
	}
	look(t, 4, 4, most, multiCall(from(0, most), most))
}

// wrongPlaces is why places are refused, as 8.7 has it.
func wrongPlaces(places []int, n int) api.Errno {
	switch {
	case len(places) == 0:
		return api.ErrEmpty
	case len(places) > most:
		return api.ErrMany
	}
	for k := range places {
		if places[k] < 0 || places[k] > n-1 {
			return api.ErrIndex
		}
		if k > 0 && places[k-1] >= places[k] {
			return api.ErrOrder
		}
	}
	return api.OK
}

func TestMultiRefuses_8_7(t *testing.T) {
	node := newScribe(1).node
	seven, great := Reader{Width: 1, Size: 7, Node: node}, Reader{Width: 1, Size: top, Node: node}
	for _, x := range append(outside(), 7, 8) {
		for _, places := range [][]int{{x}, {x, 1}, {0, x}, {0, x, 3}, {0, 1, 2, 3, 4, 5, 6, x}, {x, x}} {
			refused(t, seven, wrongMulti(7, places...), api.ErrIndex)
		}
		refused(t, seven, wrongMulti(7, 1, 0, x), api.ErrOrder)
		refused(t, seven, wrongMulti(7, 5, 5, x), api.ErrOrder)
	}
	for _, x := range append(outside(), top) {
		refused(t, great, wrongMulti(top, 0, x), api.ErrIndex)
	}
	for _, n := range from(0, 8) {
		refused(t, seven, wrongMulti(min(n, 7)), api.ErrEmpty)
		refused(t, seven, wrongMulti(min(n, 7), make([]int, most+1)...), api.ErrMany)
		refused(t, seven, wrongMulti(min(n, 7), slices.Repeat([]int{-1}, most+1)...), api.ErrMany)
		refused(t, seven, wrongMulti(0, n), api.ErrIndex)
	}
	refused(t, great, wrongMulti(top, from(0, most+1)...), api.ErrMany)
	refused(t, great, wrongMulti(most, from(0, most+1)...), api.ErrMany)
	refused(t, great, wrongMulti(top, from(0, 5*most)...), api.ErrMany)
}

// All short lists of small numbers.
func TestMultiRefusesShortLists_8_7(t *testing.T) {
	r := Reader{Width: 1, Size: 3, Node: newScribe(1).node}
	for _, a := range from(-1, 5) {
		for _, b := range from(-1, 5) {
			for _, c := range from(-1, 5) {
				for n := range 4 {
					for _, places := range [][]int{{a}, {a, b}, {a, b, c}} {
						if want := wrongPlaces(places, n); want != api.OK {
							refused(t, r, wrongMulti(n, places...), want)
						} else {
							look(t, 1, 1, 3, multiCall(places, n))
						}
					}
				}
			}
		}
	}
}

// One place out of order or outside, at each place of a long list.
func TestMultiRefusesAtEachPlace_8_7(t *testing.T) {
	r := Reader{Width: 1, Size: top, Node: newScribe(1).node}
	for k := range most {
		places := from(5, most+5)
		places[k] = top
		refused(t, r, wrongMulti(top, places...), api.ErrIndex)
		places[k] = -1
		refused(t, r, wrongMulti(top, places...), api.ErrIndex)
		if k > 0 {
			places[k] = places[k-1]
			refused(t, r, wrongMulti(top, places...), api.ErrOrder)
			places[k] = 0
			refused(t, r, wrongMulti(top, places...), api.ErrOrder)
		}
	}
}

func TestWidths_8_3_to_8_7(t *testing.T) {
	r := rand.New(rand.NewSource(4))
	for w, bytes := range widths() {
		for _, n := range []int{0, 1, 2, 3, 6, 7, 8, 13} {
			for _, c := range allCalls(r, n) {
				look(t, w, bytes, n+1, c)
			}
		}
	}
}

func TestGreatTrees_8_3_to_8_7(t *testing.T) {
	r := rand.New(rand.NewSource(5))
	for _, n := range []int{1<<31 - 1, 1 << 32, 1<<32 + 1, top / 3, top / 2, top/2 + 1, top - 100, top - 2, top - 1, top} {
		for _, c := range greatCalls(r, n) {
			look(t, 5, 5, top, c)
		}
	}
}

// lookStopped makes a call of a scribe that says something else at its k'th question.
func lookStopped(t *testing.T, w, bytes int, c call, k int, hash string, errno, want api.Errno) {
	t.Helper()
	s := newScribe(bytes)
	s.stop, s.hash, s.errno = k, hash, errno
	got, e := c.ask(Reader{Width: w, Size: top, Node: s.node})
	if len(got) != 0 || e != want || !slices.Equal(s.asked, c.asks()[:k+1]) {
		t.Errorf("%s, width %d, question %d answered with %d bytes, %d: %x, %d, asked %v, want %d", c.name, w, k, len(hash), errno, got, e, s.asked, want)
	}
}

// lookStops: whatever a Node refuses with, and hashes of whatever other length, at each address that a call asks; the last one too.
func lookStops(t *testing.T, w, bytes int, c call) {
	t.Helper()
	for k := range c.asks() {
		for _, e := range []api.Errno{api.ErrDown, api.ErrHash, api.ErrSize, 1, 999, -1, math.MinInt, math.MaxInt} {
			lookStopped(t, w, bytes, c, k, "", e, e)
			lookStopped(t, w, bytes, c, k, strings.Repeat("h", bytes), e, e)
			lookStopped(t, w, bytes, c, k, strings.Repeat("h", bytes+1), e, e)
		}
		for _, length := range []int{0, 1, bytes - 1, bytes + 1, 31, 32, 33, 64, bytes + 256} {
			if length != bytes {
				lookStopped(t, w, bytes, c, k, strings.Repeat("h", length), api.OK, api.ErrHash)
			}
		}
	}
}

func TestRefusingNodes_8_3_to_8_7(t *testing.T) {
	r := rand.New(rand.NewSource(6))
	for n := range 10 {
		for _, c := range allCalls(r, n) {
			lookStops(t, 8, 8, c)
		}
	}
	for _, c := range []call{rootCall(top - 1), inclusionCall(1, top-1), consistencyCall(top/2+1, top-1), rangeCall(7, 100, top-5), multiCall([]int{0, 9, top / 2}, top-1)} {
		lookStops(t, 32, 32, c)
	}
}

func TestRefusingNodesWidths_8_3_to_8_7(t *testing.T) {
	for w, bytes := range widths() {
		for _, c := range []call{rootCall(1), rootCall(7), inclusionCall(3, 7), consistencyCall(3, 7), rangeCall(1, 5, 7), multiCall([]int{1, 5}, 7)} {
			lookStops(t, w, bytes, c)
		}
	}
}

// Where hashes of another length, refusals and right ones are mixed, the first that is not right counts.
func TestTheFirstWrongNode_8_3_to_8_7(t *testing.T) {
	r := rand.New(rand.NewSource(8))
	for range 3000 {
		n := 1 + r.Intn(40)
		calls := []call{rootCall(n), inclusionCall(r.Intn(n), n), consistencyCall(r.Intn(n+1), n), multiCall(some(r, 1+r.Intn(5), n), n)}
		c := calls[r.Intn(len(calls))]
		asks := c.asks()
		wrong := map[api.Addr]api.Errno{}
		want, stop := api.OK, len(asks)
		for k := len(asks) - 1; k >= 0; k-- {
			if r.Intn(6) == 0 {
				want, stop = []api.Errno{api.ErrHash, api.ErrDown, 777}[r.Intn(3)], k+1
				wrong[asks[k]] = want
			}
		}
		s := newScribe(8)
		got, e := c.ask(Reader{Width: 8, Size: n, Node: func(a api.Addr) (string, api.Errno) {
			h, _ := s.node(a)
			if wrong[a] == api.ErrHash {
				return h + "!", api.OK
			}
			return h, wrong[a]
		}})
		if e != want || !slices.Equal(s.asked, asks[:stop]) || (e != api.OK && len(got) != 0) {
			t.Errorf("%s: %x, %d, asked %v, want %d", c.name, got, e, s.asked, want)
		}
	}
}

// A leaf's hash of another length is refused by a proof that needs it, and by no other.
func TestListsWithAWrongHash_8_1(t *testing.T) {
	hashes := leafHashes(8, 7)
	hashes[2] = "short"
	r := Of(8, hashes)
	for _, c := range []struct {
		call call
		want api.Errno
	}{
		{inclusionCall(3, 7), api.ErrHash}, {inclusionCall(2, 7), api.OK}, {inclusionCall(0, 7), api.OK}, {rootCall(7), api.OK}, {rootCall(3), api.ErrHash},
		{consistencyCall(3, 7), api.ErrHash}, {consistencyCall(2, 7), api.OK}, {consistencyCall(2, 3), api.ErrHash}, {rangeCall(3, 7, 7), api.ErrHash}, {rangeCall(2, 7, 7), api.OK}, {multiCall([]int{0, 3}, 7), api.ErrHash}, {multiCall([]int{0, 2}, 7), api.OK},
	} {
		if got, e := c.call.ask(r); e != c.want || (e != api.OK && len(got) != 0) {
			t.Errorf("%s: %x, %d, want %d", c.call.name, got, e, c.want)
		}
	}
}

// lookStandard holds the calls of a list against the standard's definitions.
func lookStandard(t *testing.T, w int, r Reader, list []string) {
	t.Helper()
	n := len(list)
	if got, e := Root(r, n); got != mth.Root(w, list) || e != api.OK {
		t.Errorf("Root of %d, width %d: %x, %d", n, w, got, e)
	}
	for i := range n + 1 {
		if i < n {
			want, _ := mth.Path(w, i, list)
			if got, e := Inclusion(r, i, n); !slices.Equal(got, want) || e != api.OK {
				t.Errorf("Inclusion of %d in %d, width %d: %x, %d", i, n, w, got, e)
			}
		}
		want, _ := mth.Proof(w, i, list)
		if got, e := Consistency(r, i, n); !slices.Equal(got, want) || e != api.OK {
			t.Errorf("Consistency of %d in %d, width %d: %x, %d", i, n, w, got, e)
		}
	}
}

// leaves are n leaves with their hashes.
func leaves(w, n int) ([]string, []string) {
	list, hashes := make([]string, n), make([]string, n)
	for i := range list {
		list[i] = fmt.Sprint("leaf ", i)
		hashes[i] = tree.Leaf(w, list[i])
	}
	return list, hashes
}

func TestStandard_8_8(t *testing.T) {
	list, hashes := leaves(widest, 45)
	all := Of(widest, hashes)
	for n := range 46 {
		lookStandard(t, widest, all, list[:n])
	}
	for _, n := range []int{0, 1, 5, 16, 33} {
		lookStandard(t, widest, Of(widest, hashes[:n]), list[:n])
	}
}

func TestStandardWidths_8_8(t *testing.T) {
	for w := range widths() {
		list, hashes := leaves(w, 11)
		r := Of(w, hashes)
		for n := range 12 {
			lookStandard(t, w, r, list[:n])
		}
	}
}

// The hashes of Range and Multi are the roots of their parts' leaves, by the standard.
func TestStandardParts_8_8(t *testing.T) {
	list, hashes := leaves(8, 24)
	r := Of(8, hashes)
	rnd := rand.New(rand.NewSource(9))
	for n := range 25 {
		for _, c := range allCalls(rnd, n) {
			var want []string
			for _, p := range c.want {
				want = append(want, mth.Root(8, list[p.lo:p.hi]))
			}
			if got, e := c.ask(r); !slices.Equal(got, want) || e != api.OK {
				t.Errorf("%s: %x, %d, want %x", c.name, got, e, want)
			}
		}
	}
}

// lookCounts: how many hashes there are at most, and how many nodes are asked for them; no address twice.
func lookCounts(t *testing.T, c call, bound int) {
	t.Helper()
	s := newScribe(1)
	got, e := c.ask(Reader{Width: 1, Size: top, Node: s.node})
	if e != api.OK || len(got) > bound || len(s.asked) > 62*len(got) {
		t.Errorf("%s: %d hashes, %d, asked %d times, at most %d hashes", c.name, len(got), e, len(s.asked), bound)
	}
	seen := map[api.Addr]int{}
	for _, a := range s.asked {
		if seen[a]++; seen[a] > 1 {
			t.Errorf("%s: %v asked again", c.name, a)
		}
	}
}

// ceil is chapter 1's Ceil, another way: how often n is halved, rounded up, until it is 1.
func ceil(n int) int {
	if n < 2 {
		return 0
	}
	return bits.Len(uint(n - 1))
}

func TestCounts_8_9(t *testing.T) {
	r := rand.New(rand.NewSource(10))
	for _, n := range append(from(0, 20), edges()...) {
		if ceil(n) != nums.Ceil(n) {
			t.Fatalf("Ceil(%d)", n)
		}
		if n > 0 {
			lookCounts(t, rootCall(n), 1)
		}
		near := upTo(n, few())
		for _, i := range near {
			lookCounts(t, inclusionCall(i, n), ceil(n))
			lookCounts(t, consistencyCall(i, n), ceil(n)+1)
			hi := i + 1 + r.Intn(n-i)
			lookCounts(t, rangeCall(i, hi, n), 2*ceil(n))
			places := some(r, 1+r.Intn(20), n)
			lookCounts(t, multiCall(places, n), len(places)*ceil(n))
		}
	}
}

// The bounds are met: no lower ones would do.
func TestCountsAreMet_8_9(t *testing.T) {
	for _, c := range []struct {
		call call
		want int
	}{
		{inclusionCall(0, top), 62}, {inclusionCall(top-1, top), 62}, {consistencyCall(1, top), 62}, {consistencyCall(top-1, top), 63}, {consistencyCall(top/2+1, top), 63}, {consistencyCall(3, 4), 3},
		{rangeCall(top/2-1, top/2+1, top), 122}, {rangeCall(1, top-1, top), 2}, {multiCall([]int{5}, top), 62}, {multiCall([]int{0, top - 1}, top), 122},
	} {
		s := newScribe(1)
		if got, e := c.call.ask(Reader{Width: 1, Size: top, Node: s.node}); len(got) != c.want || e != api.OK {
			t.Errorf("%s: %d hashes, %d", c.call.name, len(got), e)
		}
	}
	s := newScribe(1)
	if Root(Reader{Width: 1, Size: top, Node: s.node}, top-1); len(s.asked) != 62 {
		t.Errorf("Root of 2^62 - 1: asked %d times", len(s.asked))
	}
}

// answered are the hashes that a call answers, when a scribe of great size is asked, and what it was asked.
func answered(t *testing.T, c call) ([]string, []api.Addr) {
	t.Helper()
	s := newScribe(8)
	got, e := c.ask(Reader{Width: 8, Size: top, Node: s.node})
	if e != api.OK {
		t.Fatalf("%s: %d", c.name, e)
	}
	return got, s.asked
}

func TestRangeIsMulti_8_10(t *testing.T) {
	var ranges []piece
	var in []int
	for n := range 26 {
		for hi := range n + 1 {
			for lo := range hi {
				ranges, in = append(ranges, piece{lo, hi}), append(in, n)
			}
		}
	}
	for _, n := range []int{5000, 1 << 32, top / 3, top - 1, top} {
		for _, lo := range upTo(n, append(few(), n-1, n-most, n-most-1)) {
			for _, k := range []int{1, 2, 9, most - 1, most} {
				if lo+k <= n {
					ranges, in = append(ranges, piece{lo, lo + k}), append(in, n)
				}
			}
		}
	}
	for k, p := range ranges {
		one, askedOne := answered(t, rangeCall(p.lo, p.hi, in[k]))
		other, askedOther := answered(t, multiCall(from(p.lo, p.hi), in[k]))
		if !slices.Equal(one, other) || !slices.Equal(askedOne, askedOther) {
			t.Errorf("Range %v in %d and Multi are not alike", p, in[k])
		}
	}
}

// Multi of one place has the hashes to the left of it first, from left to right: those of Inclusion from the highest down, then those to the right from the lowest up.
func TestMultiOfOneIsInclusion_8_10(t *testing.T) {
	for _, n := range append(from(1, 40), few()[1:]...) {
		for _, i := range upTo(n, append(from(0, 40), few()...)) {
			path, _ := answered(t, inclusionCall(i, n))
			multi, _ := answered(t, multiCall([]int{i}, n))
			var left, right []string
			for k, p := range inclusion(i, n) {
				if p.hi <= i {
					left = slices.Insert(left, 0, path[k])
				} else {
					right = append(right, path[k])
				}
			}
			if !slices.Equal(multi, append(left, right...)) {
				t.Errorf("Multi of %d in %d and Inclusion are not alike", i, n)
			}
		}
	}
}

// What is asked is the same whatever is answered, of whatever width, and however much more the reader has.
func TestWhatIsAsked_8_11(t *testing.T) {
	r := rand.New(rand.NewSource(11))
	calls := greatCalls(r, top-1)
	for n := range 12 {
		calls = append(calls, allCalls(r, n)...)
	}
	readers := []struct {
		w    int
		hash func(a api.Addr) string
	}{
		{8, func(api.Addr) string { return strings.Repeat("\x00", 8) }},
		{8, func(api.Addr) string { return strings.Repeat("\xff", 8) }},
		{1, func(a api.Addr) string { return string([]byte{byte(a.Level)}) }},
		{0, func(a api.Addr) string { return cut(32, fmt.Sprint(a)) }},
		{32, func(a api.Addr) string { return cut(32, fmt.Sprint("other ", a)) }},
	}
	for _, c := range calls {
		for _, x := range readers {
			asked, size := []api.Addr(nil), c.n+r.Intn(top-c.n+1)
			_, e := c.ask(Reader{Width: x.w, Size: size, Node: func(a api.Addr) (string, api.Errno) {
				asked = append(asked, a)
				return x.hash(a), api.OK
			}})
			if e != api.OK || !slices.Equal(asked, c.asks()) {
				t.Errorf("%s, width %d, size %d: %d, asked %v, want %v", c.name, x.w, size, e, asked, c.asks())
			}
		}
	}
}

// The places that are handed in stay as they were, and so does the room behind them and ahead of them; and they may be written into later.
func TestPlacesStay_R4(t *testing.T) {
	r := Of(8, leafHashes(8, 20))
	for k := range 12 {
		for n := range 21 {
			room := from(-2, 30)
			was := slices.Clone(room)
			places := room[3 : 3+k] // from 1 on
			got, e := Multi(r, places, n)
			if !slices.Equal(room, was) {
				t.Fatalf("Multi of %v in %d: the list is %v", was[3:3+k], n, room)
			}
			kept := slices.Clone(got)
			for i := range room {
				room[i] = -9
			}
			again, f := Multi(r, was[3:3+k], n)
			if !slices.Equal(got, kept) || !slices.Equal(got, again) || e != f {
				t.Errorf("Multi of %v in %d: another answer behind it", was[3:3+k], n)
			}
		}
	}
}

// A Node that writes into the places while the call is under way changes nothing of the call.
func TestNodeWritesIntoThePlaces_8_11(t *testing.T) {
	for _, mark := range []int{-1, 0, 3, 6, top, math.MinInt, math.MaxInt} {
		for _, want := range [][]int{{1, 5}, {0, 3, 6}, {4}, {2, 9, 11, 12}} {
			places := slices.Clone(want)
			c := multiCall(want, 13)
			s := newScribe(8)
			got, e := Multi(Reader{Width: 8, Size: 13, Node: func(a api.Addr) (string, api.Errno) {
				for i := range places {
					places[i] = mark
				}
				return s.node(a)
			}}, places, 13)
			if e != api.OK || !slices.Equal(got, c.hashes(s)) || !slices.Equal(s.asked, c.asks()) {
				t.Errorf("%s, with %d written into it: %x, %d, asked %v", c.name, mark, got, e, s.asked)
			}
		}
	}
}

// Answers that are written into and put behind show in no other answer, nor in the reader.
func TestAnswersAreNew_R4(t *testing.T) {
	hashes := leafHashes(8, 13)
	was := slices.Clone(hashes)
	r := Of(8, hashes)
	rnd := rand.New(rand.NewSource(12))
	calls := allCalls(rnd, 13)
	var answers, want [][]string
	for range 2 {
		for _, c := range calls {
			got, e := c.ask(r)
			if e != api.OK {
				t.Fatalf("%s: %d", c.name, e)
			}
			answers, want = append(answers, got), append(want, slices.Clone(got))
		}
	}
	for k, list := range answers {
		if !slices.Equal(list, want[k]) {
			t.Fatalf("%s: an answer was spoilt by another one", calls[k%len(calls)].name)
		}
		for i := range list {
			list[i] = "spoilt"
		}
		full := list[:cap(list)]
		for i := range full {
			full[i] = "spoilt"
		}
		_ = append(list, "behind")
	}
	if !slices.Equal(hashes, was) {
		t.Error("the list's hashes were spoilt")
	}
	for k, c := range calls {
		if got, _ := c.ask(r); !slices.Equal(got, want[k]) {
			t.Errorf("%s: another answer behind spoilt ones", c.name)
		}
	}
}

// A Node may make calls of its own: a call keeps nothing beside itself.
func TestCallsWithinCalls_R2(t *testing.T) {
	inner := Of(8, leafHashes(8, 13))
	outer := inner
	outer.Node = func(a api.Addr) (string, api.Errno) {
		Multi(inner, []int{0, 7, 12}, 13)
		Inclusion(inner, 5, 9)
		Root(inner, 11)
		return inner.Node(a)
	}
	for _, c := range allCalls(rand.New(rand.NewSource(13)), 13) {
		one, e := c.ask(inner)
		if other, f := c.ask(outer); !slices.Equal(one, other) || e != f {
			t.Errorf("%s: %x, %d, and %x, %d", c.name, one, e, other, f)
		}
	}
}

// anyInt is an int that may be anything, and often is near n.
func anyInt(r *rand.Rand, n int) int {
	switch r.Intn(8) {
	case 0:
		list := outside()
		return list[r.Intn(len(list))]
	case 1:
		list := few()
		return list[r.Intn(len(list))]
	}
	return n/2 + r.Intn(9) - 4
}

// anyPlaces are places that may be wrong in any way.
func anyPlaces(r *rand.Rand, n int) []int {
	if r.Intn(10) == 0 {
		return make([]int, most-1+r.Intn(3))
	}
	list := make([]int, r.Intn(4))
	for i := range list {
		list[i] = anyInt(r, n)
	}
	if r.Intn(2) == 0 {
		slices.Sort(list)
	}
	return list
}

// first is the first refusal of some, or OK.
func first(list ...api.Errno) api.Errno {
	for _, e := range list {
		if e != api.OK {
			return e
		}
	}
	return api.OK
}

// when is a refusal, if it holds.
func when(holds bool, e api.Errno) api.Errno {
	if holds {
		return e
	}
	return api.OK
}

// Whatever is given: the first refusal of the chapter's order, with nothing beside it, or the chapter's answer.
func TestWhateverIsGiven_R3(t *testing.T) {
	r := rand.New(rand.NewSource(14))
	met := map[api.Errno]int{}
	judge := func(rd Reader, e api.Errno, wrong call, right func() call) {
		t.Helper()
		met[e]++
		if e != api.OK {
			refused(t, rd, wrong, e)
			return
		}
		look(t, rd.Width, 3, rd.Size, right())
	}
	for range 12000 {
		size := []int{7, 7, 7, 12, 0, 1, top, top - 1, anyInt(r, 7)}[r.Intn(9)]
		rd := Reader{Width: 3, Size: size, Node: newScribe(3).node}
		if r.Intn(20) == 0 {
			rd.Node = nil
		}
		n := []int{size, size, size, anyInt(r, size), anyInt(r, 2*(size%100))}[r.Intn(5)]
		all := first(when(size < 0 || size > top || rd.Node == nil, api.ErrRange), when(n < 0 || n > size, api.ErrSize))
		i, j := anyInt(r, n), anyInt(r, n)
		judge(rd, first(all, when(i < 0 || i >= n, api.ErrIndex)), wrongInclusion(i, n), func() call { return inclusionCall(i, n) })
		judge(rd, first(all, when(i < 0 || i > n, api.ErrSize)), wrongConsistency(i, n), func() call { return consistencyCall(i, n) })
		judge(rd, first(all, when(i < 0 || j <= i || j > n, api.ErrIndex)), wrongRange(i, j, n), func() call { return rangeCall(i, j, n) })
		places := anyPlaces(r, n)
		judge(rd, first(all, wrongPlaces(places, n)), wrongMulti(n, places...), func() call { return multiCall(places, n) })
		if all == api.OK {
			look(t, 3, 3, size, rootCall(n))
		} else if h, e := Root(rd, n); h != "" || e != all {
			t.Errorf("Root of %d, size %d: %x, %d, want %d", n, size, h, e, all)
		}
	}
	for _, e := range []api.Errno{api.OK, api.ErrRange, api.ErrSize, api.ErrIndex, api.ErrEmpty, api.ErrMany, api.ErrOrder} {
		if met[e] < 100 {
			t.Errorf("%d was met %d times only", e, met[e])
		}
	}
}
