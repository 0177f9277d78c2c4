package comp

import (
	"crypto/sha256"
	"fmt"
	"math"
	"math/bits"
	"math/rand"
	"slices"
	"testing"

	"annals/api"
	"annals/mth"
	"annals/tree"
)

const (
	top    = 1 << 62 // MaxSize, written out, so that the tests do not lean on what they look at
	widest = 32
)

// cut is the hash of a text by another program, of w bytes.
func cut(w int, text string) string {
	h := sha256.Sum256([]byte(text))
	return string(h[:w])
}

func at(level, index int) api.Addr {
	return api.Addr{Level: level, Index: index}
}

// fr is a Frontier of such hashes.
func fr(lo, hi int, hashes ...string) api.Frontier {
	return api.Frontier{Lo: lo, Hi: hi, Hashes: hashes}
}

func made(level, index int, hash string) api.Made {
	return api.Made{Addr: at(level, index), Hash: hash}
}

func same(a, b api.Frontier) bool {
	return a.Lo == b.Lo && a.Hi == b.Hi && slices.Equal(a.Hashes, b.Hashes)
}

// widths are all widths that count, each with how many bytes it asks for, and those outside.
func widths() map[int]int {
	m := map[int]int{}
	for w := 1; w <= widest; w++ {
		m[w] = w
	}
	for _, w := range []int{0, -1, -32, -33, 33, 34, 64, 256, 257, 1 << 32, 1<<32 + 4, math.MinInt, math.MinInt + 4, math.MaxInt} {
		m[w] = widest
	}
	return m
}

// outside are ints that are no places.
func outside() []int {
	list := []int{-1, -2, -32, math.MinInt, math.MinInt + 1, math.MaxInt, math.MaxInt - 1, top + 1, top + 2, top + top/2}
	for k := range 62 {
		list = append(list, -1<<k, top+1<<k)
	}
	return list
}

// edges are the places at which a range may begin or end: 0, each power of two, what stands beside it, MaxSize, and others.
func edges() []int {
	list := []int{3, 5, 6, 7, 11, 12, 13, 100, 1000, top - 3, top - 100, top/2 + top/4, top/3 + 1, top / 3 * 2}
	for k := range 63 {
		list = append(list, 1<<k-1, 1<<k, top-1<<k)
		if k < 62 {
			list = append(list, 1<<k+1)
		}
	}
	slices.Sort(list)
	return slices.Compact(list)
}

// few are some of the edges, where all ranges or pairs of ranges are gone through.
func few() []int {
	return []int{0, 1, 2, 3, 7, 8, 12, 100, 1<<31 - 1, 1 << 31, 1<<32 + 1, top / 3, top/3*2 + 1, top/2 - 1, top / 2, top/2 + 1, top/2 + top/4, top - 100, top - 3, top - 2, top - 1, top}
}

// cover is chapter 5's Cover, step by step: at each place the greatest level is looked for from above.
func cover(lo, hi int) []api.Addr {
	var list []api.Addr
	for p := lo; p < hi; {
		for l := 62; ; l-- {
			if p%(1<<l) == 0 && 1<<l <= hi-p {
				list = append(list, at(l, p/(1<<l)))
				p += 1 << l
				break
			}
		}
	}
	return list
}

// model knows hashes of nodes and reckons the others from them, by another program.
type model struct {
	w    int
	hash map[api.Addr]string
}

// of is a node's hash: the known one, or the one above its halves. Leaves that are not known are named by their places.
func (m *model) of(a api.Addr) string {
	h, ok := m.hash[a]
	if !ok {
		if a.Level == 0 {
			h = cut(m.w, "\x00"+leafAt(a.Index))
		} else {
			h = cut(m.w, "\x01"+m.of(at(a.Level-1, 2*a.Index))+m.of(at(a.Level-1, 2*a.Index+1)))
		}
		m.hash[a] = h
	}
	return h
}

// frontier is the range of such ends as the model knows it.
func (m *model) frontier(lo, hi int) api.Frontier {
	f := api.Frontier{Lo: lo, Hi: hi}
	for _, a := range cover(lo, hi) {
		f.Hashes = append(f.Hashes, m.of(a))
	}
	return f
}

// whole are the nodes within lo to hi that lie on both sides of mid, the lowest one first: they become whole when what is left of mid and what is right of it are joined.
func (m *model) whole(lo, mid, hi int) []api.Made {
	var list []api.Made
	for l := 1; l <= 62; l++ {
		i := mid >> l
		if begin := i << l; begin < mid && lo <= begin && hi-begin >= 1<<l {
			list = append(list, api.Made{Addr: at(l, i), Hash: m.of(at(l, i))})
		}
	}
	return list
}

// leafAt is the leaf of a place.
func leafAt(i int) string {
	return fmt.Sprint("leaf ", i)
}

// lists is a model in which all hashes are those of the leaves of leafAt.
func lists(w int) *model {
	return &model{w, map[api.Addr]string{}}
}

// alone is a model in which the nodes of such ranges have hashes of their own, that are no other nodes' hashes: what is reckoned anew shows.
func alone(w int, ranges ...[2]int) *model {
	m := lists(w)
	for _, r := range ranges {
		for _, a := range cover(r[0], r[1]) {
			m.hash[a] = cut(w, fmt.Sprint("alone ", a.Level, a.Index))
		}
	}
	return m
}

// start is a range without leaves; it must be one that there is.
func start(t *testing.T, place int) api.Frontier {
	t.Helper()
	f, e := Start(place)
	if e != api.OK {
		t.Fatalf("Start(%d): %d", place, e)
	}
	return f
}

func mustPush(t *testing.T, w int, f api.Frontier, hash string) (api.Frontier, []api.Made) {
	t.Helper()
	g, list, e := Push(w, f, hash)
	if e != api.OK {
		t.Fatalf("Push(%d) behind %d to %d: %d", w, f.Lo, f.Hi, e)
	}
	return g, list
}

func mustMerge(t *testing.T, w int, a, b api.Frontier) (api.Frontier, []api.Made) {
	t.Helper()
	f, list, e := Merge(w, a, b)
	if e != api.OK {
		t.Fatalf("Merge(%d) of %d to %d and %d to %d: %d", w, a.Lo, a.Hi, b.Lo, b.Hi, e)
	}
	return f, list
}

// pushed is the range of the model's leaves from lo up to hi, pushed one after the other behind Start(lo).
func pushed(t *testing.T, w int, m *model, lo, hi int) api.Frontier {
	t.Helper()
	f := start(t, lo)
	for i := lo; i < hi; i++ {
		f, _ = mustPush(t, w, f, m.of(at(0, i)))
	}
	return f
}

// refusedPush looks whether Push refuses with that number and nothing else.
func refusedPush(t *testing.T, w int, f api.Frontier, hash string, want api.Errno) {
	t.Helper()
	g, list, e := Push(w, f, hash)
	if e != want || !same(g, api.Frontier{}) || len(list) != 0 {
		t.Errorf("Push(%d, %d to %d with %d hashes, %d bytes) = %v, %v, %d, want %d", w, f.Lo, f.Hi, len(f.Hashes), len(hash), g, list, e, want)
	}
}

// refusedMerge looks whether Merge refuses with that number and nothing else.
func refusedMerge(t *testing.T, w int, a, b api.Frontier, want api.Errno) {
	t.Helper()
	g, list, e := Merge(w, a, b)
	if e != want || !same(g, api.Frontier{}) || len(list) != 0 {
		t.Errorf("Merge(%d, %d to %d with %d hashes, %d to %d with %d) = %v, %v, %d, want %d", w, a.Lo, a.Hi, len(a.Hashes), b.Lo, b.Hi, len(b.Hashes), g, list, e, want)
	}
}

// refusedRoot looks whether Root refuses with that number and nothing else.
func refusedRoot(t *testing.T, w int, f api.Frontier, want api.Errno) {
	t.Helper()
	if s, e := Root(w, f); s != "" || e != want {
		t.Errorf("Root(%d, %d to %d with %d hashes) = %x, %d, want %d", w, f.Lo, f.Hi, len(f.Hashes), s, e, want)
	}
}

func TestStart_7_1(t *testing.T) {
	places := edges()
	for i := range 300 {
		places = append(places, i, top-i, top/2+i)
	}
	for _, p := range places {
		if f, e := Start(p); !same(f, fr(p, p)) || e != api.OK {
			t.Errorf("Start(%d) = %v, %d", p, f, e)
		}
	}
}

func TestStartRefuses_7_1(t *testing.T) {
	for _, p := range outside() {
		if f, e := Start(p); !same(f, api.Frontier{}) || e != api.ErrRange {
			t.Errorf("Start(%d) = %v, %d", p, f, e)
		}
	}
}

func TestStartExamples_7_1(t *testing.T) {
	for _, c := range []struct {
		at   int
		want api.Frontier
		e    api.Errno
	}{{5, fr(5, 5), api.OK}, {-1, fr(0, 0), api.ErrRange}, {1 << 62, fr(1<<62, 1<<62), api.OK}, {1<<62 + 1, fr(0, 0), api.ErrRange}} {
		if f, e := Start(c.at); !same(f, c.want) || e != c.e {
			t.Errorf("Start(%d) = %v, %d", c.at, f, e)
		}
	}
}

// wrongLengths are lengths that no hash of so many bytes has.
func wrongLengths(bytes int) []int {
	list := []int{0, 1, bytes - 1, bytes + 1, 31, 32, 33, 64, bytes + 256}
	return slices.DeleteFunc(list, func(n int) bool { return n == bytes })
}

// text is one of n bytes.
func text(n int) string {
	return string(make([]byte, n))
}

// texts are n of them.
func texts(n, bytes int) []string {
	list := make([]string, n)
	for i := range list {
		list[i] = text(bytes)
	}
	return list
}

// checkForms looks at all that may be right and wrong with the hashes of the range from lo to hi.
func checkForms(t *testing.T, w, bytes, lo, hi int) {
	t.Helper()
	n := len(cover(lo, hi))
	if e := Check(w, fr(lo, hi, texts(n, bytes)...)); e != api.OK {
		t.Errorf("Check(%d) of %d to %d = %d", w, lo, hi, e)
	}
	for _, k := range []int{0, 1, n - 1, n + 1, n + 2, 2*n + 1, 200} {
		if k == n || k < 0 {
			continue
		}
		for _, b := range []int{bytes, bytes + 1} {
			if e := Check(w, fr(lo, hi, texts(k, b)...)); e != api.ErrCount {
				t.Errorf("Check(%d) of %d to %d with %d hashes of %d bytes = %d", w, lo, hi, k, b, e)
			}
		}
	}
	for i := range n {
		for _, b := range wrongLengths(bytes) {
			list := texts(n, bytes)
			list[i] = text(b)
			if e := Check(w, fr(lo, hi, list...)); e != api.ErrHash {
				t.Errorf("Check(%d) of %d to %d, hash %d of %d bytes: %d", w, lo, hi, i, b, e)
			}
		}
	}
}

func TestCheck_7_2(t *testing.T) {
	for hi := range 41 {
		for lo := range hi + 1 {
			checkForms(t, 4, 4, lo, hi)
		}
	}
	for _, lo := range few() {
		for _, hi := range few() {
			if lo <= hi {
				checkForms(t, widest, widest, lo, hi)
			}
		}
	}
}

func TestCheckWidths_7_2(t *testing.T) {
	for w, bytes := range widths() {
		for _, r := range [][2]int{{0, 0}, {0, 1}, {5, 6}, {0, 7}, {3, 13}, {9, 9}, {top, top}, {1, top - 1}, {0, top}} {
			checkForms(t, w, bytes, r[0], r[1])
		}
	}
}

// A range of all edges has as many hashes as its nodes are, and neither one less nor one more.
func TestCheckCounts_7_2(t *testing.T) {
	for _, lo := range edges() {
		for _, hi := range edges() {
			if lo > hi {
				continue
			}
			n := len(cover(lo, hi))
			list := texts(n+1, 1)
			for k, want := range map[int]api.Errno{n - 1: api.ErrCount, n: api.OK, n + 1: api.ErrCount} {
				if k < 0 {
					continue
				}
				if e := Check(1, fr(lo, hi, list[:k]...)); e != want {
					t.Fatalf("Check of %d to %d with %d hashes = %d, want %d", lo, hi, k, e, want)
				}
			}
		}
	}
}

// What the hashes are nobody can tell here.
func TestCheckTakesAnyHash_7_2(t *testing.T) {
	for _, h := range []string{"\x00\x00\x00\x00", "\xff\xff\xff\xff", "like", "\x01\x00\xe9\x80"} {
		if e := Check(4, fr(0, 3, h, h)); e != api.OK {
			t.Errorf("Check with the hashes %q = %d", h, e)
		}
	}
}

// badEnds are ends that no range has.
func badEnds() [][2]int {
	list := [][2]int{{1, 0}, {2, 1}, {top, top - 1}, {top, 0}, {5, -5}, {-1, -1}, {-5, 5}, {math.MinInt, math.MaxInt}, {math.MaxInt, math.MinInt}, {top + 1, top + 1}, {math.MinInt, math.MinInt}, {math.MaxInt, math.MaxInt}, {math.MinInt, 0}, {-top, 0}, {-top, top}}
	for _, p := range outside() {
		list = append(list, [2]int{p, 0}, [2]int{p, 1}, [2]int{p, top}, [2]int{p, p}, [2]int{0, p}, [2]int{1, p}, [2]int{top, p})
	}
	return list
}

func TestCheckRefusesEnds_7_2(t *testing.T) {
	for _, ends := range badEnds() {
		for k := range 4 {
			for _, b := range []int{0, 3, 4} {
				if e := Check(4, fr(ends[0], ends[1], texts(k, b)...)); e != api.ErrRange {
					t.Errorf("Check of %d to %d with %d hashes of %d bytes = %d", ends[0], ends[1], k, b, e)
				}
			}
		}
	}
}

func TestCheckExamples_7_2(t *testing.T) {
	for w, bytes := range widths() {
		x, y, z := cut(bytes, "x"), cut(bytes, "y"), cut(bytes, "z")
		for _, c := range []struct {
			f    api.Frontier
			want api.Errno
		}{
			{fr(0, 3, x), api.ErrCount}, {fr(0, 3, x, y+"0"), api.ErrHash}, {fr(2, 1), api.ErrRange}, {fr(0, 3, x, y, z), api.ErrCount},
			{fr(0, 3, x, y), api.OK}, {fr(0, 0), api.OK}, {fr(0, 0, x), api.ErrCount}, {fr(0, top, x), api.OK}, {api.Frontier{}, api.OK},
		} {
			if e := Check(w, c.f); e != c.want {
				t.Errorf("Check(%d, %x) = %d, want %d", w, c.f, e, c.want)
			}
		}
	}
}

// What is put behind a run is the last one, and joins for as long as the last two are halves of one node.
func TestPut_7_3(t *testing.T) {
	for _, c := range []struct {
		lo, hi int
		put    api.Addr
		made   []api.Addr
	}{
		{0, 0, at(0, 0), nil}, {0, 0, at(3, 0), nil}, {8, 8, at(3, 1), nil}, {0, 0, at(62, 0), nil}, {top, top, at(0, 0), nil},
		{0, 1, at(0, 1), []api.Addr{at(1, 0)}}, {1, 2, at(0, 2), nil}, {1, 2, at(1, 1), nil}, {0, 3, at(0, 3), []api.Addr{at(1, 1), at(2, 0)}},
		{1, 4, at(2, 1), nil}, {2, 4, at(2, 1), nil}, {0, 4, at(2, 1), []api.Addr{at(3, 0)}}, {0, 4, at(1, 2), nil}, {0, 6, at(1, 3), []api.Addr{at(2, 1), at(3, 0)}},
		{4, 8, at(2, 2), nil}, {8, 12, at(2, 3), []api.Addr{at(3, 1)}}, {0, top / 2, at(61, 1), []api.Addr{at(62, 0)}}, {1, top / 2, at(61, 1), nil}, {top - 2, top - 1, at(0, top-1), []api.Addr{at(1, top/2-1)}},
	} {
		m := alone(8, [2]int{c.lo, c.hi})
		m.hash[c.put] = cut(8, "put")
		nodes := cover(c.lo, c.hi)
		r := begin(8, m.frontier(c.lo, c.hi), nodes)
		var told []api.Addr
		r.put(c.put, cut(8, "put"), func(a api.Addr, hash string) {
			told = append(told, a)
			if hash != m.of(a) {
				t.Errorf("%v behind %d to %d: %v became whole as %x", c.put, c.lo, c.hi, a, hash)
			}
		})
		end := (c.put.Index + 1) << c.put.Level
		if !slices.Equal(told, c.made) || r.Lo != c.lo || r.Hi != end || len(r.Hashes) != len(nodes)+1-len(c.made) {
			t.Errorf("%v behind %d to %d: %v became whole, %v", c.put, c.lo, c.hi, told, r.Frontier)
		}
	}
}

func TestHalves_7_3(t *testing.T) {
	for l := range 5 {
		for i := range 8 {
			for k := range 5 {
				for j := range 8 {
					want := l == k && i%2 == 0 && j == i+1
					if got := areHalves(at(l, i), at(k, j)); got != want {
						t.Errorf("%v and %v are halves: %v", at(l, i), at(k, j), got)
					}
				}
			}
		}
	}
	if areHalves(at(62, 0), at(62, 0)) || !areHalves(at(61, 0), at(61, 1)) || !areHalves(at(0, top-2), at(0, top-1)) {
		t.Error("the greatest nodes")
	}
}

// starts are places behind which leaves are pushed: small ones, those ahead of and behind great powers of two, the last ones.
func starts() []int {
	var list []int
	for i := range 66 {
		list = append(list, i)
	}
	for _, p := range []int{127, 128, 255, 256, 1000, 1 << 20, 1 << 32, top / 4, top / 2, top/2 + top/4} {
		list = append(list, p-100, p-1, p, p+1)
	}
	return append(list, top-400, top-256, top-129, top-10, top-2, top-1, top)
}

func TestPush_7_4(t *testing.T) {
	for _, lo := range starts() {
		m := lists(widest)
		f := start(t, lo)
		for i := lo; i < min(lo+300, top); i++ {
			var list []api.Made
			f, list = mustPush(t, widest, f, m.of(at(0, i)))
			if want := m.frontier(lo, i+1); !same(f, want) {
				t.Fatalf("leaf %d behind Start(%d): %x, want %x", i, lo, f, want)
			}
			if want := m.whole(lo, i, i+1); !slices.Equal(list, want) {
				t.Fatalf("leaf %d behind Start(%d): made %x, want %x", i, lo, list, want)
			}
		}
	}
}

func TestPushWidths_7_4(t *testing.T) {
	for w, bytes := range widths() {
		for _, lo := range []int{0, 1, 6, top - 33} {
			m := lists(bytes)
			f := start(t, lo)
			for i := lo; i < min(lo+40, top); i++ {
				g, list := mustPush(t, w, f, m.of(at(0, i)))
				if !same(g, m.frontier(lo, i+1)) || !slices.Equal(list, m.whole(lo, i, i+1)) {
					t.Fatalf("width %d, leaf %d behind Start(%d): %x, %x", w, i, lo, g, list)
				}
				f = g
			}
		}
	}
}

// The hashes of a range are taken as they are, whatever they are; its greatest nodes are far greater than any list.
func TestPushBehindAnyRange_7_4(t *testing.T) {
	for _, lo := range edges() {
		for _, hi := range edges() {
			if lo > hi || hi == top {
				continue
			}
			m := alone(4, [2]int{lo, hi})
			leaf := cut(4, "pushed")
			m.hash[at(0, hi)] = leaf
			f, list, e := Push(4, m.frontier(lo, hi), leaf)
			if e != api.OK || !same(f, m.frontier(lo, hi+1)) || !slices.Equal(list, m.whole(lo, hi, hi+1)) {
				t.Fatalf("Push behind %d to %d = %x, %x, %d", lo, hi, f, list, e)
			}
		}
	}
}

// All 62 levels become whole with one leaf.
func TestPushOfTheLastLeaf_7_4(t *testing.T) {
	m := alone(widest, [2]int{0, top - 1})
	f, list := mustPush(t, widest, m.frontier(0, top-1), m.of(at(0, top-1)))
	if len(f.Hashes) != 1 || len(list) != 62 || list[61].Addr != at(62, 0) || list[61].Hash != f.Hashes[0] {
		t.Errorf("the last leaf: %x, %x", f, list)
	}
	for i, n := range list {
		if n.Level != i+1 || n.Hash != m.of(n.Addr) {
			t.Errorf("the last leaf: %v became whole at %d", n.Addr, i)
		}
	}
}

func TestPushExamples_7_4(t *testing.T) {
	for w := range widths() {
		n := func(l, r string) string { return tree.Node(w, l, r) }
		var h []string
		for i := range 4 {
			h = append(h, tree.Leaf(w, leafAt(i)))
		}
		all := n(n(h[0], h[1]), n(h[2], h[3]))
		for _, c := range []struct {
			f    api.Frontier
			i    int
			want api.Frontier
			made []api.Made
		}{
			{fr(0, 0), 0, fr(0, 1, h[0]), nil},
			{fr(0, 1, h[0]), 1, fr(0, 2, n(h[0], h[1])), []api.Made{made(1, 0, n(h[0], h[1]))}},
			{fr(0, 2, n(h[0], h[1])), 2, fr(0, 3, n(h[0], h[1]), h[2]), nil},
			{fr(0, 3, n(h[0], h[1]), h[2]), 3, fr(0, 4, all), []api.Made{made(1, 1, n(h[2], h[3])), made(2, 0, all)}},
			{fr(1, 1), 1, fr(1, 2, h[1]), nil}, {fr(1, 2, h[1]), 2, fr(1, 3, h[1], h[2]), nil},
			{fr(1, 3, h[1], h[2]), 3, fr(1, 4, h[1], n(h[2], h[3])), []api.Made{made(1, 1, n(h[2], h[3]))}},
		} {
			if got, list := mustPush(t, w, c.f, h[c.i]); !same(got, c.want) || !slices.Equal(list, c.made) {
				t.Errorf("Push(%d, %x, H%d) = %x, %x", w, c.f, c.i, got, list)
			}
		}
		refusedPush(t, w, fr(top-1, top, h[0]), h[1], api.ErrRange)
		refusedPush(t, w, fr(0, top, h[0]), h[1], api.ErrRange)
	}
}

func TestPushRefuses_7_4(t *testing.T) {
	for w, bytes := range widths() {
		good := text(bytes)
		for _, b := range wrongLengths(bytes) {
			bad := text(b)
			for _, hash := range []string{good, bad} {
				refusedPush(t, w, fr(2, 1), hash, api.ErrRange)
				refusedPush(t, w, fr(-1, 0, bad), hash, api.ErrRange)
				refusedPush(t, w, fr(0, top+1, good), hash, api.ErrRange)
				refusedPush(t, w, fr(0, 3, good), hash, api.ErrCount)
				refusedPush(t, w, fr(0, 3, bad), hash, api.ErrCount)
				refusedPush(t, w, fr(0, 0, good), hash, api.ErrCount)
				refusedPush(t, w, fr(top, top, good), hash, api.ErrCount)
				refusedPush(t, w, fr(0, top), hash, api.ErrCount)
				refusedPush(t, w, fr(0, 3, good, bad), hash, api.ErrHash)
				refusedPush(t, w, fr(0, top, bad), hash, api.ErrHash)
			}
			refusedPush(t, w, fr(0, 0), bad, api.ErrHash)
			refusedPush(t, w, fr(0, 3, good, good), bad, api.ErrHash)
			refusedPush(t, w, fr(0, top, good), bad, api.ErrHash)
			refusedPush(t, w, fr(top, top), bad, api.ErrHash)
		}
	}
}

func TestPushBehindMaxSize_7_4(t *testing.T) {
	for _, lo := range edges() {
		f := fr(lo, top, texts(len(cover(lo, top)), 4)...)
		refusedPush(t, 4, f, text(4), api.ErrRange)
		refusedPush(t, 4, f, text(5), api.ErrHash)
	}
}

func TestPushRefusesEnds_7_4(t *testing.T) {
	for _, ends := range badEnds() {
		for k := range 3 {
			refusedPush(t, 4, fr(ends[0], ends[1], texts(k, 4)...), text(4), api.ErrRange)
			refusedPush(t, 4, fr(ends[0], ends[1], texts(k, 3)...), text(3), api.ErrRange)
		}
	}
}

// lookMerge merges two neighbours whose nodes have hashes of their own.
func lookMerge(t *testing.T, w, bytes, lo, mid, hi int) {
	t.Helper()
	m := alone(bytes, [2]int{lo, mid}, [2]int{mid, hi})
	f, list, e := Merge(w, m.frontier(lo, mid), m.frontier(mid, hi))
	if e != api.OK || !same(f, m.frontier(lo, hi)) || !slices.Equal(list, m.whole(lo, mid, hi)) {
		t.Errorf("Merge(%d) of %d to %d and %d to %d = %x, %x, %d", w, lo, mid, mid, hi, f, list, e)
	}
}

func TestMerge_7_5(t *testing.T) {
	for hi := range 36 {
		for mid := range hi + 1 {
			for lo := range mid + 1 {
				lookMerge(t, widest, widest, lo, mid, hi)
				lookMerge(t, 5, 5, top-hi, top-mid, top-lo)
			}
		}
	}
}

func TestMergeOfGreatRanges_7_5(t *testing.T) {
	for _, lo := range few() {
		for _, mid := range few() {
			for _, hi := range few() {
				if lo <= mid && mid <= hi {
					lookMerge(t, widest, widest, lo, mid, hi)
				}
			}
		}
	}
	for _, mid := range edges() {
		lookMerge(t, 4, 4, 0, mid, top)
		lookMerge(t, 4, 4, min(mid, 1), mid, max(mid, top-1))
	}
}

func TestMergeWidths_7_5(t *testing.T) {
	for w, bytes := range widths() {
		for hi := range 10 {
			for mid := range hi + 1 {
				lookMerge(t, w, bytes, 0, mid, hi)
				lookMerge(t, w, bytes, mid/2, mid, hi)
			}
		}
	}
}

func TestMergeExamples_7_5(t *testing.T) {
	for w := range widths() {
		n := func(l, r string) string { return tree.Node(w, l, r) }
		var h []string
		for i := range 4 {
			h = append(h, tree.Leaf(w, leafAt(i)))
		}
		all := n(n(h[0], h[1]), n(h[2], h[3]))
		for _, c := range []struct {
			a, b, want api.Frontier
			made       []api.Made
		}{
			{fr(0, 1, h[0]), fr(1, 4, h[1], n(h[2], h[3])), fr(0, 4, all), []api.Made{made(1, 0, n(h[0], h[1])), made(2, 0, all)}},
			{fr(0, 2, h[0]), fr(2, 3, h[1]), fr(0, 3, h[0], h[1]), nil},
			{fr(3, 3), fr(3, 4, h[3]), fr(3, 4, h[3]), nil}, {fr(3, 4, h[3]), fr(4, 4), fr(3, 4, h[3]), nil},
			{fr(0, 0), fr(0, 0), fr(0, 0), nil}, {fr(top, top), fr(top, top), fr(top, top), nil},
		} {
			if got, list := mustMerge(t, w, c.a, c.b); !same(got, c.want) || !slices.Equal(list, c.made) {
				t.Errorf("Merge(%d, %x, %x) = %x, %x", w, c.a, c.b, got, list)
			}
		}
		refusedMerge(t, w, fr(0, 1, h[0]), fr(2, 3, h[2]), api.ErrApart)
	}
}

// Only where one ends and the other begins may they be merged: not with a gap, not over one another, not the other way round.
func TestMergeApart_7_5(t *testing.T) {
	var all []api.Frontier
	for _, hi := range []int{0, 1, 2, 3, 4, 5, 6, 7, 8, top - 1, top} {
		for _, lo := range []int{0, 1, 2, 3, 4, 5, 6, 7, 8, top - 2, top - 1, top} {
			if lo <= hi {
				all = append(all, fr(lo, hi, texts(len(cover(lo, hi)), 4)...))
			}
		}
	}
	for _, a := range all {
		for _, b := range all {
			if a.Hi != b.Lo {
				refusedMerge(t, 4, a, b, api.ErrApart)
			} else if _, _, e := Merge(4, a, b); e != api.OK {
				t.Errorf("Merge of %d to %d and %d to %d: %d", a.Lo, a.Hi, b.Lo, b.Hi, e)
			}
		}
	}
}

func TestMergeRefuses_7_5(t *testing.T) {
	for w, bytes := range widths() {
		good := text(bytes)
		for _, b := range wrongLengths(bytes) {
			bad := text(b)
			wrong := []struct {
				f api.Frontier
				e api.Errno
			}{
				{fr(2, 1), api.ErrRange}, {fr(1, 0, good), api.ErrRange}, {fr(-1, 1, bad), api.ErrRange}, {fr(1, top+1, good), api.ErrRange},
				{fr(0, 1), api.ErrCount}, {fr(1, 2), api.ErrCount}, {fr(1, 1, good), api.ErrCount}, {fr(1, 4, bad), api.ErrCount}, {fr(1, 2, good, good), api.ErrCount},
				{fr(0, 1, bad), api.ErrHash}, {fr(1, 2, bad), api.ErrHash}, {fr(1, 4, good, bad), api.ErrHash}, {fr(0, top, bad), api.ErrHash},
			}
			for _, x := range wrong {
				for _, ok := range []api.Frontier{fr(0, 1, good), fr(1, 2, good), fr(1, 1), fr(7, 8, good), fr(0, top, good)} {
					refusedMerge(t, w, x.f, ok, x.e)
					refusedMerge(t, w, ok, x.f, x.e)
				}
				for _, y := range wrong {
					refusedMerge(t, w, x.f, y.f, x.e)
				}
			}
		}
	}
}

func TestMergeRefusesEnds_7_5(t *testing.T) {
	ok := fr(0, 1, text(4))
	for _, ends := range badEnds() {
		for k := range 3 {
			bad := fr(ends[0], ends[1], texts(k, 4)...)
			refusedMerge(t, 4, bad, ok, api.ErrRange)
			refusedMerge(t, 4, ok, bad, api.ErrRange)
			refusedMerge(t, 4, bad, fr(0, 1), api.ErrRange)
			refusedMerge(t, 4, fr(0, 1), bad, api.ErrCount)
		}
	}
}

// folded is the root above hashes of subtrees that get smaller, by another program.
func folded(w int, hashes []string) string {
	if len(hashes) == 0 {
		return cut(w, "")
	}
	if len(hashes) == 1 {
		return hashes[0]
	}
	return cut(w, "\x01"+hashes[0]+folded(w, hashes[1:]))
}

func TestRoot_7_6(t *testing.T) {
	sizes := edges()
	for n := range 300 {
		sizes = append(sizes, n)
	}
	for _, n := range sizes {
		f := alone(widest, [2]int{0, n}).frontier(0, n)
		if got, e := Root(widest, f); got != folded(widest, f.Hashes) || e != api.OK {
			t.Errorf("Root of 0 to %d = %x, %d", n, got, e)
		}
	}
}

func TestRootWidths_7_6(t *testing.T) {
	for w, bytes := range widths() {
		for _, n := range []int{0, 1, 2, 3, 4, 7, 8, 100, top/3 + 1, top - 1, top} {
			f := alone(bytes, [2]int{0, n}).frontier(0, n)
			if got, e := Root(w, f); got != folded(bytes, f.Hashes) || e != api.OK {
				t.Errorf("Root(%d) of 0 to %d = %x, %d", w, n, got, e)
			}
		}
	}
}

func TestRootExamples_7_6(t *testing.T) {
	for w, bytes := range widths() {
		x, y := cut(bytes, "x"), cut(bytes, "y")
		if got, e := Root(w, fr(0, 0)); got != tree.Empty(w) || e != api.OK {
			t.Errorf("Root(%d) of none = %x, %d", w, got, e)
		}
		if got, e := Root(w, fr(0, 3, x, y)); got != tree.Node(w, x, y) || e != api.OK {
			t.Errorf("Root(%d) of X, Y = %x, %d", w, got, e)
		}
		refusedRoot(t, w, fr(1, 2, x), api.ErrRange)
	}
}

func TestRootRefuses_7_6(t *testing.T) {
	for w, bytes := range widths() {
		good := text(bytes)
		for _, b := range wrongLengths(bytes) {
			bad := text(b)
			refusedRoot(t, w, fr(0, 3, good), api.ErrCount)
			refusedRoot(t, w, fr(0, 0, good), api.ErrCount)
			refusedRoot(t, w, fr(1, 4, good), api.ErrCount)
			refusedRoot(t, w, fr(1, 4, bad), api.ErrCount)
			refusedRoot(t, w, fr(5, 5, good), api.ErrCount)
			refusedRoot(t, w, fr(0, 3, good, bad), api.ErrHash)
			refusedRoot(t, w, fr(0, 3, bad, good), api.ErrHash)
			refusedRoot(t, w, fr(1, 4, good, bad), api.ErrHash)
			refusedRoot(t, w, fr(top-1, top, bad), api.ErrHash)
		}
		refusedRoot(t, w, fr(1, 4, good, good), api.ErrRange)
	}
	for _, lo := range edges() {
		if lo == 0 {
			continue
		}
		refusedRoot(t, 4, fr(lo, lo), api.ErrRange)
		refusedRoot(t, 4, fr(lo, top, texts(len(cover(lo, top)), 4)...), api.ErrRange)
	}
	for _, ends := range badEnds() {
		refusedRoot(t, 4, fr(ends[0], ends[1]), api.ErrRange)
		refusedRoot(t, 4, fr(ends[0], ends[1], text(3)), api.ErrRange)
	}
}

// wrongs is why a range is refused, as 7.2 has it.
func wrongs(bytes int, f api.Frontier) api.Errno {
	if f.Lo < 0 || f.Hi < f.Lo || f.Hi > top {
		return api.ErrRange
	}
	if len(f.Hashes) != len(cover(f.Lo, f.Hi)) {
		return api.ErrCount
	}
	if slices.ContainsFunc(f.Hashes, func(h string) bool { return len(h) != bytes }) {
		return api.ErrHash
	}
	return api.OK
}

// anyRange is a range of whatever ends, which may be as it should.
func anyRange(r *rand.Rand, bytes int) api.Frontier {
	ends := []int{0, 1, 2, 3, 4, 5, 6, 7, 8, top - 1, top}
	if r.Intn(4) == 0 {
		ends = append(outside(), few()...)
	}
	f := fr(ends[r.Intn(len(ends))], ends[r.Intn(len(ends))])
	if f.Lo > f.Hi && r.Intn(8) != 0 {
		f.Lo, f.Hi = f.Hi, f.Lo
	}
	n := 0
	if wrongs(bytes, f) != api.ErrRange {
		n = len(cover(f.Lo, f.Hi))
	}
	if r.Intn(8) == 0 {
		n = max(0, n+r.Intn(3)-1)
	}
	f.Hashes = texts(n, bytes)
	if n > 0 && r.Intn(8) == 0 {
		f.Hashes[r.Intn(n)] = text(r.Intn(40))
	}
	return f
}

// first is the first refusal of some, or OK.
func first(list ...api.Errno) api.Errno {
	for _, e := range list {
		if e != api.OK {
			return e
		}
	}
	return api.OK
}

// when is a refusal, if it holds.
func when(holds bool, e api.Errno) api.Errno {
	if holds {
		return e
	}
	return api.OK
}

// Whatever is given: the first refusal of the chapter's order, with nothing beside it, or a range that goes to where it should.
func TestWhateverIsGiven_R3(t *testing.T) {
	r := rand.New(rand.NewSource(7))
	all := widths()
	met := map[api.Errno]int{}
	for range 20000 {
		w := r.Intn(36) - 1
		bytes := all[w]
		a, b, hash := anyRange(r, bytes), anyRange(r, bytes), text(bytes)
		if r.Intn(6) == 0 {
			hash = text(r.Intn(40))
		}
		if r.Intn(2) == 0 && a.Hi <= b.Hi {
			b = fr(a.Hi, b.Hi, b.Hashes...)
		}
		check := wrongs(bytes, a)
		if e := Check(w, a); e != check {
			t.Errorf("Check(%d, %v) = %d, want %d", w, a, e, check)
		}
		if s, e := Root(w, a); e != first(check, when(a.Lo != 0, api.ErrRange)) || (e != api.OK) != (s == "") {
			t.Errorf("Root(%d, %v) = %x, %d", w, a, s, e)
		}
		push := first(check, when(len(hash) != bytes, api.ErrHash), when(a.Hi == top, api.ErrRange))
		if push != api.OK {
			refusedPush(t, w, a, hash, push)
		} else if f, _ := mustPush(t, w, a, hash); f.Lo != a.Lo || f.Hi != a.Hi+1 || Check(w, f) != api.OK {
			t.Errorf("Push(%d, %v) = %v", w, a, f)
		}
		merge := first(check, wrongs(bytes, b), when(a.Hi != b.Lo, api.ErrApart))
		if merge != api.OK {
			refusedMerge(t, w, a, b, merge)
		} else if f, _ := mustMerge(t, w, a, b); f.Lo != a.Lo || f.Hi != b.Hi || Check(w, f) != api.OK {
			t.Errorf("Merge(%d, %v, %v) = %v", w, a, b, f)
		}
		met[push]++
		met[merge]++
	}
	for _, e := range []api.Errno{api.OK, api.ErrRange, api.ErrCount, api.ErrHash, api.ErrApart} {
		if met[e] < 100 {
			t.Errorf("%d was met %d times only", e, met[e])
		}
	}
}

// roomFor is a copy of a range whose hashes lie within a greater list, with other texts ahead of them and behind them.
func roomFor(f api.Frontier) ([]string, api.Frontier) {
	n := len(f.Hashes)
	room := append(append([]string{"ahead 1", "ahead 2"}, f.Hashes...), "behind 1", "behind 2", "behind 3")
	return room, fr(f.Lo, f.Hi, room[2:2+n]...)
}

func TestListsStayAsTheyWere_7_7(t *testing.T) {
	m := lists(4)
	for hi := range 24 {
		for mid := range hi + 1 {
			for lo := range mid + 1 {
				roomA, a := roomFor(m.frontier(lo, mid))
				roomB, b := roomFor(m.frontier(mid, hi))
				wasA, wasB := slices.Clone(roomA), slices.Clone(roomB)
				look := func(call string) {
					if !slices.Equal(roomA, wasA) || !slices.Equal(roomB, wasB) {
						t.Fatalf("%s of %d, %d, %d changed a list that was handed in, or what lies beside it", call, lo, mid, hi)
					}
				}
				Check(4, a)
				look("Check")
				Root(4, a)
				look("Root")
				Push(4, a, text(4))
				look("Push")
				Push(4, a, text(5))
				look("Push that refuses")
				Merge(4, a, b)
				look("Merge")
				Merge(4, b, a)
				look("Merge the other way round")
				Merge(5, a, b)
				look("Merge that refuses")
			}
		}
	}
}

// Two ranges whose hashes lie in one list, the second ones where the first ones have room: neither is written over while they are merged.
func TestListsInOneRoom_7_7(t *testing.T) {
	m := lists(4)
	for hi := range 24 {
		for mid := range hi + 1 {
			for lo := range mid + 1 {
				a, b := m.frontier(lo, mid), m.frontier(mid, hi)
				room := slices.Concat(a.Hashes, b.Hashes, []string{"behind 1", "behind 2"})
				was, n, k := slices.Clone(room), len(a.Hashes), len(b.Hashes)
				a.Hashes, b.Hashes = room[:n], room[n:n+k]
				f, list := mustMerge(t, 4, a, b)
				if !slices.Equal(room, was) || !same(f, m.frontier(lo, hi)) || !slices.Equal(list, m.whole(lo, mid, hi)) {
					t.Fatalf("Merge of %d, %d, %d in one room = %x, %x", lo, mid, hi, f, list)
				}
			}
		}
	}
	x := text(4)
	room := []string{x, "behind"}
	f, _ := mustMerge(t, 4, fr(0, 1, room[:1]...), fr(1, 2, room[:1]...))
	if !same(f, fr(0, 2, cut(4, "\x01"+x+x))) || !slices.Equal(room, []string{x, "behind"}) {
		t.Errorf("Merge of two ranges with one list: %x, %x", f, room)
	}
}

// What is done with a list behind a call is not to be seen in what the call answered, nor in what the next one answers of an equal list.
func TestListsAreNotKept_7_7(t *testing.T) {
	m := lists(4)
	for hi := range 20 {
		for mid := range hi + 1 {
			for lo := range mid + 1 {
				leaf := m.of(at(0, mid))
				for range 2 {
					roomA, a := roomFor(m.frontier(lo, mid))
					roomB, b := roomFor(m.frontier(mid, hi))
					f, one := mustMerge(t, 4, a, b)
					g, two := mustPush(t, 4, a, leaf)
					for i := range roomA {
						roomA[i] = "over"
					}
					for i := range roomB {
						roomB[i] = "over"
					}
					if !same(f, m.frontier(lo, hi)) || !slices.Equal(one, m.whole(lo, mid, hi)) {
						t.Errorf("%d, %d, %d: what Merge answered changes with what it was given", lo, mid, hi)
					}
					if !same(g, m.frontier(lo, mid+1)) || !slices.Equal(two, m.whole(lo, mid, mid+1)) {
						t.Errorf("%d, %d: what Push answered changes with what it was given", lo, mid)
					}
				}
			}
		}
	}
}

// spoil writes into a list and into all the room behind it.
func spoil[T any](list []T, with T) {
	list = list[:cap(list)]
	for i := range list {
		list[i] = with
	}
}

// lookApart asks three times, writes into the lists of one answer and puts something behind those of another, and looks whether any of it shows elsewhere.
func lookApart(t *testing.T, name string, want api.Frontier, nodes []api.Made, ask func() (api.Frontier, []api.Made)) {
	t.Helper()
	f, one := ask()
	g, two := ask()
	spoil(f.Hashes, "spoilt")
	if !slices.Equal(one, nodes) {
		t.Errorf("%s: what is written into the hashes shows in what became whole", name)
	}
	spoil(one, made(9, 9, "spoilt"))
	if !same(g, want) || !slices.Equal(two, nodes) {
		t.Errorf("%s: a spoilt answer shows in another", name)
	}
	longer, more := append(g.Hashes, "behind"), append(two, made(9, 9, "behind"))
	h, three := ask()
	other, others := append(h.Hashes, "other"), append(three, made(9, 9, "other"))
	if !same(g, want) || !same(h, want) || !slices.Equal(two, nodes) || !slices.Equal(three, nodes) {
		t.Errorf("%s: what is put behind an answer changes one", name)
	}
	k, n := len(want.Hashes), len(nodes)
	if longer[k] != "behind" || other[k] != "other" || more[n].Hash != "behind" || others[n].Hash != "other" {
		t.Errorf("%s: what is put behind one answer shows behind another", name)
	}
}

func TestAnswersAreApart_7_7(t *testing.T) {
	m := lists(4)
	for hi := range 18 {
		for mid := range hi + 1 {
			for lo := range mid + 1 {
				roomA, a := roomFor(m.frontier(lo, mid))
				roomB, b := roomFor(m.frontier(mid, hi))
				wasA, wasB := slices.Clone(roomA), slices.Clone(roomB)
				lookApart(t, fmt.Sprintf("Merge of %d, %d, %d", lo, mid, hi), m.frontier(lo, hi), m.whole(lo, mid, hi), func() (api.Frontier, []api.Made) {
					return mustMerge(t, 4, a, b)
				})
				lookApart(t, fmt.Sprintf("Push behind %d to %d", lo, mid), m.frontier(lo, mid+1), m.whole(lo, mid, mid+1), func() (api.Frontier, []api.Made) {
					return mustPush(t, 4, a, m.of(at(0, mid)))
				})
				if !slices.Equal(roomA, wasA) || !slices.Equal(roomB, wasB) {
					t.Errorf("%d, %d, %d: what is written into answers shows in what was handed in", lo, mid, hi)
				}
			}
		}
	}
	f, g := start(t, 3), start(t, 3)
	f.Hashes, g.Hashes = append(f.Hashes, "one"), append(g.Hashes, "two")
	if f.Hashes[0] != "one" || g.Hashes[0] != "two" || len(start(t, 3).Hashes) != 0 {
		t.Error("two answers of Start share memory")
	}
}

// Two leaves pushed behind the same range, which has room of its own from an earlier push: neither shows in the other's range, nor in the first one.
func TestTwoRangesFromOne_7_7(t *testing.T) {
	m := lists(4)
	x, y := cut(4, "x"), cut(4, "y")
	for n := range 70 {
		f := pushed(t, 4, m, 0, n)
		g, _ := mustPush(t, 4, f, x)
		h, _ := mustPush(t, 4, f, y)
		for want, got := range map[string]api.Frontier{x: g, y: h} {
			o := lists(4)
			o.hash[at(0, n)] = want
			if !same(got, o.frontier(0, n+1)) {
				t.Errorf("%x behind 0 to %d: %x", want, n, got)
			}
		}
		if !same(f, m.frontier(0, n)) {
			t.Errorf("0 to %d changed as leaves were pushed behind it", n)
		}
	}
}

// Each way to part leaves into runs and to merge the runs ends in a merge of two neighbours; so it is enough that those of all pairs are what is pushed at once.
func TestAnyTwoParts_7_8(t *testing.T) {
	const most = 40
	m := lists(8)
	for _, base := range []int{0, 27, top/2 - 20, top - most} {
		var all [most + 1][most + 1]api.Frontier
		for lo := range most + 1 {
			f := start(t, base+lo)
			for hi := lo; ; hi++ {
				all[lo][hi] = f
				if !same(f, m.frontier(base+lo, base+hi)) {
					t.Fatalf("pushed from %d to %d: %x", base+lo, base+hi, f)
				}
				if hi == most {
					break
				}
				f, _ = mustPush(t, 8, f, m.of(at(0, base+hi)))
			}
		}
		for hi := range most + 1 {
			for mid := range hi + 1 {
				for lo := range mid + 1 {
					if f, _ := mustMerge(t, 8, all[lo][mid], all[mid][hi]); !same(f, all[lo][hi]) {
						t.Fatalf("%d to %d and on to %d: %x", base+lo, base+mid, base+hi, f)
					}
				}
			}
		}
	}
}

// mergeAll merges neighbours of runs, whichever r chooses, until there is one.
func mergeAll(t *testing.T, r *rand.Rand, w int, runs []api.Frontier) (api.Frontier, []api.Made) {
	t.Helper()
	var all []api.Made
	runs = slices.Clone(runs)
	for len(runs) > 1 {
		i := r.Intn(len(runs) - 1)
		f, list := mustMerge(t, w, runs[i], runs[i+1])
		all = append(all, list...)
		runs = slices.Replace(runs, i, i+2, f)
	}
	return runs[0], all
}

func TestInAnyParts_7_8(t *testing.T) {
	r := rand.New(rand.NewSource(78))
	for _, w := range []int{1, 4, widest, 0} {
		m := lists(widths()[w])
		for _, lo := range []int{0, 1, 5, 64, 1000, top/2 - 150, top - 300} {
			for range 12 {
				hi := lo + r.Intn(301)
				cuts := []int{lo, hi}
				for range r.Intn(40) {
					cuts = append(cuts, lo+r.Intn(hi-lo+1))
				}
				slices.Sort(cuts)
				var runs []api.Frontier
				for i := range len(cuts) - 1 {
					runs = append(runs, pushed(t, w, m, cuts[i], cuts[i+1]))
				}
				want := m.frontier(lo, hi)
				for range 3 {
					if f, _ := mergeAll(t, r, w, runs); !same(f, want) {
						t.Fatalf("width %d, %d to %d in %d runs: %x, want %x", w, lo, hi, len(runs), f, want)
					}
				}
			}
		}
	}
}

// listOf are the leaves of the first n places.
func listOf(n int) []string {
	var list []string
	for i := range n {
		list = append(list, leafAt(i))
	}
	return list
}

func TestAsTheStandard_7_9(t *testing.T) {
	const most = 260
	list := listOf(most)
	f := start(t, 0)
	times := map[api.Addr]int{}
	for n := range most + 1 {
		got, e := Root(widest, f)
		if want := mth.Root(widest, list[:n]); got != want || e != api.OK {
			t.Errorf("Root of %d leaves = %x, %d, want %x", n, got, e, want)
		}
		if within := nodesWithin(n); len(times) != len(within) {
			t.Errorf("%d leaves: %d nodes became whole, of %d", n, len(times), len(within))
		}
		for _, a := range nodesWithin(n) {
			if times[a] != 1 {
				t.Errorf("%d leaves: %v became whole %d times", n, a, times[a])
			}
		}
		if n == most {
			break
		}
		var whole []api.Made
		f, whole = mustPush(t, widest, f, tree.Leaf(widest, list[n]))
		for _, x := range whole {
			times[x.Addr]++
			if want, e := mth.Node(widest, x.Addr, list[:n+1]); x.Hash != want || e != api.OK {
				t.Errorf("%d leaves: %v became whole as %x, want %x, %d", n+1, x.Addr, x.Hash, want, e)
			}
		}
	}
}

// nodesWithin are the nodes above level 0 that lie within n leaves.
func nodesWithin(n int) []api.Addr {
	var list []api.Addr
	for l := 1; 1<<l <= n; l++ {
		for i := range n >> l {
			list = append(list, at(l, i))
		}
	}
	return list
}

// The hashes of a range of a list's leaves are those of chapter 6, wherever it begins.
func TestHashesAsTheStandard_7_9(t *testing.T) {
	list := listOf(40)
	for w, bytes := range widths() {
		m := lists(bytes)
		for _, r := range [][2]int{{0, 40}, {0, 31}, {1, 40}, {3, 13}, {8, 24}, {17, 33}} {
			f := pushed(t, w, m, r[0], r[1])
			for i, a := range cover(r[0], r[1]) {
				if want, e := mth.Node(w, a, list); i >= len(f.Hashes) || f.Hashes[i] != want || e != api.OK {
					t.Errorf("width %d, %d to %d: hash %d is not that of %v", w, r[0], r[1], i, a)
				}
			}
			if r[0] != 0 {
				continue
			}
			if got, e := Root(w, f); got != mth.Root(w, list[:r[1]]) || e != api.OK {
				t.Errorf("width %d: Root of %d leaves = %x, %d", w, r[1], got, e)
			}
		}
	}
}

// What became whole while runs were pushed and merged from 0 on is the same, each node once.
func TestWholeOnceInAnyParts_7_9(t *testing.T) {
	r := rand.New(rand.NewSource(79))
	m := lists(8)
	for n := range 90 {
		cuts := []int{0, n}
		for range r.Intn(12) {
			cuts = append(cuts, r.Intn(n+1))
		}
		slices.Sort(cuts)
		var runs []api.Frontier
		var whole []api.Made
		for i := range len(cuts) - 1 {
			f := start(t, cuts[i])
			for p := cuts[i]; p < cuts[i+1]; p++ {
				var list []api.Made
				f, list = mustPush(t, 8, f, m.of(at(0, p)))
				whole = append(whole, list...)
			}
			runs = append(runs, f)
		}
		_, list := mergeAll(t, r, 8, runs)
		times := map[api.Made]int{}
		for _, x := range append(whole, list...) {
			times[x]++
		}
		within := nodesWithin(n)
		for _, a := range within {
			if x := (api.Made{Addr: a, Hash: m.of(a)}); times[x] != 1 {
				t.Errorf("%d leaves: %v became whole %d times", n, a, times[x])
			}
		}
		if len(times) != len(within) {
			t.Errorf("%d leaves: %d nodes became whole, of %d", n, len(times), len(within))
		}
	}
}

// ones are a number's binary digits that are one.
func ones(n int) int {
	return bits.OnesCount(uint(n))
}

// lookWork pushes up to most leaves behind 0 to n, and counts what becomes whole.
func lookWork(t *testing.T, n, most int) {
	t.Helper()
	f := alone(4, [2]int{0, n}).frontier(0, n)
	count := 0
	for m := range most + 1 {
		want := m - ones(n+m) + ones(n)
		if count != want || count > m+62 {
			t.Fatalf("%d leaves behind 0 to %d: %d nodes became whole, not %d", m, n, count, want)
		}
		if m == most || f.Hi == top {
			return
		}
		var list []api.Made
		f, list = mustPush(t, 4, f, text(4))
		count += len(list)
	}
}

func TestWork_7_10(t *testing.T) {
	for n := range 130 {
		lookWork(t, n, 100)
	}
	for _, n := range edges() {
		lookWork(t, n, 10)
	}
	for _, n := range []int{top - 300, top - 64, top/2 - 1, top - 1, top} {
		lookWork(t, n, 300)
	}
}

// Each hash that is made takes memory of its own. So a call that makes 62 of them takes 62 times as much of it as tree.Node, and what the lists want; not once more of it.
func TestNoFurtherHashes_7_10(t *testing.T) {
	x, y := text(widest), text(widest)
	one := testing.AllocsPerRun(100, func() { tree.Node(widest, x, y) })
	if one < 1 {
		t.Fatalf("tree.Node takes memory %v times", one)
	}
	full := alone(widest, [2]int{0, top - 1}).frontier(0, top-1)
	odd := alone(widest, [2]int{1, top - 1}).frontier(1, top-1)
	last := fr(top-1, top, x)
	for _, c := range []struct {
		name  string
		makes float64
		call  func()
	}{
		{"Push of the last leaf", 62, func() { Push(widest, full, x) }},
		{"Merge with the last leaf", 62, func() { Merge(widest, full, last) }},
		{"Push that makes 61", 61, func() { Push(widest, odd, x) }},
		{"Push that makes none", 0, func() { Push(widest, fr(0, top-2, full.Hashes[:61]...), x) }},
		{"Merge that makes none", 0, func() { Merge(widest, fr(0, 0), full) }},
		{"Check", 0, func() { Check(widest, full) }},
	} {
		const room = 40 // room for all lists of a call, each of which grows a few times
		if got := testing.AllocsPerRun(20, c.call); got < c.makes*one || got > c.makes*one+room {
			t.Errorf("%s takes memory %v times; tree.Node, %v times", c.name, got, one)
		}
	}
}
