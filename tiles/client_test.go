package tiles

import (
	"fmt"
	"math"
	"math/rand"
	quick "math/rand/v2" // its sources are made quickly
	"slices"
	"strings"
	"testing"

	"annals/api"
	"annals/check"
	"annals/prove"
	"annals/tree"
	"annals/wire"
)

// clientOf is an honest client of a tree.
func clientOf(f *forest, height int) Client {
	return Client{Height: height, Width: f.w, Size: f.size, Root: f.root(), Fetch: f.serve}
}

// seen has a client's Fetch keep the paths that it is asked for.
func seen(c Client) (Client, *[]string) {
	asked := new([]string)
	fetch := c.Fetch
	c.Fetch = func(path string) (string, api.Errno) {
		*asked = append(*asked, path)
		return fetch(path)
	}
	return c, asked
}

// lying has a client's Fetch answer some paths otherwise.
func lying(c Client, lies map[string]string) Client {
	fetch := c.Fetch
	c.Fetch = func(path string) (string, api.Errno) {
		if b, ok := lies[path]; ok {
			return b, api.OK
		}
		return fetch(path)
	}
	return c
}

// letters are the hashes of seven leaves, A to G.
func letters() []string {
	var l []string
	for _, x := range strings.Split("ABCDEFG", "") {
		l = append(l, tree.Leaf(4, x))
	}
	return l
}

// sevenLeaves is a client of the tree of the chapter's examples.
func sevenLeaves() Client {
	r := prove.Of(4, letters())
	root, _ := prove.Root(r, 7)
	return Client{Height: 2, Width: 4, Size: 7, Root: root, Fetch: func(path string) (string, api.Errno) {
		x, e := Parse(path)
		if e != api.OK {
			return "", e
		}
		return Serve(r, x, 7)
	}}
}

func TestClientExamples(t *testing.T) {
	l := letters()
	c, asked := seen(sevenLeaves())
	r, e := c.Reader()
	if e != api.OK || r.Node == nil || r.Width != 4 || r.Size != 7 {
		t.Fatalf("Reader: %v, %d", r, e)
	}
	fetched := []string{"tile/2/0/001.p/3", "tile/2/1/000.p/1"}
	ab, cd := tree.Node(4, l[0], l[1]), tree.Node(4, l[2], l[3])
	for i, x := range []struct {
		a     api.Addr
		h     string
		e     api.Errno
		fresh string
	}{
		{at(0, 5), l[5], api.OK, ""}, {at(0, 2), l[2], api.OK, "tile/2/0/000"}, {at(1, 0), ab, api.OK, ""}, {at(2, 0), tree.Node(4, ab, cd), api.OK, ""},
		{at(0, 7), "", api.ErrSize, ""}, {at(3, 0), "", api.ErrSize, ""}, {at(0, -1), "", api.ErrAddr, ""},
	} {
		if x.fresh != "" {
			fetched = append(fetched, x.fresh)
		}
		if h, e := r.Node(x.a); h != x.h || e != x.e || !slices.Equal(*asked, fetched) {
			t.Errorf("line %d: Node(%v) = %x, %d, fetched %q, want %x, %d, %q", i, x.a, h, e, *asked, x.h, x.e, fetched)
		}
	}
}

func TestLyingExamples(t *testing.T) {
	l := letters()
	row, _ := wire.Hashes(4, []string{l[0], l[2], l[1], l[3]})
	c, asked := seen(lying(sevenLeaves(), map[string]string{"tile/2/0/000": row}))
	r, e := c.Reader()
	if e != api.OK {
		t.Fatalf("Reader: %d", e)
	}
	*asked = nil
	for i := range 2 {
		if h, e := r.Node(at(0, 2)); h != "" || e != api.ErrTile || len(*asked) != i+1 || (*asked)[i] != "tile/2/0/000" {
			t.Errorf("Node: %x, %d, fetched %q", h, e, *asked)
		}
	}
	c = sevenLeaves()
	c.Root = "root"
	if r, e := c.Reader(); r.Node != nil || r.Size != 0 || r.Width != 0 || e != api.ErrTile {
		t.Errorf("Reader of another root: %v, %d", r, e)
	}
	c.Root = c.Root[1:]
	if r, e := c.Reader(); r.Node != nil || r.Size != 0 || r.Width != 0 || e != api.ErrHash {
		t.Errorf("Reader of a short root: %v, %d", r, e)
	}
	c.Size, c.Root = 0, tree.Empty(4)
	c, asked = seen(c)
	if r, e := c.Reader(); r.Node == nil || r.Size != 0 || r.Width != 4 || e != api.OK || len(*asked) != 0 {
		t.Errorf("Reader of no leaves: %v, %d, fetched %q", r, e, *asked)
	}
}

// shapes are answers to a path that has so many hashes, by what is the matter with each. None of them is a tile's.
func shapes(w, count int, row []string) map[string]string {
	more := append(slices.Clone(row), row[0])
	wider := make([]string, count)
	for i := range wider {
		wider[i] = strings.Repeat("y", wide(w)+1)
	}
	list := map[string]string{
		"nothing": "", "a mark": "H", "another kind": "P" + rowBytes(w, row)[1:], "a byte less": rowBytes(w, row)[:len(rowBytes(w, row))-1], "a byte more": rowBytes(w, row) + "\x00",
		"a hash more": rowBytes(w, more), "a hash less": rowBytes(w, row[1:]), "no hashes": rowBytes(w, nil), "no width": "H\x00" + rowBytes(w, row)[2:],
		"two rows": rowBytes(w, row) + rowBytes(w, row), "another spelling": "H" + string([]byte{byte(wide(w)), byte(count) | 128, byte(count >> 7 << 7), 0}) + strings.Join(row, ""),
	}
	if wide(w) < widest {
		list["a greater width"] = rowBytes(wide(w)+1, wider)
	}
	if wide(w) > 1 {
		narrow := strings.Repeat("y", count*(wide(w)-1))
		head := rowBytes(w, make([]string, count))
		list["a smaller width"] = "H" + string([]byte{byte(wide(w) - 1)}) + head[2:] + narrow
	}
	return list
}

func TestShapes_23_6(t *testing.T) {
	for _, w := range []int{1, 2, 4, 31, 32, 0} {
		f := plant(w, 7)
		for why, b := range shapes(w, 3, f.row(tile(2, 0, 1, 3))) {
			c, asked := seen(lying(clientOf(f, 2), map[string]string{"tile/2/0/001.p/3": b}))
			if r, e := c.Reader(); r.Node != nil || r.Size != 0 || r.Width != 0 || e != api.ErrTile {
				t.Errorf("Reader, width %d, %s in an edge tile: %d, want ErrTile", w, why, e)
			}
			if len(*asked) != 1 {
				t.Errorf("Reader, width %d, %s in an edge tile: fetched %q", w, why, *asked)
			}
		}
		for why, b := range shapes(w, 4, f.row(tile(2, 0, 0, 4))) {
			c, asked := seen(lying(clientOf(f, 2), map[string]string{"tile/2/0/000": b}))
			r, e := c.Reader()
			if e != api.OK {
				t.Fatalf("Reader: %d", e)
			}
			for i := range 2 {
				if h, e := r.Node(at(0, 0)); h != "" || e != api.ErrTile || len(*asked) != 3+i {
					t.Errorf("Node, width %d, %s in a full tile: %x, %d, want ErrTile, fetched %q", w, why, h, e, *asked)
				}
			}
		}
	}
}

// TestOtherTiles_23_9: an answer of another tile that has so many hashes is of the right shape, and not believed.
func TestOtherTiles_23_9(t *testing.T) {
	f := plant(8, 40)
	for other := range 10 {
		path := fmt.Sprintf("tile/2/0/%03d", other)
		b, _ := f.serve(path)
		c := lying(clientOf(f, 2), map[string]string{"tile/2/0/004": b})
		r, _ := c.Reader()
		want := api.ErrTile
		if other == 4 {
			want = api.OK
		}
		if _, e := r.Node(at(1, 9)); e != want {
			t.Errorf("Node with the row of tile %d for that of tile 4: %d, want %d", other, e, want)
		}
	}
}

// TestRefusals_23_6: what Fetch refuses with is the answer, as it came, whatever it tells beside.
func TestRefusals_23_6(t *testing.T) {
	f := plant(4, 7)
	for _, e := range []api.Errno{api.ErrDown, api.ErrTile, api.ErrNone, 1, -1, 9999, math.MinInt, math.MaxInt} {
		for _, path := range []string{"tile/2/0/001.p/3", "tile/2/1/000.p/1", "tile/2/0/000"} {
			for _, empty := range []bool{true, false} {
				c := clientOf(f, 2)
				c.Fetch = func(p string) (string, api.Errno) {
					b, _ := f.serve(p)
					if p != path {
						return b, api.OK
					}
					if empty {
						b = ""
					}
					return b, e
				}
				r, got := c.Reader()
				if path == "tile/2/0/000" && got == api.OK {
					h := ""
					if h, got = r.Node(at(1, 1)); h != "" {
						t.Errorf("Node, Fetch refuses with %d: %x", e, h)
					}
				} else if r.Node != nil || r.Size != 0 || r.Width != 0 {
					t.Errorf("Reader, Fetch refuses with %d: %v", e, r)
				}
				if got != e {
					t.Errorf("Fetch of %s refuses with %d: %d", path, e, got)
				}
			}
		}
	}
}

// TestReaderOrder_23_8: of faults that come together the first one in the chapter's order is answered; nothing is fetched ahead.
func TestReaderOrder_23_8(t *testing.T) {
	f := plant(4, 7)
	for _, height := range []int{math.MinInt, -1, 0, 1, 2, 8, 9, 63, 64, math.MaxInt} {
		for _, size := range []int{math.MinInt, -1, 0, 7, top, top + 1, math.MaxInt} {
			for _, none := range []bool{false, true} {
				for _, root := range []string{f.root(), "", "abc", "abcde", "abcd", strings.Repeat("a", 32)} {
					c, asked := seen(clientOf(f, height))
					c.Size, c.Root = size, root
					if none {
						c.Fetch = nil
					}
					want := api.ErrTile
					if height < 1 || height > high || size < 0 || size > top || none {
						want = api.ErrRange
					} else if len(root) != 4 {
						want = api.ErrHash
					} else if size == top {
						want = api.ErrSize // as the tree of seven leaves refuses
					} else if size == 7 && root == f.root() {
						want = api.OK
					}
					r, e := c.Reader()
					if e != want || (r.Node == nil) != (e != api.OK) {
						t.Errorf("Reader, height %d, size %d, Fetch %v, root %x: %d, want %d", height, size, !none, root, e, want)
					}
					if (want == api.ErrRange || want == api.ErrHash) && len(*asked) > 0 {
						t.Errorf("Reader, height %d, size %d, Fetch %v, root %x: fetched %q", height, size, !none, root, *asked)
					}
				}
			}
		}
	}
}

func TestWidths_23_8(t *testing.T) {
	for _, w := range []int{1, 2, 3, 16, 31, 32, 0, -1, -32, 33, 64, 256, 260, math.MinInt, math.MaxInt} {
		f := plant(w, 13)
		c := clientOf(f, 2)
		r, e := c.Reader()
		if e != api.OK || r.Width != w || r.Size != 13 {
			t.Errorf("Reader of width %d: %d, %d, %d", w, r.Width, r.Size, e)
			continue
		}
		if h, e := r.Node(at(3, 0)); h != f.hash(at(3, 0)) || e != api.OK {
			t.Errorf("Node, width %d: %x, %d", w, h, e)
		}
		for _, n := range []int{0, 1, wide(w) - 1, wide(w) + 1, 33, 64, wide(w) + 256} {
			if n == wide(w) {
				continue
			}
			c.Root = strings.Repeat("r", n)
			if r, e := c.Reader(); r.Node != nil || e != api.ErrHash {
				t.Errorf("Reader of width %d, a root of %d bytes: %d, want ErrHash", w, n, e)
			}
		}
	}
}

// TestNoLeaves_23_8: of no leaves nothing is fetched, and nothing told.
func TestNoLeaves_23_8(t *testing.T) {
	for h := 1; h <= high; h++ {
		for _, w := range []int{1, 4, 32, 0, 99} {
			c := Client{Height: h, Width: w, Root: cut(w, ""), Fetch: func(string) (string, api.Errno) { return "", api.ErrDown }}
			c, asked := seen(c)
			r, e := c.Reader()
			if e != api.OK || r.Node == nil || r.Size != 0 || r.Width != w {
				t.Fatalf("Reader of no leaves: %d", e)
			}
			for a, want := range map[api.Addr]api.Errno{at(0, 0): api.ErrSize, at(62, 0): api.ErrSize, at(0, -1): api.ErrAddr, at(63, 0): api.ErrAddr} {
				if h, e := r.Node(a); h != "" || e != want {
					t.Errorf("Node(%v) of no leaves: %x, %d, want %d", a, h, e, want)
				}
			}
			c.Root = cut(w, "\x00")
			if r, e := c.Reader(); r.Node != nil || e != api.ErrTile {
				t.Errorf("Reader of no leaves, another root: %d, want ErrTile", e)
			}
			if len(*asked) > 0 {
				t.Errorf("no leaves: fetched %q", *asked)
			}
		}
	}
}

// someSizes are sizes of trees of all kinds.
func someSizes(r *rand.Rand) int {
	switch r.Intn(4) {
	case 0:
		return r.Intn(80)
	case 1:
		return r.Intn(3000)
	case 2:
		return 1<<r.Intn(63) - r.Intn(2)
	}
	return r.Intn(1 << (1 + r.Intn(62)))
}

// TestEdge_23_7: the partial tiles are fetched, the levels rising, and nothing else; each of them is borne out by the root.
func TestEdge_23_7(t *testing.T) {
	r := rand.New(rand.NewSource(4))
	sizes := []int{1, 2, 3, 255, 256, 257, 65535, 65536, top - 1, top, top / 2, top/2 - 1, top/2 + 1, top / 3}
	for range 300 {
		sizes = append(sizes, someSizes(r))
	}
	for i, n := range sizes {
		f := plant(1+i%32, n, 0, n/2, n-1)
		h := 1 + i%high
		c, asked := seen(clientOf(f, h))
		if _, e := c.Reader(); e != api.OK {
			t.Fatalf("Reader, height %d, %d leaves: %d", h, n, e)
		}
		var want []string
		for _, x := range edgeOf(h, n) {
			want = append(want, pathOf(x))
		}
		if !slices.Equal(*asked, want) {
			t.Fatalf("Reader, height %d, %d leaves: fetched %q, want %q", h, n, *asked, want)
		}
		for k, path := range want { // a refusal is the last thing that is fetched
			c, asked := seen(clientOf(f, h))
			fetch := c.Fetch
			c.Fetch = func(p string) (string, api.Errno) {
				b, e := fetch(p)
				if p == path {
					return "", api.ErrDown
				}
				return b, e
			}
			if _, e := c.Reader(); e != api.ErrDown || len(*asked) != k+1 {
				t.Fatalf("Reader, height %d, %d leaves, %s is refused: %d, fetched %q", h, n, path, e, *asked)
			}
		}
	}
}

// TestEdgeHashes_23_8: no hash of an edge tile can be another one.
func TestEdgeHashes_23_8(t *testing.T) {
	for h := 1; h <= 4; h++ {
		for n := 1; n < 90; n++ {
			f := plant(16, n)
			for _, x := range edgeOf(h, n) {
				for i := range x.Count {
					row := f.row(x)
					row[i] = cut(16, "another")
					c := lying(clientOf(f, h), map[string]string{pathOf(x): rowBytes(16, row)})
					if r, e := c.Reader(); r.Node != nil || e != api.ErrTile {
						t.Fatalf("Reader, height %d, %d leaves, hash %d of %v is another: %d", h, n, i, x, e)
					}
				}
			}
		}
	}
}

// TestOtherSizes_23_8: a tree of another size has not that root.
func TestOtherSizes_23_8(t *testing.T) {
	f := plant(16, 64)
	for n := range 64 {
		c := clientOf(f, 2)
		c.Size = n
		if r, e := c.Reader(); r.Node != nil || e != api.ErrTile {
			t.Errorf("Reader of %d leaves with the root of 64: %d", n, e)
		}
	}
}

func TestNodeRefuses_23_9(t *testing.T) {
	for _, n := range []int{1, 7, 256, top/3 + 5, top - 1, top} {
		f := plant(4, n, 0, n-1)
		c, asked := seen(clientOf(f, 3))
		r, _ := c.Reader()
		*asked = nil
		for _, l := range []int{math.MinInt, -64, -1, 0, 1, 2, 5, 30, 60, 61, 62, 63, 64, 1 << 62, math.MaxInt} {
			for _, i := range []int{math.MinInt, -1, 0, 1, 2, 7, n - 1, n, n + 1, top - 1, top, top + 1, math.MaxInt} {
				want := f.has(at(l, i))
				h, e := r.Node(at(l, i))
				if e != want || want != api.OK && (h != "" || len(*asked) > 0) || want == api.OK && h != f.hash(at(l, i)) {
					t.Errorf("Node({%d, %d}) of %d leaves: %x, %d, want %d, fetched %q", l, i, n, h, e, want, *asked)
				}
				*asked = nil
			}
		}
	}
}

// TestFromAbove_23_9: tiles are fetched from above down, each once, and one that is not believed is not kept, while those above it are.
func TestFromAbove_23_9(t *testing.T) {
	f := plant(16, 100)
	c, asked := seen(clientOf(f, 1))
	wrong := map[string]bool{}
	fetch := c.Fetch
	c.Fetch = func(path string) (string, api.Errno) {
		b, e := fetch(path)
		if wrong[path] {
			return b[:len(b)-1] + "?", e
		}
		return b, e
	}
	r, _ := c.Reader()
	way := []string{"tile/1/5/000", "tile/1/4/001", "tile/1/3/003", "tile/1/2/007", "tile/1/1/015", "tile/1/0/031"} // of leaf 63
	for k, path := range way {
		wrong[path] = true
		*asked = nil
		if h, e := r.Node(at(0, 63)); h != "" || e != api.ErrTile || !slices.Equal(*asked, way[max(0, k-1):k+1]) {
			t.Fatalf("Node, %s is wrong: %x, %d, fetched %q", path, h, e, *asked)
		}
		*asked = nil
		if h, e := r.Node(at(0, 62)); h != "" || e != api.ErrTile || !slices.Equal(*asked, []string{path}) {
			t.Fatalf("Node, %s is wrong again: %x, %d, fetched %q", path, h, e, *asked)
		}
		if h, e := r.Node(at(6-k, 0)); h != f.hash(at(6-k, 0)) || e != api.OK {
			t.Fatalf("Node above %s, which is wrong: %x, %d", path, h, e)
		}
		delete(wrong, path)
	}
	*asked = nil
	if h, e := r.Node(at(0, 63)); h != f.hash(at(0, 63)) || e != api.OK || !slices.Equal(*asked, []string{"tile/1/0/031"}) {
		t.Fatalf("Node: %x, %d, fetched %q", h, e, *asked)
	}
	*asked = nil
	for i := range 100 {
		if h, e := r.Node(at(0, i)); h != f.hash(at(0, i)) || e != api.OK {
			t.Fatalf("Node of leaf %d: %x, %d", i, h, e)
		}
	}
	for _, path := range *asked {
		if slices.Contains(way, path) {
			t.Errorf("%s is fetched again", path)
		}
	}
}

// TestGreat_23_9: in trees of any size a node is told behind at most a tile a level.
func TestGreat_23_9(t *testing.T) {
	r := rand.New(rand.NewSource(5))
	for i := range 200 {
		n := min(top, someSizes(r)+1)
		switch i {
		case 0, 1, 2, 3, 4, 5, 6, 7:
			n = top
		}
		h := 1 + i%high
		f := plant(1+i%32, n, 0, n/2, n-1, r.Intn(n), r.Intn(n))
		c, asked := seen(clientOf(f, h))
		reader, e := c.Reader()
		if e != api.OK {
			t.Fatalf("Reader, height %d, %d leaves: %d", h, n, e)
		}
		p := &plain{height: h, w: f.w, size: n, root: f.root(), fetch: f.serve}
		p, modelAsked := watchedModel(p)
		p.start()
		for range 40 {
			a := at(0, []int{f.odd[r.Intn(len(f.odd))], r.Intn(n)}[r.Intn(2)])
			if r.Intn(2) == 0 {
				a.Level = r.Intn(63)
				a.Index >>= a.Level
			}
			want, we := p.node(a)
			if h, e := reader.Node(a); h != want || e != we || we == api.OK && h != f.hash(a) {
				t.Fatalf("Node(%v) of %d leaves: %x, %d, want %x, %d", a, n, h, e, want, we)
			}
		}
		if !slices.Equal(*asked, *modelAsked) {
			t.Fatalf("height %d, %d leaves: fetched %q, want %q", h, n, *asked, *modelAsked)
		}
	}
}

// watchedModel has a model keep what it fetches.
func watchedModel(p *plain) (*plain, *[]string) {
	asked := new([]string)
	fetch := p.fetch
	p.fetch = func(path string) (string, api.Errno) {
		*asked = append(*asked, path)
		return fetch(path)
	}
	return p, asked
}

// liar answers as a tree does, but for some lies, which hang on the path and on how often it was asked for.
func liar(f *forest, seed uint64, odds int) func(path string) (string, api.Errno) {
	times := map[string]int{}
	return func(path string) (string, api.Errno) {
		times[path]++
		s := seed
		for _, c := range []byte(path) {
			s = s*131 + uint64(c)
		}
		r := quick.New(quick.NewPCG(s, uint64(times[path])))
		b, e := f.serve(path)
		if e != api.OK || r.IntN(odds) > 0 {
			return b, e
		}
		t, _ := tileOf(path)
		row := f.row(t)
		for range 1 + r.IntN(3) {
			row[r.IntN(len(row))] = cut(f.w, string([]byte{byte(r.IntN(256)), byte(r.IntN(256))}))
		}
		if r.IntN(3) > 0 {
			return rowBytes(f.w, alike(f, t, row, r)), api.OK
		}
		if r.IntN(4) == 0 {
			return b, api.Errno(r.IntN(300) - 10)
		}
		all := shapes(f.w, t.Count, row)
		var names []string
		for name := range all {
			names = append(names, name)
		}
		slices.Sort(names)
		return all[names[r.IntN(len(names))]], api.OK
	}
}

// alike is another row with the root of a full tile's own, if one is found soon: with hashes of one byte there are many.
func alike(f *forest, t api.Tile, row []string, r *quick.Rand) []string {
	if wide(f.w) > 1 || t.Count < 1<<t.Height || t.Height > 2 || r.IntN(2) == 0 {
		return row
	}
	root := above(f.w, f.row(t))
	for range 300 {
		row[r.IntN(len(row))] = string([]byte{byte(r.IntN(256))})
		if above(f.w, row) == root {
			break
		}
	}
	return row
}

// TestScripts holds readers against the model, with lies of all kinds; where hashes are short some of them are believed.
func TestScripts(t *testing.T) {
	r := rand.New(rand.NewSource(6))
	opened, refused, told, believed := 0, 0, 0, 0
	for i := range 3000 {
		w := []int{1, 1, 2, 4, 32, 0}[i%6]
		n := r.Intn(100)
		if i%10 == 0 {
			n = someSizes(r)
		}
		f := plant(w, n, 0, n/2, max(0, n-1))
		h := 1 + r.Intn(3)
		if i%7 == 0 {
			h = 1 + r.Intn(high)
		}
		odds := 1 + r.Intn(12)
		c, asked := seen(Client{Height: h, Width: w, Size: n, Root: f.root(), Fetch: liar(f, uint64(i), odds)})
		p, modelAsked := watchedModel(&plain{height: h, w: w, size: n, root: f.root(), fetch: liar(f, uint64(i), odds)})
		reader, e := c.Reader()
		if want := p.start(); e != want || !slices.Equal(*asked, *modelAsked) {
			t.Fatalf("script %d: Reader, height %d, %d leaves: %d, want %d, fetched %q, want %q", i, h, n, e, want, *asked, *modelAsked)
		}
		if e != api.OK {
			continue
		}
		opened++
		for range 60 {
			a := at(r.Intn(8), r.Intn(n+2))
			a.Index >>= a.Level
			if r.Intn(20) == 0 {
				a = at(wild(r), wild(r))
			}
			got, e := reader.Node(a)
			want, we := p.node(a)
			if got != want || e != we || !slices.Equal(*asked, *modelAsked) {
				t.Fatalf("script %d: Node(%v), height %d, %d leaves: %x, %d, want %x, %d, fetched %q, want %q", i, a, h, n, got, e, want, we, *asked, *modelAsked)
			}
			switch {
			case e == api.ErrTile:
				refused++
			case e == api.OK && got != f.hash(a):
				believed++
			case e == api.OK:
				told++
			}
		}
	}
	if opened < 1000 || refused < 1000 || told < 10000 || believed < 20 {
		t.Errorf("%d readers, %d tiles refused, %d hashes told, %d of them another tree's: too few", opened, refused, told, believed)
	}
}

// TestNobody_23_12: all that a reader has told hangs together up to the root, whatever it was told: so a hash that is not the tree's stands below two texts with one hash.
func TestNobody_23_12(t *testing.T) {
	r := rand.New(rand.NewSource(7))
	wrong, whole := 0, 0
	for i := range 300 {
		w := []int{1, 1, 1, 2, 4}[i%5]
		n := 1 + r.Intn(40)
		f := plant(w, n)
		h := 1 + r.Intn(3)
		c := Client{Height: h, Width: w, Size: n, Root: f.root(), Fetch: liar(f, uint64(10000+i), 1+r.Intn(3))}
		reader, e := c.Reader()
		for tries := 0; e != api.OK && tries < 300; tries++ {
			reader, e = c.Reader()
		}
		if e != api.OK {
			continue
		}
		view := map[api.Addr]string{}
		for l := range 7 {
			for k := 0; (k+1)<<l <= n; k++ {
				for range 100 {
					if x, e := reader.Node(at(l, k)); e == api.OK {
						view[at(l, k)] = x
						break
					}
				}
			}
		}
		for a, x := range view {
			left, ok := view[at(a.Level-1, 2*a.Index)]
			right, too := view[at(a.Level-1, 2*a.Index+1)]
			if ok && too && x != cut(w, "\x01"+left+right) {
				t.Fatalf("the hash of %v is not that of those below it", a)
			}
			if again, e := reader.Node(a); again != x || e != api.OK {
				t.Fatalf("the hash of %v is %x, and then %x, %d", a, x, again, e)
			}
			if x != f.hash(a) {
				wrong++
			}
		}
		var peaks []string
		lo := 0
		for l := 6; l >= 0; l-- {
			if n&(1<<l) != 0 {
				peaks = append(peaks, view[at(l, lo>>l)])
				lo += 1 << l
			}
		}
		root := peaks[len(peaks)-1]
		for k := len(peaks) - 2; k >= 0; k-- {
			root = cut(w, "\x01"+peaks[k]+root)
		}
		if root != f.root() {
			t.Fatalf("height %d, %d leaves: what is told leads to another root", h, n)
		}
		whole++
		if w == 4 && slices.ContainsFunc(f.odd, func(i int) bool { return view[at(0, i)] != "" && view[at(0, i)] != f.hash(at(0, i)) }) {
			t.Errorf("height %d, %d leaves: a leaf's hash of four bytes is another", h, n)
		}
	}
	if whole < 100 || wrong < 100 {
		t.Errorf("%d readers looked at, %d wrong hashes: too few", whole, wrong)
	}
}

// TestEnough_23_11: with honest tiles each node is told, each tile of the tree is fetched once at most, and no other one.
func TestEnough_23_11(t *testing.T) {
	for h := 1; h <= high; h++ {
		for n := 0; n <= 600; n += 1 + n/40 {
			f := plant(4, n)
			own := f.reader()
			c, asked := seen(Client{Height: h, Width: 4, Size: n, Root: f.root(), Fetch: func(path string) (string, api.Errno) {
				x, e := Parse(path)
				if e != api.OK {
					return "", e
				}
				return Serve(own, x, n)
			}})
			r, e := c.Reader()
			if e != api.OK {
				t.Fatalf("Reader, height %d, %d leaves: %d", h, n, e)
			}
			for l := range 11 {
				for i := 0; i<<l <= n+1; i++ {
					want, we := own.Node(at(l, i))
					if x, e := r.Node(at(l, i)); x != want || e != we {
						t.Fatalf("Node({%d, %d}), height %d, %d leaves: %x, %d, want %x, %d", l, i, h, n, x, e, want, we)
					}
				}
			}
			var want []string
			for _, x := range listOf(h, n) {
				want = append(want, pathOf(x))
			}
			slices.Sort(want)
			slices.Sort(*asked)
			if !slices.Equal(*asked, want) { // each of them, since each node was asked for
				t.Fatalf("height %d, %d leaves: fetched %q, want %q", h, n, *asked, want)
			}
		}
	}
}

// proofs are some of a reader's, and whether they are accepted.
func proofs(t *testing.T, f *forest, r prove.Reader, i, j int) {
	t.Helper()
	n, w, root := f.size, f.w, f.root()
	own := f.reader()
	one, e := prove.Inclusion(r, i, n)
	want, _ := prove.Inclusion(own, i, n)
	if !slices.Equal(one, want) || e != api.OK || check.Inclusion(w, i, n, f.hash(at(0, i)), one, root) != api.OK {
		t.Fatalf("Inclusion of %d in %d: %d", i, n, e)
	}
	old, e := prove.Root(r, j)
	if e != api.OK {
		t.Fatalf("Root of %d in %d: %d", j, n, e)
	}
	one, e = prove.Consistency(r, j, n)
	want, _ = prove.Consistency(own, j, n)
	if !slices.Equal(one, want) || e != api.OK || check.Consistency(w, j, n, old, root, one) != api.OK {
		t.Fatalf("Consistency of %d in %d: %d", j, n, e)
	}
	places := slices.Compact([]int{min(i, j-1), max(i, j-1)})
	one, e = prove.Multi(r, places, n)
	want, _ = prove.Multi(own, places, n)
	if !slices.Equal(one, want) || e != api.OK || check.Multi(w, n, places, f.leaves(places), one, root) != api.OK {
		t.Fatalf("Multi of %v in %d: %d", places, n, e)
	}
	places = nil
	for k := i; k < min(n, i+1+j%7); k++ {
		places = append(places, k)
	}
	one, e = prove.Range(r, i, i+len(places), n)
	want, _ = prove.Range(own, i, i+len(places), n)
	if !slices.Equal(one, want) || e != api.OK || check.Range(w, i, n, f.leaves(places), one, root) != api.OK {
		t.Fatalf("Range of %v in %d: %d", places, n, e)
	}
}

func TestProofs_23_11(t *testing.T) {
	r := rand.New(rand.NewSource(8))
	for i := range 200 {
		n := min(top, someSizes(r)+1)
		if i < high {
			n = top
		}
		f := plant(4+i%29, n, 0, n/2, n-1, r.Intn(n))
		c, asked := seen(clientOf(f, 1+i%high))
		reader, e := c.Reader()
		if e != api.OK {
			t.Fatalf("Reader of %d leaves: %d", n, e)
		}
		for range 10 {
			proofs(t, f, reader, r.Intn(n), 1+r.Intn(n))
		}
		known := map[string]int{}
		for _, path := range *asked {
			known[path]++
			x, e := tileOf(path)
			whole := x.Count == 1<<x.Height || slices.Contains(edgeOf(x.Height, n), x)
			if known[path] > 1 || e != api.OK || !whole || x.Height != c.Height {
				t.Fatalf("%s is fetched, height %d, %d leaves", path, c.Height, n)
			}
		}
	}
}

// TestTwoReaders_R2: two readers of one client know nothing of each other, and what becomes of the client is nothing to them.
func TestTwoReaders_R2(t *testing.T) {
	f := plant(8, 30)
	c, asked := seen(clientOf(f, 2))
	one, _ := c.Reader()
	two, _ := c.Reader()
	*asked = nil
	for _, r := range []prove.Reader{one, two, one, two} {
		if h, e := r.Node(at(0, 9)); h != f.hash(at(0, 9)) || e != api.OK {
			t.Errorf("Node: %x, %d", h, e)
		}
	}
	if want := []string{"tile/2/1/000", "tile/2/0/002", "tile/2/1/000", "tile/2/0/002"}; !slices.Equal(*asked, want) {
		t.Errorf("fetched %q, want %q", *asked, want)
	}
	c.Height, c.Width, c.Size, c.Root, c.Fetch = 3, 4, 5, "", nil
	one.Width, one.Size = 0, 0
	if h, e := one.Node(at(0, 29)); h != f.hash(at(0, 29)) || e != api.OK {
		t.Errorf("Node behind a change of the client: %x, %d", h, e)
	}
	if h, e := one.Node(at(0, 1)); h != f.hash(at(0, 1)) || e != api.OK {
		t.Errorf("Node behind a change of the client: %x, %d", h, e)
	}
}

// TestWithin_R2: what a Fetch is asked for may come from another reader of the same client.
func TestWithin_R2(t *testing.T) {
	f := plant(8, 90)
	far, e := clientOf(f, 3).Reader()
	if e != api.OK {
		t.Fatalf("Reader: %d", e)
	}
	c := clientOf(f, 2)
	c.Fetch = func(path string) (string, api.Errno) {
		x, _ := Parse(path)
		return Serve(far, x, 90)
	}
	r, e := c.Reader()
	if e != api.OK {
		t.Fatalf("Reader: %d", e)
	}
	for i := range 90 {
		if h, e := r.Node(at(0, i)); h != f.hash(at(0, i)) || e != api.OK {
			t.Errorf("Node of leaf %d: %x, %d", i, h, e)
		}
	}
}

// TestWild_R1: whatever is given, every call ends.
func TestWild_R1(t *testing.T) {
	r := rand.New(rand.NewSource(9))
	for range 20000 {
		b := make([]byte, r.Intn(40))
		r.Read(b)
		c := Client{Height: wild(r), Width: wild(r), Size: wild(r), Root: string(b), Fetch: func(string) (string, api.Errno) { return string(b), api.Errno(r.Intn(2)) }}
		if r.Intn(2) == 0 {
			c.Height, c.Width = 1+r.Intn(high), len(b)
			c.Fetch = func(path string) (string, api.Errno) {
				x, _ := tileOf(path)
				row := make([]string, x.Count)
				for i := range row {
					row[i] = strings.Repeat(string(b[:min(1, len(b))]), wide(len(b)))
				}
				return rowBytes(len(b), row), api.OK
			}
		}
		reader, e := c.Reader()
		if (reader.Node == nil) != (e != api.OK) {
			t.Fatalf("Reader: %v, %d", reader, e)
		}
		if e == api.OK {
			reader.Node(at(wild(r), wild(r)))
		}
		node := func(api.Addr) (string, api.Errno) { return string(b), api.Errno(r.Intn(2)) }
		Serve(prove.Reader{Width: wild(r), Size: wild(r), Node: node}, anyTile(r), wild(r))
	}
	if _, e := (Client{}).Reader(); e != api.ErrRange {
		t.Errorf("Reader of a client of nothing: %d", e)
	}
}
