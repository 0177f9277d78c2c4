package tiles

import (
	"math"
	"math/big"
	"math/rand"
	"slices"
	"testing"

	"annals/api"
	"annals/prove"
	"annals/tree"
	"annals/wire"
)

func TestServeExamples(t *testing.T) {
	var l []string
	for _, x := range []string{"a", "b", "c", "d", "e", "f", "g"} {
		l = append(l, tree.Leaf(4, x))
	}
	want, _ := wire.Hashes(4, l[4:])
	if b, e := Serve(prove.Of(4, l), tile(2, 0, 1, 3), 7); b != want || b != rowBytes(4, l[4:]) || e != api.OK {
		t.Errorf("Serve: %x, %d, want %x", b, e, want)
	}
	if b, e := Serve(prove.Of(4, l), tile(2, 0, 1, 3), 6); b != "" || e != api.ErrSize {
		t.Errorf("Serve: %x, %d, want ErrSize", b, e)
	}
}

func TestAllExamples(t *testing.T) {
	for _, c := range []struct {
		height, n int
		list      []api.Tile
		e         api.Errno
	}{
		{2, 7, []api.Tile{tile(2, 0, 0, 4), tile(2, 0, 1, 3), tile(2, 1, 0, 1)}, api.OK},
		{1, 3, []api.Tile{tile(1, 0, 0, 2), tile(1, 0, 1, 1), tile(1, 1, 0, 1)}, api.OK},
		{8, 0, nil, api.OK},
		{8, 256, []api.Tile{tile(8, 0, 0, 256), tile(8, 1, 0, 1)}, api.OK},
		{0, 7, nil, api.ErrRange},
		{1, 1 << 62, nil, api.ErrMany},
		{1, -1, nil, api.ErrRange},
	} {
		if list, e := All(c.height, c.n); !slices.Equal(list, c.list) || e != c.e {
			t.Errorf("All(%d, %d) = %v, %d, want %v, %d", c.height, c.n, list, e, c.list, c.e)
		}
	}
}

// watched is a reader that keeps what it was asked for.
func watched(r prove.Reader) (prove.Reader, *[]api.Addr) {
	asked := new([]api.Addr)
	node := r.Node
	r.Node = func(a api.Addr) (string, api.Errno) {
		*asked = append(*asked, a)
		return node(a)
	}
	return r, asked
}

// wantServed is 23.4 of a reader that is a forest's own.
func wantServed(f *forest, x api.Tile, n int) (string, api.Errno) {
	if !isTile(x) {
		return "", api.ErrPath
	}
	if n < 0 || n > f.size || leavesOf(x).Cmp(big.NewInt(int64(n))) > 0 {
		return "", api.ErrSize
	}
	return rowBytes(f.w, f.row(x)), api.OK
}

// served holds Serve against the model, what it asks for too.
func served(t *testing.T, f *forest, x api.Tile, n int) api.Errno {
	t.Helper()
	r, asked := watched(f.reader())
	want, we := wantServed(f, x, n)
	b, e := Serve(r, x, n)
	if b != want || e != we {
		t.Fatalf("Serve(size %d, %v, %d) = %x, %d, want %x, %d", f.size, x, n, b, e, want, we)
	}
	var nodes []api.Addr
	if e == api.OK {
		for i := range x.Count {
			nodes = append(nodes, at(x.Level*x.Height, x.Index*(1<<x.Height)+i))
		}
	}
	if !slices.Equal(*asked, nodes) {
		t.Fatalf("Serve(size %d, %v, %d) asks for %v, want %v", f.size, x, n, *asked, nodes)
	}
	return e
}

func TestServe_23_4(t *testing.T) {
	for size := range 20 {
		f := plant(4, size)
		for h := 1; h <= 4; h++ {
			for l := range 5 {
				for index := range 11 {
					for count := range 1<<h + 2 {
						for n := -1; n <= size+1; n++ {
							served(t, f, tile(h, l, index, count), n)
						}
					}
				}
			}
		}
	}
}

func TestServeGreat_23_4(t *testing.T) {
	r := rand.New(rand.NewSource(3))
	ok := 0
	for range 300 {
		size := max(0, min(top, wild(r)))
		f := plant(1+r.Intn(32), size, 0, size/2, size/3, max(0, size-1))
		for range 40 {
			x := anyTile(r)
			n := []int{size, size, size - 1, wild(r), size + 1}[r.Intn(5)]
			if isTile(x) && r.Intn(3) == 0 {
				n = int(leavesOf(x).Int64()) - r.Intn(2)
			}
			if served(t, f, x, n) == api.OK {
				ok++
			}
		}
	}
	if ok < 500 {
		t.Errorf("only %d tiles are served", ok)
	}
}

// TestServeLast_23_4: a tile lies in a tree as soon as the last leaf below it does.
func TestServeLast_23_4(t *testing.T) {
	for h := 1; h <= high; h++ {
		for l := 0; l*h <= 62; l++ {
			count := min(1<<h, top>>(l*h))
			for _, x := range []api.Tile{tile(h, l, 0, 1), tile(h, l, 0, count), tile(h, l, max(0, top>>(l*h)>>h-1), count)} {
				end := int(leavesOf(x).Int64())
				f := plant(2, top, 1<<h, end-1)
				if e := served(t, f, x, end); e != api.OK {
					t.Errorf("Serve(%v, %d): %d", x, end, e)
				}
				if e := served(t, f, x, end-1); e != api.ErrSize {
					t.Errorf("Serve(%v, %d): %d, want ErrSize", x, end-1, e)
				}
				f = plant(2, end-1, 0)
				if e := served(t, f, x, end); e != api.ErrSize {
					t.Errorf("Serve(%v, %d) of %d leaves: %d, want ErrSize", x, end, f.size, e)
				}
			}
		}
	}
}

func TestServeWidths_23_4(t *testing.T) {
	for _, w := range []int{1, 2, 31, 32, 0, -1, 33, 64, 256, 257, math.MinInt, math.MaxInt} {
		f := plant(w, 9)
		for _, x := range []api.Tile{tile(3, 0, 0, 8), tile(1, 2, 1, 1), tile(2, 0, 2, 1)} {
			served(t, f, x, 9)
		}
	}
}

// TestServeOrder_23_4: of faults that come together the first one in the chapter's order is answered.
func TestServeOrder_23_4(t *testing.T) {
	good := plant(4, 7).reader()
	for _, x := range []api.Tile{tile(2, 0, 0, 4), tile(2, 0, 0, 5), tile(2, 0, 2, 1), tile(0, 0, 0, 1)} {
		for _, size := range []int{7, 6, 0, -1, math.MinInt, top, top + 1, math.MaxInt} {
			for _, none := range []bool{false, true} {
				for _, n := range []int{7, 6, 4, 3, 0, -1, 8, math.MinInt, math.MaxInt, top, top + 1} {
					r, asked := watched(good)
					r.Size = size
					if none {
						r.Node = nil
					}
					want := api.OK
					switch {
					case !isTile(x):
						want = api.ErrPath
					case size < 0 || size > top || none:
						want = api.ErrRange
					case n < 0 || n > size || leavesOf(x).Cmp(big.NewInt(int64(n))) > 0:
						want = api.ErrSize
					case x.Index == 2: // within a reader that tells more than it knows
						want = api.ErrSize
					}
					b, e := Serve(r, x, n)
					if e != want || (b == "") != (want != api.OK) {
						t.Errorf("Serve(size %d, none %v, %v, %d) = %x, %d, want %d", size, none, x, n, b, e, want)
					}
					if want != api.OK && x.Index == 0 && len(*asked) != 0 {
						t.Errorf("Serve(size %d, none %v, %v, %d) asks for %v", size, none, x, n, *asked)
					}
				}
			}
		}
	}
}

// TestServeWrongNodes_23_4: the first node that is refused, or is no hash, is the last that is asked for.
func TestServeWrongNodes_23_4(t *testing.T) {
	for _, w := range []int{4, 1, 32, 0, 33} {
		f := plant(w, 20)
		for wrong := range 8 {
			for _, c := range []struct {
				h string
				e api.Errno
				w api.Errno
			}{
				{"", api.ErrDown, api.ErrDown}, {"abcd", api.ErrDown, api.ErrDown}, {"", api.Errno(-7), -7}, {"", api.Errno(9999), 9999}, {f.hash(at(0, 0)), api.ErrOver, api.ErrOver},
				{"", api.OK, api.ErrHash}, {f.hash(at(0, 0))[1:], api.OK, api.ErrHash}, {f.hash(at(0, 0)) + "x", api.OK, api.ErrHash}, {string(make([]byte, 255)), api.OK, api.ErrHash}, {string(make([]byte, 256+wide(w))), api.OK, api.ErrHash},
			} {
				r, asked := watched(prove.Reader{Width: w, Size: 20, Node: func(a api.Addr) (string, api.Errno) {
					if a.Index == 8+wrong {
						return c.h, c.e
					}
					return f.hash(a), api.OK
				}})
				if b, e := Serve(r, tile(3, 0, 1, 8), 20); b != "" || e != c.w {
					t.Errorf("Serve, width %d, node %d is %q, %d: %x, %d, want %d", w, wrong, c.h, c.e, b, e, c.w)
				}
				if len(*asked) != wrong+1 {
					t.Errorf("Serve, node %d is wrong, asks for %v", wrong, *asked)
				}
			}
		}
	}
}

// TestServeWithin_R2: a node may be served by the same call.
func TestServeWithin_R2(t *testing.T) {
	f := plant(4, 20)
	inner := f.reader()
	r := prove.Reader{Width: 4, Size: 20, Node: func(a api.Addr) (string, api.Errno) {
		b, e := Serve(inner, tile(1, a.Level, a.Index/2, 2), 20)
		row, _, _ := wire.UnHashes(b)
		return row[a.Index%2], e
	}}
	want := rowBytes(4, f.row(tile(2, 0, 3, 4)))
	if b, e := Serve(r, tile(2, 0, 3, 4), 20); b != want || e != api.OK {
		t.Errorf("Serve: %x, %d, want %x", b, e, want)
	}
}

func TestAll_23_5(t *testing.T) {
	for h := 1; h <= high; h++ {
		for n := range 1200 {
			list, e := All(h, n)
			if want := listOf(h, n); !slices.Equal(list, want) || e != api.OK {
				t.Fatalf("All(%d, %d) = %v, %d, want %v", h, n, list, e, want)
			}
		}
		for _, n := range []int{4095, 4096, 4097, 65535, 65536, 65537, 65538, 65792, 100000} {
			list, e := All(h, n)
			if want := listOf(h, n); len(want) <= listed && (!slices.Equal(list, want) || e != api.OK) {
				t.Errorf("All(%d, %d): %d tiles, %d, want %d", h, n, len(list), e, len(want))
			}
		}
	}
}

// tilesOf is how many tiles a tree has: of each row, so many as it has hashes, divided by 2^height, rounded up.
func tilesOf(height, n int) *big.Int {
	sum := new(big.Int)
	for l := 0; l*height <= 62; l++ {
		m := n / (1 << (l * height))
		sum.Add(sum, big.NewInt(int64(m/(1<<height))))
		if m%(1<<height) > 0 {
			sum.Add(sum, big.NewInt(1))
		}
	}
	return sum
}

func TestAllMany_23_5(t *testing.T) {
	for h := 1; h <= high; h++ {
		lo, hi := 0, top // the greatest tree that has not too many tiles
		for lo < hi {
			mid := lo + (hi-lo+1)/2
			if tilesOf(h, mid).Cmp(big.NewInt(listed)) <= 0 {
				lo = mid
			} else {
				hi = mid - 1
			}
		}
		if list, e := All(h, lo); e != api.OK || len(list) != int(tilesOf(h, lo).Int64()) || !slices.Equal(list, listOf(h, lo)) {
			t.Errorf("All(%d, %d): %d tiles, %d", h, lo, len(list), e)
		}
		for _, n := range []int{lo + 1, lo + 2, 2 * lo, 1 << 40, 1<<61 - 1, 1 << 61, top - 1, top} {
			if list, e := All(h, n); list != nil || e != api.ErrMany {
				t.Errorf("All(%d, %d): %d tiles, %d, want ErrMany", h, n, len(list), e)
			}
		}
	}
}

func TestAllRefuses_23_5(t *testing.T) {
	for _, h := range []int{math.MinInt, -64, -8, -1, 0, 1, 2, 7, 8, 9, 10, 62, 63, 64, 65, math.MaxInt} {
		for _, n := range []int{math.MinInt, -top, -1, 0, 1, 255, 256, 257, top - 1, top, top + 1, math.MaxInt} {
			list, e := All(h, n)
			want := api.OK
			if h < 1 || h > high || n < 0 || n > top {
				want = api.ErrRange
			} else if tilesOf(h, n).Cmp(big.NewInt(listed)) > 0 {
				want = api.ErrMany
			}
			if e != want || want != api.OK && list != nil {
				t.Errorf("All(%d, %d): %d tiles, %d, want %d", h, n, len(list), e, want)
			}
		}
	}
}

// TestEachHashOnce_23_5: each hash of a row stands in one tile, and each tile goes, lies in the tree, and is served.
func TestEachHashOnce_23_5(t *testing.T) {
	for h := 1; h <= 4; h++ {
		for n := range 130 {
			f := plant(2, n)
			list, _ := All(h, n)
			seen := map[api.Addr]int{}
			for _, x := range list {
				if b, e := Serve(f.reader(), x, n); b != rowBytes(2, f.row(x)) || e != api.OK {
					t.Fatalf("Serve(%v, %d): %d", x, n, e)
				}
				for i := range x.Count {
					seen[at(x.Level*h, x.Index<<h+i)]++
				}
			}
			count := 0
			for l := 0; n>>l > 0; l += h {
				for i := range n >> l {
					count++
					if seen[at(l, i)] != 1 {
						t.Fatalf("height %d, %d leaves: {%d, %d} stands in %d tiles", h, n, l, i, seen[at(l, i)])
					}
				}
			}
			if count != len(seen) {
				t.Fatalf("height %d, %d leaves: %d hashes stand in tiles, want %d", h, n, len(seen), count)
			}
		}
	}
}

func TestAllIsNew_R4(t *testing.T) {
	one, _ := All(2, 100)
	two, _ := All(2, 100)
	want := slices.Clone(two)
	for i := range one {
		one[i] = tile(9, 9, 9, 9)
	}
	one = append(one[:0], make([]api.Tile, cap(one))...)
	if three, _ := All(2, 100); !slices.Equal(two, want) || !slices.Equal(three, want) {
		t.Errorf("All answers memory that was handed out: %v, %v", two, three)
	}
}
