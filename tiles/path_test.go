package tiles

import (
	"math"
	"math/rand"
	"strings"
	"testing"

	"annals/api"
)

func TestPathExamples(t *testing.T) {
	for _, c := range []struct {
		t    api.Tile
		path string
		e    api.Errno
	}{
		{tile(8, 0, 5, 256), "tile/8/0/005", api.OK},
		{tile(8, 0, 5, 7), "tile/8/0/005.p/7", api.OK},
		{tile(3, 2, 1234067, 8), "tile/3/2/x001/x234/067", api.OK},
		{tile(8, 1, 1000, 256), "tile/8/1/x001/000", api.OK},
		{tile(1, 0, 999, 1), "tile/1/0/999.p/1", api.OK},
		{tile(0, 0, 0, 1), "", api.ErrPath},
		{tile(9, 0, 0, 1), "", api.ErrPath},
		{tile(8, 8, 0, 1), "", api.ErrPath},
		{tile(8, 0, -1, 1), "", api.ErrPath},
		{tile(8, 0, 0, 257), "", api.ErrPath},
		{tile(8, 0, 0, 0), "", api.ErrPath},
		{tile(1, 62, 0, 1), "tile/1/62/000.p/1", api.OK},
		{tile(1, 62, 0, 2), "", api.ErrPath},
	} {
		if path, e := Path(c.t); path != c.path || e != c.e {
			t.Errorf("Path(%v) = %q, %d, want %q, %d", c.t, path, e, c.path, c.e)
		}
	}
	for _, path := range []string{"tile/8/0/5", "tile/8/0/x000/005", "tile/8/0/005.p/256", "tile/08/0/005", "tile/8/0/005/"} {
		if x, e := Parse(path); x != (api.Tile{}) || e != api.ErrPath {
			t.Errorf("Parse(%q) = %v, %d, want ErrPath", path, x, e)
		}
	}
}

// same holds Path and Parse of a tile against the model.
func same(t *testing.T, x api.Tile) {
	t.Helper()
	want, we := "", api.ErrPath
	if isTile(x) {
		want, we = pathOf(x), api.OK
	}
	path, e := Path(x)
	if path != want || e != we {
		t.Fatalf("Path(%v) = %q, %d, want %q, %d", x, path, e, want, we)
	}
	if e != api.OK {
		return
	}
	if y, e := Parse(path); y != x || e != api.OK {
		t.Fatalf("Parse(%q) = %v, %d, want %v", path, y, e, x)
	}
}

func TestBounds_23_1(t *testing.T) {
	for _, h := range []int{math.MinInt, -8, -1, 0, 1, 2, 3, 4, 5, 6, 7, 8, 9, 10, 62, 63, 64, math.MaxInt} {
		for _, l := range []int{math.MinInt, -1, 0, 1, 2, 6, 7, 8, 10, 12, 15, 20, 21, 30, 31, 32, 61, 62, 63, 64, 1 << 61, 1 << 62, math.MaxInt} {
			for _, count := range []int{math.MinInt, -1, 0, 1, 2, 3, 4, 7, 8, 64, 65, 128, 255, 256, 257, math.MaxInt} {
				for _, index := range []int{math.MinInt, -1, 0, 1, math.MaxInt} {
					same(t, tile(h, l, index, count))
				}
			}
		}
	}
}

// TestRoom_23_1: the last tile for which there is room, and what is beyond it, at each height and level.
func TestRoom_23_1(t *testing.T) {
	for h := 1; h <= high; h++ {
		for l := 0; l*h <= 62; l++ {
			hashes := top >> (l * h)
			last := max(hashes>>h-1, 0)
			for _, index := range []int{last, last + 1, 2*last + 1, 2*last + 2, 4 * last, 1 << 60, 1<<62 - 1, 1 << 62, math.MaxInt >> h, math.MaxInt>>h + 1} {
				for _, count := range []int{1, 2, 3, min(hashes, 1<<h), 1<<h - 1, 1 << h, 1<<h + 1} {
					same(t, tile(h, l, index, count))
				}
			}
			count := min(hashes, 1<<h)
			if _, e := Path(tile(h, l, last, count)); e != api.OK {
				t.Errorf("Path of the last tile of level %d, height %d: %d", l, h, e)
			}
			if path, e := Path(tile(h, l, last+1, 1)); path != "" || e != api.ErrPath {
				t.Errorf("Path of a tile beyond the last of level %d, height %d: %q, %d", l, h, path, e)
			}
		}
	}
}

func TestIndexes_23_2(t *testing.T) {
	x := 1
	for range 19 {
		for _, index := range []int{x - 1, x, x + 1, 2 * x, 9*x + x - 1} {
			for h := 1; h <= high; h++ {
				same(t, tile(h, 0, index, 1<<h))
				same(t, tile(h, 1, index, 1))
			}
		}
		x *= 10
	}
	for index := range 3001 {
		same(t, tile(2, 3, index, 1+index%4))
	}
}

func TestWildTiles_23_2(t *testing.T) {
	r := rand.New(rand.NewSource(1))
	goes := 0
	for range 60000 {
		x := anyTile(r)
		if isTile(x) {
			goes++
		}
		same(t, x)
	}
	for range 20000 {
		same(t, tile(wild(r), wild(r), wild(r), wild(r)))
	}
	if goes < 20000 {
		t.Errorf("only %d of the tiles go", goes)
	}
}

// read holds Parse of a text against the model, and against Path.
func read(t *testing.T, path string) bool {
	t.Helper()
	want, we := tileOf(path)
	x, e := Parse(path)
	if x != want || e != we {
		t.Fatalf("Parse(%q) = %v, %d, want %v, %d", path, x, e, want, we)
	}
	if own, _ := Path(x); e == api.OK && own != path {
		t.Fatalf("Parse(%q) = %v, whose path is %q", path, x, own)
	}
	return e == api.OK
}

func TestParse_23_3(t *testing.T) {
	for _, path := range []string{
		"", "/", "t", "tile", "tile/", "tile//", "tile///", "tile/8", "tile/8/", "tile/8/0", "tile/8/0/", "/tile/8/0/005", "tile/8/0/005", "tile/8/0/005 ", " tile/8/0/005", "Tile/8/0/005", "tiles/8/0/005", "xtile/8/0/005", "tile/8/0/005\n", "tile/8/0/005\x00",
		"tile/8/0/x005", "tile/8/0/x005/", "tile/8/0//005", "tile/8//005", "tile//0/005", "tile/8/0/0x05", "tile/8/0/00x5", "tile/8/0/005x", "tile/8/0/xx001/005", "tile/8/0/X001/005", "tile/8/0/001/005", "tile/8/0/x001/x005", "tile/8/0/x01/005", "tile/8/0/x0001/005", "tile/8/0/x001005", "tile/8/0/1005", "tile/8/0/05", "tile/8/0/0005", "tile/8/0/x000/x000/005", "tile/8/0/x010/005", "tile/8/0/000", "tile/8/0/x000/000",
		"tile/8/0/+05", "tile/8/0/-05", "tile/8/0/0_5", "tile/8/0/0x5", "tile/+8/0/005", "tile/-8/0/005", "tile/8/-0/005", "tile/8/+0/005", "tile/8/00/005", "tile/8/01/005", "tile/0x8/0/005", "tile/ 8/0/005", "tile/8 /0/005", "tile/٨/0/005", "tile/8/0/٠٠٥", "tile/8.0/0/005", "tile/8/0/5e0",
		"tile/8/0/005.p/7", "tile/8/0/005.p/07", "tile/8/0/005.p/0", "tile/8/0/005.p/00", "tile/8/0/005.p/", "tile/8/0/005.p", "tile/8/0/005.p7", "tile/8/0/005p/7", "tile/8/0/005/.p/7", "tile/8/0/005.p/7/", "tile/8/0/005.p/7.p/7", "tile/8/0/005.p/-7", "tile/8/0/005.p/+7", "tile/8/0/005.p/255", "tile/8/0/005.p/256", "tile/8/0/005.p/257", "tile/8/0/005.P/7", "tile/8/0/.p/7", "tile/8/0.p/7/005", "tile/8/0/005.p/9999999999999999999999", "tile/8/0/x001.p/7", "tile/8/0/x001.p/7/005",
		"tile/0/0/000", "tile/9/0/000", "tile/-1/0/000", "tile/64/0/000", "tile/9223372036854775807/0/000", "tile/9223372036854775808/0/000", "tile/-9223372036854775808/0/000", "tile/99999999999999999999/0/000", "tile/8/99999999999999999999/000", "tile/8/9223372036854775807/000", "tile/8/8/000", "tile/8/7/000.p/64", "tile/8/7/000.p/65", "tile/1/62/000.p/1", "tile/1/62/000", "tile/1/63/000.p/1", "tile/1/61/000", "tile/1/61/001",
		"tile/1/0/x002/x305/x843/x009/x213/x693/951", "tile/1/0/x002/x305/x843/x009/x213/x693/952", "tile/1/0/x009/x223/x372/x036/x854/x775/807", "tile/1/0/x009/x223/x372/x036/x854/x775/808", "tile/1/0/x018/x446/x744/x073/x709/x551/616", "tile/1/0/x018/x446/x744/x073/x709/x551/621", "tile/1/0/x001/x000/x000/x000/x000/x000/x000/000",
	} {
		read(t, path)
	}
}

// TestSpoiltPaths_23_3: what is done to a path by chance mostly makes none of it, and never one that is not written so.
func TestSpoiltPaths_23_3(t *testing.T) {
	r := rand.New(rand.NewSource(2))
	parts := []string{"tile/", "/", "x", ".p/", "0", "1", "00", "000", "x000/", "x001/", "8", "256", "-", "+", " ", ".", "p", "\x00", "9", "٣"}
	taken := 0
	for range 80000 {
		x := anyTile(r)
		if !isTile(x) {
			continue
		}
		path := pathOf(x)
		for range 1 + r.Intn(2) {
			from := r.Intn(len(path) + 1)
			to := min(len(path), from+r.Intn(4))
			path = path[:from] + parts[r.Intn(len(parts))] + path[to:]
		}
		if read(t, path) {
			taken++
		}
	}
	if taken < 500 {
		t.Errorf("only %d of the spoilt paths are paths", taken)
	}
}

func TestLongPaths_R1(t *testing.T) {
	for _, part := range []string{"0", "x000/", "/", "9", ".p/", "tile/", "x", "\xff"} {
		many := strings.Repeat(part, 1<<18)
		for _, path := range []string{many, "tile/8/0/" + many, "tile/8/0/" + many + "005", "tile/8/" + many + "/005", "tile/" + many + "/0/005", "tile/8/0/005.p/" + many, "tile/8/0/005" + many} {
			if x, e := Parse(path); x != (api.Tile{}) || e != api.ErrPath {
				t.Errorf("Parse of %d bytes of %q: %v, %d", len(path), part, x, e)
			}
		}
	}
}

// TestThereAndBack_23_10: no two of a tree's tiles, of the tiles of any heights, have one path.
func TestThereAndBack_23_10(t *testing.T) {
	known := map[string]api.Tile{}
	for h := 1; h <= high; h++ {
		for l := 0; l < 4; l++ {
			for _, index := range []int{0, 1, 2, 9, 10, 11, 99, 100, 101, 110, 999, 1000, 1001, 1010, 1100, 10001, 100100, 1000000, 1001001, 1001000, 1000001} {
				for count := 1; count <= 1<<h; count++ {
					x := tile(h, l, index, count)
					path, e := Path(x)
					if y, ok := known[path]; ok || e != api.OK {
						t.Fatalf("Path(%v) = %q, %d, and so is that of %v", x, path, e, y)
					}
					known[path] = x
				}
			}
		}
	}
	for path, x := range known {
		if y, e := Parse(path); y != x || e != api.OK {
			t.Errorf("Parse(%q) = %v, %d, want %v", path, y, e, x)
		}
	}
}
