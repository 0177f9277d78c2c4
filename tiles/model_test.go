package tiles

import (
	"crypto/sha256"
	"encoding/binary"
	"fmt"
	"math"
	"math/big"
	"math/rand"
	"regexp"
	"strings"

	"annals/api"
	"annals/prove"
)

// What stands here is a plain model of the chapter, by the library of the language alone: the tests hold the package against it.

const (
	top    = 1 << 62 // MaxSize, MaxWidth, MaxHeight and MaxTiles, written out, so that the tests do not lean on what they look at
	widest = 32
	high   = 8
	listed = 65536
)

func tile(height, level, index, count int) api.Tile {
	return api.Tile{Height: height, Level: level, Index: index, Count: count}
}

func at(level, index int) api.Addr {
	return api.Addr{Level: level, Index: index}
}

// wide is how many bytes a hash of a width has.
func wide(w int) int {
	if w < 1 || w > widest {
		return widest
	}
	return w
}

// cut is the hash of a text by another program.
func cut(w int, text string) string {
	h := sha256.Sum256([]byte(text))
	return string(h[:wide(w)])
}

// above is the hash of the node above hashes, as many as a power of two.
func above(w int, row []string) string {
	for len(row) > 1 {
		var next []string
		for i := 0; i < len(row); i += 2 {
			next = append(next, cut(w, "\x01"+row[i]+row[i+1]))
		}
		row = next
	}
	return row[0]
}

// pow is 2 to the k.
func pow(k int) *big.Int {
	return new(big.Int).Lsh(big.NewInt(1), uint(k))
}

// leavesOf is 23.1's product: Index times 2^H, and Count more, times 2 to the (Level times Height).
func leavesOf(t api.Tile) *big.Int {
	x := new(big.Int).Mul(big.NewInt(int64(t.Index)), pow(t.Height))
	x.Add(x, big.NewInt(int64(t.Count)))
	return x.Mul(x, pow(t.Level*t.Height))
}

// isTile is 23.1.
func isTile(t api.Tile) bool {
	if t.Height < 1 || t.Height > high || t.Level < 0 || t.Level > 62 || t.Level*t.Height > 62 {
		return false
	}
	if t.Index < 0 || t.Count < 1 || t.Count > 1<<t.Height {
		return false
	}
	return leavesOf(t).Cmp(big.NewInt(top)) <= 0
}

// pathOf is 23.2, its index as digits that are parted from the right.
func pathOf(t api.Tile) string {
	digits := fmt.Sprint(t.Index)
	for len(digits)%3 != 0 {
		digits = "0" + digits
	}
	var list []string
	for i := 0; i < len(digits); i += 3 {
		list = append(list, digits[i:i+3])
	}
	path := fmt.Sprintf("tile/%d/%d/x%s", t.Height, t.Level, strings.Join(list, "/x"))
	i := strings.LastIndex(path, "x")
	path = path[:i] + path[i+1:]
	if t.Count != 1<<t.Height {
		path += fmt.Sprintf(".p/%d", t.Count)
	}
	return path
}

var paths = regexp.MustCompile(`^tile/(0|[1-9][0-9]*)/(0|[1-9][0-9]*)/((?:x[0-9]{3}/)*[0-9]{3})(?:\.p/([1-9][0-9]*))?$`)

// tileOf is 23.3, by the form that a path has.
func tileOf(path string) (api.Tile, api.Errno) {
	m := paths.FindStringSubmatch(path)
	if m == nil || strings.Contains(path, "\n") || strings.HasPrefix(m[3], "x000") {
		return api.Tile{}, api.ErrPath
	}
	n := []int{0, 0, 0, 0}
	for i, s := range []string{m[1], m[2], strings.NewReplacer("x", "", "/", "").Replace(m[3]), m[4]} {
		if s == "" {
			continue
		}
		x, _ := new(big.Int).SetString(s, 10)
		if !x.IsInt64() {
			return api.Tile{}, api.ErrPath
		}
		n[i] = int(x.Int64())
	}
	t := tile(n[0], n[1], n[2], n[3])
	if m[4] == "" && 1 <= t.Height && t.Height <= high {
		t.Count = 1 << t.Height
	}
	if !isTile(t) || m[4] != "" && t.Count == 1<<t.Height {
		return api.Tile{}, api.ErrPath
	}
	return t, api.OK
}

// listOf is 23.5, of a tree that is not too great.
func listOf(height, n int) []api.Tile {
	var list []api.Tile
	for l := 0; ; l++ {
		m := new(big.Int).Div(big.NewInt(int64(n)), pow(l*height)).Int64()
		if m == 0 {
			return list
		}
		for i := 0; m > 0; i++ {
			count := min(int(m), 1<<height)
			list = append(list, tile(height, l, i, count))
			m -= int64(count)
		}
	}
}

// edgeOf are the partial tiles of a tree of any size: 23.7.
func edgeOf(height, n int) []api.Tile {
	var list []api.Tile
	for l := 0; l*height <= 62; l++ {
		m := n / (1 << (l * height))
		if m%(1<<height) != 0 {
			list = append(list, tile(height, l, m/(1<<height), m%(1<<height)))
		}
	}
	return list
}

// rowBytes is 11.5's form of hashes.
func rowBytes(w int, row []string) string {
	head := binary.AppendUvarint([]byte{'H', byte(wide(w))}, uint64(len(row)))
	return string(head) + strings.Join(row, "")
}

// forest knows a tree of any size: its leaves are alike but for some odd ones, so that the hashes of most subtrees are one for each level.
type forest struct {
	w, size int
	odd     []int
	known   map[api.Addr]string
	alike   []string
}

// plant is a tree of so many leaves. In a small one all leaves are odd.
func plant(w, size int, odd ...int) *forest {
	f := &forest{w: w, size: size, odd: odd, known: map[api.Addr]string{}, alike: []string{cut(w, "\x00alike")}}
	if size <= 4096 {
		f.odd = nil
		for i := range size {
			f.odd = append(f.odd, i)
		}
	}
	for l := range 62 {
		f.alike = append(f.alike, cut(w, "\x01"+f.alike[l]+f.alike[l]))
	}
	for _, i := range f.odd {
		f.known[at(0, i)] = cut(w, fmt.Sprintf("\x00leaf %d", i))
		for l := range 63 {
			f.known[at(l, i>>l)] = f.known[at(l, i>>l)]
		}
	}
	return f
}

// hash is that of a node, whether it lies within or not.
func (f *forest) hash(a api.Addr) string {
	h, isOdd := f.known[a]
	if !isOdd {
		return f.alike[a.Level]
	}
	if h == "" {
		h = cut(f.w, "\x01"+f.hash(at(a.Level-1, 2*a.Index))+f.hash(at(a.Level-1, 2*a.Index+1)))
		f.known[a] = h
	}
	return h
}

// has is why a tree has not that node.
func (f *forest) has(a api.Addr) api.Errno {
	if a.Level < 0 || a.Level > 62 || a.Index < 0 || a.Index >= top>>a.Level {
		return api.ErrAddr
	}
	if (a.Index+1)<<a.Level > f.size {
		return api.ErrSize
	}
	return api.OK
}

// reader is the tree's own.
func (f *forest) reader() prove.Reader {
	return prove.Reader{Width: f.w, Size: f.size, Node: func(a api.Addr) (string, api.Errno) {
		if e := f.has(a); e != api.OK {
			return "", e
		}
		return f.hash(a), api.OK
	}}
}

// root is the tree's, by the standard's recursion.
func (f *forest) root() string {
	return f.part(0, f.size)
}

func (f *forest) part(lo, hi int) string {
	if lo == hi {
		return cut(f.w, "")
	}
	k := 0
	for k < 62 && 1<<(k+1) <= hi-lo {
		k++
	}
	left := f.hash(at(k, lo>>k))
	if hi-lo == 1<<k {
		return left
	}
	return cut(f.w, "\x01"+left+f.part(lo+1<<k, hi))
}

// row are a tile's hashes.
func (f *forest) row(t api.Tile) []string {
	var row []string
	for i := range t.Count {
		row = append(row, f.hash(at(t.Level*t.Height, t.Index<<t.Height+i)))
	}
	return row
}

// leaves are the hashes of some leaves.
func (f *forest) leaves(places []int) []string {
	var list []string
	for _, i := range places {
		list = append(list, f.hash(at(0, i)))
	}
	return list
}

// serve answers a path as 23.11 says.
func (f *forest) serve(path string) (string, api.Errno) {
	t, e := tileOf(path)
	if e != api.OK {
		return "", e
	}
	if leavesOf(t).Cmp(big.NewInt(int64(f.size))) > 0 {
		return "", api.ErrSize
	}
	return rowBytes(f.w, f.row(t)), api.OK
}

// plain is the model of a client: 23.6 to 23.9, word by word.
type plain struct {
	height, w, size int
	root            string
	fetch           func(path string) (string, api.Errno)
	believed        map[api.Tile][]string
}

// get is 23.6.
func (p *plain) get(t api.Tile) ([]string, api.Errno) {
	b, e := p.fetch(pathOf(t))
	if e != api.OK {
		return nil, e
	}
	head := rowBytes(p.w, make([]string, t.Count))
	if !strings.HasPrefix(b, head) || len(b) != len(head)+t.Count*wide(p.w) {
		return nil, api.ErrTile
	}
	var row []string
	for i := len(head); i < len(b); i += wide(p.w) {
		row = append(row, b[i:i+wide(p.w)])
	}
	return row, api.OK
}

// start is 23.8.
func (p *plain) start() api.Errno {
	if p.height < 1 || p.height > high || p.size < 0 || p.size > top || p.fetch == nil {
		return api.ErrRange
	}
	if len(p.root) != wide(p.w) {
		return api.ErrHash
	}
	edge := map[api.Tile][]string{}
	for _, t := range edgeOf(p.height, p.size) {
		row, e := p.get(t)
		if e != api.OK {
			return e
		}
		edge[t] = row
	}
	p.believed = edge
	h, lo := cut(p.w, ""), p.size
	for k := range 63 { // the tree's whole parts from the right, the smallest first
		if p.size&(1<<k) == 0 {
			continue
		}
		lo -= 1 << k
		peak := p.reckon(p.tileAt(k/p.height, lo>>k<<(k%p.height)), at(k, lo>>k))
		if lo+1<<k == p.size {
			h = peak
		} else {
			h = cut(p.w, "\x01"+peak+h)
		}
	}
	if h != p.root {
		p.believed = nil
		return api.ErrTile
	}
	return api.OK
}

// tileAt is the tile of a level that has the hash at a place of its row.
func (p *plain) tileAt(level, place int) api.Tile {
	hashes := p.size / (1 << (level * p.height))
	index := place / (1 << p.height)
	return tile(p.height, level, index, min(1<<p.height, hashes-index*(1<<p.height)))
}

// reckon is a node's hash, out of the row of its tile.
func (p *plain) reckon(t api.Tile, a api.Addr) string {
	up := a.Level % p.height
	from := a.Index<<up - t.Index<<p.height
	return above(p.w, p.believed[t][from:from+1<<up])
}

// node is 23.9, from above down.
func (p *plain) node(a api.Addr) (string, api.Errno) {
	f := forest{size: p.size}
	if e := f.has(a); e != api.OK {
		return "", e
	}
	level := a.Level / p.height
	var way []api.Tile // the node's tile, and those above it
	for place := a.Index << (a.Level % p.height); level*p.height <= 62; level++ {
		t := p.tileAt(level, place)
		way = append(way, t)
		if t.Count < 1<<p.height {
			break
		}
		place = t.Index
	}
	for i := len(way) - 1; i >= 0; i-- {
		t := way[i]
		if p.believed[t] != nil {
			continue
		}
		row, e := p.get(t)
		if e != api.OK {
			return "", e
		}
		over := p.believed[way[i+1]]
		if above(p.w, row) != over[t.Index%(1<<p.height)] {
			return "", api.ErrTile
		}
		p.believed[t] = row
	}
	return p.reckon(way[0], a), api.OK
}

// wild are ints of all kinds.
func wild(r *rand.Rand) int {
	switch r.Intn(8) {
	case 0:
		return r.Intn(4) - 1
	case 1:
		return r.Intn(70)
	case 2:
		return 1<<r.Intn(64) + r.Intn(3) - 1
	case 3:
		return top - r.Intn(3) + 1
	case 4:
		return []int{math.MinInt, math.MinInt + 1, math.MaxInt, math.MaxInt - 1, -1, -256}[r.Intn(6)]
	case 5:
		return int(r.Uint64())
	case 6:
		return r.Intn(1 << r.Intn(62))
	}
	return r.Intn(300)
}

// anyTile is a tile that may go, or not.
func anyTile(r *rand.Rand) api.Tile {
	h := 1 + r.Intn(high)
	l := r.Intn(62/h + 1)
	t := tile(h, l, 0, 1+r.Intn(1<<h))
	if room := top >> (l * h) >> h; room > 0 {
		t.Index = []int{r.Intn(room), r.Intn(min(room, 3000)), room - 1, 0}[r.Intn(4)]
	}
	if r.Intn(3) == 0 {
		t.Count = 1 << h
	}
	for r.Intn(4) == 0 {
		x := []*int{&t.Height, &t.Level, &t.Index, &t.Count}[r.Intn(4)]
		*x += r.Intn(3) - 1
		if r.Intn(3) == 0 {
			*x = wild(r)
		}
	}
	return t
}
