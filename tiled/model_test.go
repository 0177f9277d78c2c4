package tiled

import (
	"crypto/sha256"
	"encoding/binary"
	"fmt"
	"hash/crc32"
	"math/bits"
	"slices"
	"strings"
	"testing"

	"annals/api"
	"annals/store"
)

// The oracle: hashes, check sums and numbers in bytes by the library, the tree level by level from below.

func cut(w int, parts ...string) string {
	h := sha256.Sum256([]byte(strings.Join(parts, "")))
	return string(h[:w])
}

func key(space, kind, number int) string {
	b := binary.BigEndian.AppendUint64([]byte("B"), uint64(space))
	return string(binary.BigEndian.AppendUint64(append(b, byte(kind)), uint64(number)))
}

func frame(kind, number int, payload string) string {
	b := binary.BigEndian.AppendUint64([]byte{0xa5, byte(kind)}, uint64(number))
	b = append(binary.BigEndian.AppendUint32(b, uint32(len(payload))), payload...)
	return string(binary.BigEndian.AppendUint32(b, crc32.ChecksumIEEE(b)))
}

func bundleBytes(leaves ...string) string {
	b := binary.AppendUvarint([]byte("L"), uint64(len(leaves)))
	for _, l := range leaves {
		b = append(binary.AppendUvarint(b, uint64(len(l))), l...)
	}
	return string(b)
}

func rowBytes(w int, row ...string) string {
	return string(binary.AppendUvarint([]byte{'H', byte(w)}, uint64(len(row)))) + strings.Join(row, "")
}

// model is what the chapter says of an engine in which leaves stand.
type model struct {
	o       api.Opts
	leaves  []string
	levels  [][]string   // the hashes of the whole subtrees of each level
	written map[int]bool // numbers of the tiles that have records
	used    []int        // numbers of the tiles in the cache, the last used first
	counts  api.Counts
}

func modelOf(o api.Opts, leaves ...string) *model {
	m := &model{o: o, written: map[int]bool{}}
	m.put(leaves)
	return m
}

type answer struct {
	text string
	e    api.Errno
}

func (a answer) String() string { return fmt.Sprintf("%.20q (%d) %d", a.text, len(a.text), int(a.e)) }

func got(text string, e api.Errno) answer { return answer{text, e} }

// put puts leaves behind the list, and counts nothing.
func (m *model) put(list []string) {
	m.leaves = slices.Concat(m.leaves, list)
	m.levels = [][]string{nil}
	for _, l := range m.leaves {
		m.levels[0] = append(m.levels[0], cut(m.o.Width, "\x00", l))
	}
	for row := m.levels[0]; len(row) > 1; {
		var up []string
		for i := 1; i < len(row); i += 2 {
			up = append(up, cut(m.o.Width, "\x01", row[i-1], row[i]))
		}
		m.levels = append(m.levels, up)
		row = up
	}
}

func (m *model) append(list []string) {
	n := len(m.leaves)
	m.put(list)
	m.counts.Nodes += len(list) - bits.OnesCount(uint(n+len(list))) + bits.OnesCount(uint(n))
}

// tiles are the numbers of the whole tiles, rising, and their rows.
func (m *model) tiles() ([]int, map[int][]string) {
	rows := map[int][]string{}
	var numbers []int
	length := 1 << m.o.Height
	for l := 0; l*m.o.Height < len(m.levels); l++ {
		level := m.levels[l*m.o.Height]
		for i := 0; (i+1)*length <= len(level); i++ {
			numbers = append(numbers, l*(1<<48)+i)
			rows[l*(1<<48)+i] = level[i*length : (i+1)*length]
		}
	}
	return numbers, rows
}

// flush: all whole tiles have records; it tells the numbers of those that had none.
func (m *model) flush() []int {
	var fresh []int
	numbers, _ := m.tiles()
	for _, n := range numbers {
		if !m.written[n] {
			fresh = append(fresh, n)
			m.written[n] = true
		}
	}
	return fresh
}

// open: what an Open does to the counts and the cache.
func (m *model) open() {
	m.used, m.counts = nil, api.Counts{}
}

// records are all records that the list has in a space.
func (m *model) records(space int) map[string]string {
	out := map[string]string{}
	for j := 0; j*m.o.Bundle < len(m.leaves); j++ {
		end := min((j+1)*m.o.Bundle, len(m.leaves))
		out[key(space, 2, j)] = frame(2, j, bundleBytes(m.leaves[j*m.o.Bundle:end]...))
	}
	_, rows := m.tiles()
	for n := range m.written {
		out[key(space, 3, n)] = frame(3, n, rowBytes(m.o.Width, rows[n]...))
	}
	return out
}

func (m *model) leaf(i int) answer {
	if i >= 0 && i < len(m.leaves) {
		return answer{m.leaves[i], 0}
	}
	return answer{"", 81}
}

func (m *model) node(a api.Addr) answer {
	if a.Level < 0 || a.Level > 62 || a.Index < 0 || a.Index > 1<<62>>a.Level-1 {
		return answer{"", 50}
	}
	if a.Level >= len(m.levels) || a.Index >= len(m.levels[a.Level]) {
		return answer{"", 80}
	}
	d, l := a.Level%m.o.Height, a.Level/m.o.Height
	m.counts.Nodes += 1<<d - 1
	if tile := l*(1<<48) + a.Index/(1<<(m.o.Height-d)); m.written[tile] {
		m.ask(tile)
	}
	return answer{m.levels[a.Level][a.Index], 0}
}

// ask asks the cache for a tile.
func (m *model) ask(tile int) {
	if at := slices.Index(m.used, tile); at >= 0 {
		m.counts.Hits++
		m.used = slices.Delete(m.used, at, at+1)
	} else {
		m.counts.Misses++
	}
	m.used = slices.Insert(m.used, 0, tile)
	m.used = m.used[:min(len(m.used), m.o.Cache)]
	m.counts.Most = max(m.counts.Most, len(m.used))
}

// root is the root of the first n leaves, from its greatest subtree to its least.
func (m *model) root(n int) answer {
	if n < 0 || n > len(m.leaves) {
		return answer{"", 80}
	}
	if n == 0 {
		return answer{cut(m.o.Width), 0}
	}
	var peaks []string
	at := 0
	for level := 62; level >= 0; level-- {
		if n>>level&1 == 0 {
			continue
		}
		if n == len(m.leaves) {
			peaks = append(peaks, m.levels[level][at>>level])
		} else {
			peaks = append(peaks, m.node(api.Addr{Level: level, Index: at >> level}).text)
		}
		at += 1 << level
	}
	root := peaks[len(peaks)-1]
	for i := len(peaks) - 2; i >= 0; i-- {
		root = cut(m.o.Width, "\x01", peaks[i], root)
		m.counts.Nodes++
	}
	return answer{root, 0}
}

// same holds an engine against a model: every place and size, every node, and what was counted behind each call.
func same(t *testing.T, e *Engine, m *model) {
	t.Helper()
	n := len(m.leaves)
	if e.Size() != n {
		t.Fatalf("Size = %d, want %d", e.Size(), n)
	}
	for i := -2; i <= n+2; i++ {
		if a, want := got(e.Leaf(i)), m.leaf(i); a != want {
			t.Fatalf("%v, %d leaves: Leaf(%d) = %v, want %v", m.o, n, i, a, want)
		}
		counted(t, e, m)
		if a, want := got(e.Root(i)), m.root(i); a != want {
			t.Fatalf("%v, %d leaves: Root(%d) = %v, want %v", m.o, n, i, a, want)
		}
		counted(t, e, m)
		for level := -1; level < len(m.levels)+1; level++ {
			at := api.Addr{Level: level, Index: i}
			if a, want := got(e.Node(at)), m.node(at); a != want {
				t.Fatalf("%v, %d leaves: Node(%v) = %v, want %v", m.o, n, at, a, want)
			}
			counted(t, e, m)
		}
	}
}

func counted(t *testing.T, e *Engine, m *model) {
	t.Helper()
	if c := e.Counts(); c != m.counts {
		t.Fatalf("%v, %d leaves: Counts = %v, want %v", m.o, len(m.leaves), c, m.counts)
	}
}

// holds looks whether a store has just these records.
func holds(t *testing.T, st *store.Store, want map[string]string) {
	t.Helper()
	keys := st.Keys("")
	for _, k := range keys {
		data, e := st.Get(k)
		if w, there := want[k]; !there || data != w || e != api.OK {
			t.Fatalf("record %q is %.80q, want %.80q", k, data, w)
		}
	}
	if len(keys) != len(want) {
		t.Fatalf("%d records, want %d: %q", len(keys), len(want), keys)
	}
}

// all is everything that a store tells.
func all(st *store.Store) string {
	out := []string{fmt.Sprint(st.Pending(), st.Used(), st.Room(), st.Down(), st.Age()), st.Image()}
	for _, k := range st.Keys("") {
		data, e := st.Get(k)
		out = append(out, k, data, fmt.Sprint(int(e)))
	}
	return strings.Join(out, "|")
}

// quiet makes calls that may do nothing to the store.
func quiet(t *testing.T, st *store.Store, calls func()) {
	t.Helper()
	was := all(st)
	calls()
	if all(st) != was {
		t.Fatalf("the store is another: %.200q, was %.200q", all(st), was)
	}
}

func made(t *testing.T, st *store.Store, o api.Opts, space int) *Engine {
	t.Helper()
	e, r := Make(st, o, space)
	if r != api.OK || e == nil {
		t.Fatalf("Make = %d", r)
	}
	return e
}

func opened(t *testing.T, st *store.Store, o api.Opts, space, least int) *Engine {
	t.Helper()
	e, r := Open(st, o, space, least)
	if r != api.OK || e == nil {
		t.Fatalf("Open(.., %d) = %d", least, r)
	}
	return e
}

func appended(t *testing.T, e *Engine, leaves ...string) {
	t.Helper()
	if r := e.Append(leaves); r != api.OK {
		t.Fatalf("Append(%.60q) = %d", leaves, r)
	}
}

func flushed(t *testing.T, e *Engine) {
	t.Helper()
	if r := e.Flush(); r != api.OK {
		t.Fatalf("Flush = %d", r)
	}
}

// leavesOf are all leaves that an engine tells.
func leavesOf(t *testing.T, e *Engine) []string {
	t.Helper()
	var list []string
	for i := range e.Size() {
		l, r := e.Leaf(i)
		if r != api.OK {
			t.Fatalf("Leaf(%d) of %d = %d", i, e.Size(), r)
		}
		list = append(list, l)
	}
	return list
}

// letters are the first n of A, B, C ..
func letters(n int) []string {
	var list []string
	for i := range n {
		list = append(list, string(rune('A'+i)))
	}
	return list
}

// numbered are n leaves, from one of this number on.
func numbered(from, n int) []string {
	var list []string
	for i := range n {
		list = append(list, fmt.Sprint("leaf ", from+i))
	}
	return list
}
