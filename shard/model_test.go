package shard

import (
	"crypto/sha256"
	"encoding/binary"
	"fmt"
	"hash/crc32"
	"math/bits"
	"slices"
	"strings"
	"testing"

	"annals/api"
	"annals/store"
)

// The oracle: hashes, check sums and numbers in bytes by the library, the tree level by level from below.

func cut(w int, parts ...string) string {
	h := sha256.Sum256([]byte(strings.Join(parts, "")))
	return string(h[:w])
}

func key(space, kind, number int) string {
	b := binary.BigEndian.AppendUint64([]byte("B"), uint64(space))
	return string(binary.BigEndian.AppendUint64(append(b, byte(kind)), uint64(number)))
}

func frame(kind, number int, payload string) string {
	b := binary.BigEndian.AppendUint64([]byte{0xa5, byte(kind)}, uint64(number))
	b = append(binary.BigEndian.AppendUint32(b, uint32(len(payload))), payload...)
	return string(binary.BigEndian.AppendUint32(b, crc32.ChecksumIEEE(b)))
}

func partBytes(leaves ...string) string {
	b := binary.AppendUvarint([]byte("L"), uint64(len(leaves)))
	for _, l := range leaves {
		b = append(binary.AppendUvarint(b, uint64(len(l))), l...)
	}
	return string(b)
}

func rootBytes(count int, root string) string {
	return string(binary.AppendUvarint(nil, uint64(count))) + root
}

func ones(n int) int { return bits.OnesCount(uint(n)) }

// model is what the chapter says of an engine in which leaves stand.
type model struct {
	o         api.Opts
	leaves    []string
	levels    [][]string // the hashes of the whole subtrees of each level
	dirty     map[int]bool
	unwritten map[int]bool
	spine     map[api.Addr]bool
	roots     map[int]string // the payloads of the roots' records, by the shards' numbers, as they were written
	nodes     int
}

// modelOf is an engine that has just been opened, of leaves without records of roots.
func modelOf(o api.Opts, leaves ...string) *model {
	m := &model{o: o, roots: map[int]string{}}
	m.put(leaves)
	m.open()
	return m
}

type answer struct {
	text string
	e    api.Errno
}

func (a answer) String() string { return fmt.Sprintf("%.20q (%d) %d", a.text, len(a.text), int(a.e)) }

func got(text string, e api.Errno) answer { return answer{text, e} }

func (m *model) shard() int { return 1 << m.o.Bits }
func (m *model) part() int  { return min(64, m.shard()) }

// put puts leaves behind the list, and marks nothing.
func (m *model) put(list []string) {
	m.leaves = slices.Concat(m.leaves, list)
	m.levels = [][]string{nil}
	for _, l := range m.leaves {
		m.levels[0] = append(m.levels[0], cut(m.o.Width, "\x00", l))
	}
	for row := m.levels[0]; len(row) > 1; {
		var up []string
		for i := 1; i < len(row); i += 2 {
			up = append(up, cut(m.o.Width, "\x01", row[i-1], row[i]))
		}
		m.levels = append(m.levels, up)
		row = up
	}
}

func (m *model) append(list []string) {
	n := len(m.leaves)
	m.put(list)
	for i := range list {
		m.dirty[(n+i)/m.shard()] = true
		m.unwritten[(n+i)/m.shard()] = true
	}
}

// count is how many leaves a shard has.
func (m *model) count(j int) int {
	return min(m.shard(), len(m.leaves)-j*m.shard())
}

// fold is the root of leaves, from one place up to another, from its greatest subtree to its least. It counts nothing.
func (m *model) fold(lo, hi int) string {
	if lo == hi {
		return cut(m.o.Width)
	}
	var peaks []string
	for level := 62; level >= 0; level-- {
		if (hi-lo)>>level&1 == 1 {
			at := lo + (hi-lo)>>(level+1)<<(level+1)
			peaks = append(peaks, m.levels[level][at>>level])
		}
	}
	root := peaks[len(peaks)-1]
	for i := len(peaks) - 2; i >= 0; i-- {
		root = cut(m.o.Width, "\x01", peaks[i], root)
	}
	return root
}

// rootOf is the payload of a shard's root, as it is.
func (m *model) rootOf(j int) string {
	from := j * m.shard()
	return rootBytes(m.count(j), m.fold(from, from+m.count(j)))
}

func (m *model) rehash(j int) {
	if m.dirty[j] {
		m.nodes += m.count(j) - ones(m.count(j))
		delete(m.dirty, j)
	}
}

// flush: all shards have records of their roots; it tells the numbers of those that were unwritten.
func (m *model) flush() []int {
	var fresh []int
	for j := 0; j*m.shard() < len(m.leaves); j++ {
		if m.unwritten[j] {
			m.rehash(j)
			m.nodes += ones(m.count(j)) - 1
			m.roots[j] = m.rootOf(j)
			fresh = append(fresh, j)
		}
	}
	m.unwritten = map[int]bool{}
	return fresh
}

// open: what an Open does to the marks, the spine, the records and the counts.
func (m *model) open() {
	m.dirty, m.unwritten, m.spine, m.nodes = map[int]bool{}, map[int]bool{}, map[api.Addr]bool{}, 0
	was := m.roots
	m.roots = map[int]string{}
	for j := 0; j*m.shard() < len(m.leaves); j++ {
		if was[j] == m.rootOf(j) {
			m.roots[j] = was[j]
		} else {
			m.unwritten[j] = true
		}
	}
}

// records are all records that the list has in a space.
func (m *model) records(space int) map[string]string {
	out := map[string]string{}
	for at := 0; at < len(m.leaves); at += m.part() {
		end := min(at+m.part(), len(m.leaves))
		out[key(space, 4, at)] = frame(4, at, partBytes(m.leaves[at:end]...))
	}
	for j, root := range m.roots {
		out[key(space, 5, j)] = frame(5, j, root)
	}
	return out
}

func (m *model) leaf(i int) answer {
	if i >= 0 && i < len(m.leaves) {
		return answer{m.leaves[i], 0}
	}
	return answer{"", 81}
}

func (m *model) node(a api.Addr) answer {
	if a.Level < 0 || a.Level > 62 || a.Index < 0 || a.Index > 1<<62>>a.Level-1 {
		return answer{"", 50}
	}
	if a.Level >= len(m.levels) || a.Index >= len(m.levels[a.Level]) {
		return answer{"", 80}
	}
	m.ask(a)
	return answer{m.levels[a.Level][a.Index], 0}
}

// ask is what 17.7 counts and keeps.
func (m *model) ask(a api.Addr) {
	if a.Level <= m.o.Bits {
		m.rehash(a.Index << a.Level / m.shard())
		return
	}
	if m.spine[a] {
		return
	}
	m.ask(api.Addr{Level: a.Level - 1, Index: 2 * a.Index})
	m.ask(api.Addr{Level: a.Level - 1, Index: 2*a.Index + 1})
	m.nodes++
	m.spine[a] = true
}

func (m *model) root(n int) answer {
	if n < 0 || n > len(m.leaves) {
		return answer{"", 80}
	}
	for level := range 63 {
		if n>>level&1 == 1 {
			m.ask(api.Addr{Level: level, Index: n>>level - 1})
		}
	}
	m.nodes += max(0, ones(n)-1)
	return answer{m.fold(0, n), 0}
}

// same holds an engine against a model: every place and size, every node, and what was counted behind each call.
func same(t *testing.T, e *Engine, m *model) {
	t.Helper()
	n := len(m.leaves)
	if e.Size() != n {
		t.Fatalf("Size = %d, want %d", e.Size(), n)
	}
	for i := -2; i <= n+2; i++ {
		if a, want := got(e.Leaf(i)), m.leaf(i); a != want {
			t.Fatalf("%v, %d leaves: Leaf(%d) = %v, want %v", m.o, n, i, a, want)
		}
		counted(t, e, m)
		if a, want := got(e.Root(i)), m.root(i); a != want {
			t.Fatalf("%v, %d leaves: Root(%d) = %v, want %v", m.o, n, i, a, want)
		}
		counted(t, e, m)
		for level := -1; level < len(m.levels)+1; level++ {
			at := api.Addr{Level: level, Index: i}
			if a, want := got(e.Node(at)), m.node(at); a != want {
				t.Fatalf("%v, %d leaves: Node(%v) = %v, want %v", m.o, n, at, a, want)
			}
			counted(t, e, m)
		}
	}
}

func counted(t *testing.T, e *Engine, m *model) {
	t.Helper()
	if c := e.Counts(); c != (api.Counts{Nodes: m.nodes}) {
		t.Fatalf("%v, %d leaves: Counts = %v, want %d", m.o, len(m.leaves), c, m.nodes)
	}
}

// holds looks whether a store has just these records.
func holds(t *testing.T, st *store.Store, want map[string]string) {
	t.Helper()
	keys := st.Keys("")
	for _, k := range keys {
		data, e := st.Get(k)
		if w, there := want[k]; !there || data != w || e != api.OK {
			t.Fatalf("record %q is %.80q, want %.80q", k, data, w)
		}
	}
	if len(keys) != len(want) {
		t.Fatalf("%d records, want %d: %q", len(keys), len(want), keys)
	}
}

// all is everything that a store tells.
func all(st *store.Store) string {
	out := []string{fmt.Sprint(st.Pending(), st.Used(), st.Room(), st.Down(), st.Age()), st.Image()}
	for _, k := range st.Keys("") {
		data, e := st.Get(k)
		out = append(out, k, data, fmt.Sprint(int(e)))
	}
	return strings.Join(out, "|")
}

// quiet makes calls that may do nothing to the store.
func quiet(t *testing.T, st *store.Store, calls func()) {
	t.Helper()
	was := all(st)
	calls()
	if all(st) != was {
		t.Fatalf("the store is another: %.200q, was %.200q", all(st), was)
	}
}

func made(t *testing.T, st *store.Store, o api.Opts, space int) *Engine {
	t.Helper()
	e, r := Make(st, o, space)
	if r != api.OK || e == nil {
		t.Fatalf("Make = %d", r)
	}
	return e
}

func opened(t *testing.T, st *store.Store, o api.Opts, space, least int) *Engine {
	t.Helper()
	e, r := Open(st, o, space, least)
	if r != api.OK || e == nil {
		t.Fatalf("Open(.., %d) = %d", least, r)
	}
	return e
}

func appended(t *testing.T, e *Engine, leaves ...string) {
	t.Helper()
	if r := e.Append(leaves); r != api.OK {
		t.Fatalf("Append(%.60q) = %d", leaves, r)
	}
}

func flushed(t *testing.T, e *Engine) {
	t.Helper()
	if r := e.Flush(); r != api.OK {
		t.Fatalf("Flush = %d", r)
	}
}

// leavesOf are all leaves that an engine tells.
func leavesOf(t *testing.T, e *Engine) []string {
	t.Helper()
	var list []string
	for i := range e.Size() {
		l, r := e.Leaf(i)
		if r != api.OK {
			t.Fatalf("Leaf(%d) of %d = %d", i, e.Size(), r)
		}
		list = append(list, l)
	}
	return list
}

// letters are the first n of A, B, C ..
func letters(n int) []string {
	var list []string
	for i := range n {
		list = append(list, string(rune('A'+i)))
	}
	return list
}

// numbered are n leaves, from one of this number on.
func numbered(from, n int) []string {
	var list []string
	for i := range n {
		list = append(list, fmt.Sprint("leaf ", from+i))
	}
	return list
}
