package watch

import (
	"crypto/sha256"
	"fmt"
	"slices"
	"strings"
	"testing"

	"annals/api"
	"annals/check"
	"annals/mth"
	"annals/note"
)

// The oracle: the chapter's steps one behind the other, over all leaves that were taken, with hashes by the library.

// hashOf is the hash of parts that stand one behind another.
func hashOf(w int, parts ...string) string {
	sum := sha256.Sum256([]byte(strings.Join(parts, "")))
	if w < 1 || w > 32 {
		w = 32
	}
	return string(sum[:w])
}

// rootOf is a list's root, reckoned from below: the nodes of a row are paired, and one that is left over goes up as it is.
func rootOf(w int, list []string) string {
	if len(list) == 0 {
		return hashOf(w)
	}
	var row []string
	for _, leaf := range list {
		row = append(row, hashOf(w, "\x00", leaf))
	}
	for len(row) > 1 {
		var above []string
		for pair := range slices.Chunk(row, 2) {
			if len(pair) == 2 {
				pair = []string{hashOf(w, "\x01", pair[0], pair[1])}
			}
			above = append(above, pair[0])
		}
		row = above
	}
	return row[0]
}

type model struct {
	key      api.Key
	w        int
	pattern  string
	list     []string // all leaves that were taken
	root     string
	note     string
	evidence api.Evidence
	has      bool
}

func newModel(k api.Key, w int, pattern string) *model {
	return &model{key: k, w: w, pattern: pattern, root: hashOf(w)}
}

func (m *model) see(signed string, s Source) (api.Sighting, api.Errno) {
	var none api.Sighting
	o, e := note.Open(signed, []api.Key{m.key}) // 1
	if e != 0 {
		return none, e
	}
	c, e := note.Parse(o.Text)
	if e != 0 {
		return none, e
	}
	if c.Origin != m.key.Name {
		return none, 220
	}
	last := len(m.list)
	if c.Size < last { // 2
		return none, 240
	}
	if c.Size == last { // 3
		if c.Root == m.root {
			return api.Sighting{Size: last, Root: m.root}, 0
		}
		if m.note != "" {
			m.evidence, m.has = api.Evidence{One: m.note, Two: signed}, true
		}
		return none, 241
	}
	if c.Size > last+1048576 { // 4
		return none, 83
	}
	if last != 0 { // 5
		if s.Proof == nil {
			return none, 242
		}
		proof, e := s.Proof(last, c.Size)
		if e != 0 {
			return none, e
		}
		if check.Consistency(m.w, last, c.Size, m.root, c.Root, proof) != 0 {
			return none, 241
		}
	}
	if s.Leaves == nil { // 6
		return none, 242
	}
	list := slices.Clone(m.list)
	for len(list) < c.Size {
		hi := len(list) + 1024
		if hi > c.Size {
			hi = c.Size
		}
		more, e := s.Leaves(len(list), hi)
		if e != 0 {
			return none, e
		}
		if len(more) != hi-len(list) {
			return none, 242
		}
		list = append(list, more...)
	}
	if rootOf(m.w, list) != c.Root { // 7
		return none, 242
	}
	x := api.Sighting{Size: c.Size, Root: c.Root, Fresh: c.Size - last}
	for i := last; i < c.Size; i++ {
		if m.pattern != "" && strings.Index(list[i], m.pattern) >= 0 {
			x.Hits = append(x.Hits, i)
		}
	}
	m.list, m.root, m.note = list, c.Root, signed
	return x, 0
}

// judged is Judge by the chapter's words.
func judged(k api.Key, v api.Evidence) api.Errno {
	var points []api.Checkpoint
	for _, s := range []string{v.One, v.Two} {
		o, e := note.Open(s, []api.Key{k})
		c, f := note.Parse(o.Text)
		if e != 0 || f != 0 || c.Origin != k.Name {
			return 243
		}
		points = append(points, c)
	}
	if points[0].Size != points[1].Size || points[0].Root == points[1].Root {
		return 243
	}
	return 0
}

// wasKept is Kept by the chapter's words.
func wasKept(w int, p api.Promise, leaf string, c api.Checkpoint, list []string, at int) (bool, api.Errno) {
	if len(list) != c.Size || rootOf(w, list) != c.Root {
		return false, 242
	}
	if p.Hash != hashOf(32, leaf) {
		return false, 243
	}
	there := false
	for _, l := range list {
		there = there || l == leaf
	}
	return there || at <= p.Due, 0
}

// signed is a checkpoint's note, signed by these keys.
func signed(t *testing.T, c api.Checkpoint, keys ...api.Key) string {
	t.Helper()
	body, e := note.Text(c)
	if e != api.OK {
		t.Fatalf("note.Text(%+v) = %d", c, int(e))
	}
	s, e := note.Sign(body, keys)
	if e != api.OK {
		t.Fatalf("note.Sign = %d", int(e))
	}
	return s
}

// honest is the source of a list, which refuses what is not there.
func honest(w int, list []string) Source {
	return Source{
		Proof: func(m, n int) ([]string, api.Errno) {
			if n > len(list) {
				return nil, api.ErrSize
			}
			return mth.Proof(w, m, list[:n])
		},
		Leaves: func(lo, hi int) ([]string, api.Errno) {
			if hi > len(list) {
				return nil, api.ErrIndex
			}
			return list[lo:hi], api.OK
		},
	}
}

// said is what a source was asked, and what it has told.
type said struct {
	asks   []string
	proof  []string
	leaves []string
}

// hear has a source keep what it says. What it hands out has spare room, which is looked at when the call is over.
func hear(s Source, into *said) (Source, func() bool) {
	var given [][]string
	hand := func(list []string) []string {
		wide := append(slices.Clone(list), "spare", "room")
		given = append(given, wide, slices.Clone(wide))
		return wide[:len(list)]
	}
	whole := func() bool {
		for i := 0; i < len(given); i += 2 {
			if !slices.Equal(given[i], given[i+1]) {
				return false
			}
		}
		return true
	}
	var heard Source
	if s.Proof != nil {
		heard.Proof = func(m, n int) ([]string, api.Errno) {
			into.asks = append(into.asks, fmt.Sprint("proof ", m, " ", n))
			p, e := s.Proof(m, n)
			into.proof = slices.Clone(p)
			return hand(p), e
		}
	}
	if s.Leaves != nil {
		heard.Leaves = func(lo, hi int) ([]string, api.Errno) {
			into.asks = append(into.asks, fmt.Sprint("leaves ", lo, " ", hi))
			l, e := s.Leaves(lo, hi)
			into.leaves = append(into.leaves, l...)
			return hand(l), e
		}
	}
	return heard, whole
}

// pair is a monitor and its model, which are given the same; and what follows from the chapter, which is looked at behind each call.
type pair struct {
	t     *testing.T
	mon   *Monitor
	mod   *model
	taken []string // the leaves that were fetched by what was answered OK
	asks  []string // what was asked last
}

func newPair(t *testing.T, k api.Key, w int, pattern string) *pair {
	t.Helper()
	m, e := New(k, w, pattern)
	if m == nil || e != api.OK {
		t.Fatalf("New = %v, %d", m, int(e))
	}
	p := &pair{t: t, mon: m, mod: newModel(k, w, pattern)}
	p.alike()
	return p
}

func same(a, b api.Sighting) bool {
	return a.Size == b.Size && a.Root == b.Root && a.Fresh == b.Fresh && slices.Equal(a.Hits, b.Hits)
}

// told is a sighting to be read: roots are bytes of any kind.
func told(x api.Sighting) string {
	return fmt.Sprintf("{%d %x %d %v}", x.Size, x.Root, x.Fresh, x.Hits)
}

// see shows both the same, and looks whether all is alike.
func (p *pair) see(signed string, s Source) (api.Sighting, api.Errno) {
	p.t.Helper()
	var ours, theirs said
	left, whole := hear(s, &ours)
	right, _ := hear(s, &theirs)
	size, root := p.mon.At()
	x, e := p.mon.See(signed, left)
	y, f := p.mod.see(signed, right)
	if !same(x, y) || e != f || !slices.Equal(ours.asks, theirs.asks) {
		p.t.Fatalf("See(%.200q) = %s, %d, asked %q, want %s, %d, %q", signed, told(x), int(e), ours.asks, told(y), int(f), theirs.asks)
	}
	if !whole() {
		p.t.Fatalf("See(%.200q) has changed a list that it was given", signed)
	}
	p.asks = ours.asks
	if e == api.OK && x.Fresh > 0 {
		p.taken = append(p.taken, ours.leaves...)
		if e := check.Consistency(p.mod.w, size, x.Size, root, x.Root, ours.proof); x.Size <= size || e != api.OK {
			p.t.Fatalf("24.8: from %d to %d by the proof %x: %d", size, x.Size, ours.proof, int(e))
		}
	}
	p.alike()
	return x, e
}

// wants is see, and what it answers.
func (p *pair) wants(want api.Errno, signed string, s Source) {
	p.t.Helper()
	if x, e := p.see(signed, s); e != want {
		p.t.Errorf("See(%.200q) = %s, %d, want %d", signed, told(x), int(e), int(want))
	}
}

// alike looks what both tell, and what is promised of it.
func (p *pair) alike() {
	p.t.Helper()
	size, root := p.mon.At()
	if size != len(p.mod.list) || root != p.mod.root {
		p.t.Fatalf("At = %d, %x, want %d, %x", size, root, len(p.mod.list), p.mod.root)
	}
	v, has := p.mon.Proof()
	if v != p.mod.evidence || has != p.mod.has {
		p.t.Fatalf("Proof = %.300q, %v, want %.300q, %v", v, has, p.mod.evidence, p.mod.has)
	}
	if len(p.taken) != size || rootOf(p.mod.w, p.taken) != root {
		p.t.Fatalf("24.6: %d leaves that make %x, at %d, %x", len(p.taken), rootOf(p.mod.w, p.taken), size, root)
	}
	if has && Judge(p.mod.key, v) != api.OK {
		p.t.Fatalf("24.7: Judge does not take %.300q", v)
	}
}
