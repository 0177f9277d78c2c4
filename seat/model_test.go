package seat

import (
	"crypto/sha256"
	"encoding/binary"
	"fmt"
	"hash/crc32"
	"slices"
	"strings"
	"testing"

	"annals/api"
	"annals/book"
	"annals/lone"
	"annals/shard"
	"annals/store"
	"annals/tiled"
)

// The oracle: hashes, check sums and numbers in bytes by the library, the tree level by level from below; and the chapter's words, played on a store of their own.

var (
	loneOpts  = api.Opts{Engine: 1, Width: 32}
	tileOpts  = api.Opts{Engine: 2, Width: 32, Bundle: 4, Height: 2, Cache: 3}
	shardOpts = api.Opts{Engine: 3, Width: 32, Bits: 1}
	allOpts   = []api.Opts{loneOpts, tileOpts, shardOpts}
)

func cut(w int, parts ...string) string {
	h := sha256.Sum256([]byte(strings.Join(parts, "")))
	return string(h[:w])
}

// levels are the hashes of the whole subtrees of leaves, level by level.
func levels(w int, leaves []string) [][]string {
	row := []string{}
	for _, l := range leaves {
		row = append(row, cut(w, "\x00", l))
	}
	all := [][]string{row}
	for len(row) > 1 {
		up := []string{}
		for i := 1; i < len(row); i += 2 {
			up = append(up, cut(w, "\x01", row[i-1], row[i]))
		}
		all = append(all, up)
		row = up
	}
	return all
}

// rootOf is the root of the first n leaves, from the least subtree to the greatest.
func rootOf(w, n int, rows [][]string) string {
	root := ""
	for level := range rows {
		if n>>level&1 == 0 {
			continue
		}
		peak := rows[level][n>>level-1]
		if root == "" {
			root = peak
		} else {
			root = cut(w, "\x01", peak, root)
		}
	}
	if n == 0 {
		return cut(w)
	}
	return root
}

func key(space, kind, number int) string {
	b := binary.BigEndian.AppendUint64([]byte("B"), uint64(space))
	return string(binary.BigEndian.AppendUint64(append(b, byte(kind)), uint64(number)))
}

func frame(kind, number int, payload string) string {
	b := binary.BigEndian.AppendUint64([]byte{0xa5, byte(kind)}, uint64(number))
	b = append(binary.BigEndian.AppendUint32(b, uint32(len(payload))), payload...)
	return string(binary.BigEndian.AppendUint32(b, crc32.ChecksumIEEE(b)))
}

// bytes16 are sixteen numbers, or however many there are, of eight bytes each.
func bytes16(numbers ...uint64) string {
	var b []byte
	for _, n := range numbers {
		b = binary.BigEndian.AppendUint64(b, n)
	}
	return string(b)
}

func wantNumbers(m api.Manifest) []uint64 {
	moving := uint64(0)
	if m.Moving {
		moving = 1
	}
	list := []uint64{uint64(m.Serial)}
	for _, v := range []int{m.Engine, m.Width, m.Bundle, m.Height, m.Cache, m.Bits, m.Space} {
		list = append(list, uint64(v))
	}
	list = append(list, moving)
	for _, v := range []int{m.To.Engine, m.To.Width, m.To.Bundle, m.To.Height, m.To.Cache, m.To.Bits, m.Target} {
		list = append(list, uint64(v))
	}
	return list
}

func wantBytes(m api.Manifest) string { return bytes16(wantNumbers(m)...) }

// putManifest writes a manifest into its slot, whatever it says.
func putManifest(st *store.Store, m api.Manifest) {
	slot := m.Serial & 1
	st.Put(key(0, 1, slot), frame(1, slot, wantBytes(m)))
}

type answer struct {
	text string
	e    api.Errno
}

func (a answer) String() string { return fmt.Sprintf("%.20q (%d) %d", a.text, len(a.text), int(a.e)) }

func got(text string, e api.Errno) answer { return answer{text, e} }

// same holds what a seat tells of its list against the leaves: every place, size and node.
func same(t *testing.T, s *Seat, leaves []string) {
	t.Helper()
	n, w := len(leaves), s.Seen().Width
	if s.Size() != n {
		t.Fatalf("Size = %d, want %d", s.Size(), n)
	}
	rows := levels(w, leaves)
	for i := -2; i <= n+2; i++ {
		leaf, root := answer{"", 81}, answer{"", 80}
		if i >= 0 && i < n {
			leaf = answer{leaves[i], 0}
		}
		if i >= 0 && i <= n {
			root = answer{rootOf(w, i, rows), 0}
		}
		if a := got(s.Leaf(i)); a != leaf {
			t.Fatalf("%v: Leaf(%d) = %v, want %v", s.Seen(), i, a, leaf)
		}
		if a := got(s.Root(i)); a != root {
			t.Fatalf("%v: Root(%d) = %v, want %v", s.Seen(), i, a, root)
		}
		for level := -1; level <= len(rows); level++ {
			node := answer{"", 80}
			if level < 0 || i < 0 {
				node = answer{"", 50}
			} else if level < len(rows) && i < len(rows[level]) {
				node = answer{rows[level][i], 0}
			}
			if a := got(s.Node(api.Addr{Level: level, Index: i})); a != node {
				t.Fatalf("%v: Node({%d, %d}) = %v, want %v", s.Seen(), level, i, a, node)
			}
		}
	}
}

// seatLeaves are all leaves that a seat tells.
func seatLeaves(t *testing.T, s *Seat) []string {
	t.Helper()
	var list []string
	for i := range s.Size() {
		l, r := s.Leaf(i)
		if r != api.OK {
			t.Fatalf("Leaf(%d) of %d = %d", i, s.Size(), r)
		}
		list = append(list, l)
	}
	return list
}

// all is everything that a store tells.
func all(st *store.Store) string {
	out := []string{fmt.Sprint(st.Pending(), st.Used(), st.Room(), st.Down(), st.Age()), st.Image()}
	for _, k := range st.Keys("") {
		data, e := st.Get(k)
		out = append(out, k, data, fmt.Sprint(int(e)))
	}
	return strings.Join(out, "|")
}

// quiet makes calls that may do nothing to the store.
func quiet(t *testing.T, st *store.Store, calls func()) {
	t.Helper()
	was := all(st)
	calls()
	if all(st) != was {
		t.Fatalf("the store is another: %.300q, was %.300q", all(st), was)
	}
}

// spaces are the spaces of which records are there, by the keys' bytes.
func spaces(st *store.Store) []int {
	var list []int
	for _, k := range st.Keys("B") {
		list = append(list, int(binary.BigEndian.Uint64([]byte(k[1:9]))))
	}
	return slices.Compact(list)
}

func made(t *testing.T, st *store.Store, o api.Opts) *Seat {
	t.Helper()
	s, r := Make(st, o)
	if r != api.OK || s == nil {
		t.Fatalf("Make(%v) = %d", o, r)
	}
	return s
}

func opened(t *testing.T, st *store.Store) *Seat {
	t.Helper()
	s, r := Open(st)
	if r != api.OK || s == nil {
		t.Fatalf("Open = %d", r)
	}
	return s
}

// ok looks whether calls answered OK.
func ok(t *testing.T, answers ...api.Errno) {
	t.Helper()
	for i, r := range answers {
		if r != api.OK {
			t.Fatalf("call %d answered %d", i, r)
		}
	}
}

func numbered(from, n int) []string {
	var list []string
	for i := range n {
		list = append(list, fmt.Sprint("leaf ", from+i))
	}
	return list
}

func isBeginning(long, short []string) bool {
	return len(short) <= len(long) && slices.Equal(long[:len(short)], short)
}

// told is what a seat tells without an Errno.
type told struct {
	size, fed int
	seen      api.Manifest
	counts    api.Counts
}

func tells(s *Seat) told { return told{s.Size(), s.Fed(), s.Seen(), s.Counts()} }

// plain is the chapter, word by word, on a store of its own. Each call is tried on a copy, which takes the place of what was unless the power went.
type plain struct {
	st   *store.Store
	age  int
	dead bool
	m    api.Manifest
	eng  engine
	to   engine
}

func plainEngine(st *store.Store, o api.Opts, space int, anew bool) (engine, api.Errno) {
	switch {
	case o.Engine == 1 && anew:
		return lone.Make(st, o, space)
	case o.Engine == 1:
		return lone.Open(st, o, space, 0)
	case o.Engine == 2 && anew:
		return tiled.Make(st, o, space)
	case o.Engine == 2:
		return tiled.Open(st, o, space, 0)
	case o.Engine == 3 && anew:
		return shard.Make(st, o, space)
	case o.Engine == 3:
		return shard.Open(st, o, space, 0)
	}
	return nil, api.ErrOpts
}

// plainOpts are options with the named fields alone; false, if they do not go.
func plainOpts(o api.Opts) (api.Opts, bool) {
	within := func(v, least, most int) bool { return least <= v && v <= most }
	kept := api.Opts{Engine: o.Engine, Width: o.Width}
	goes := within(o.Engine, 1, 3) && within(o.Width, 1, 32)
	if o.Engine == 2 {
		kept.Bundle, kept.Height, kept.Cache = o.Bundle, o.Height, o.Cache
		goes = goes && within(o.Bundle, 1, 64) && within(o.Height, 1, 8) && within(o.Cache, 0, 4096)
	}
	if o.Engine == 3 {
		kept.Bits = o.Bits
		goes = goes && within(o.Bits, 0, 10)
	}
	return kept, goes
}

func plainMake(st *store.Store, o api.Opts) (*plain, api.Errno) {
	o, goes := plainOpts(o)
	switch {
	case !goes:
		return nil, api.ErrOpts
	case st.Down():
		return nil, api.ErrDown
	case len(st.Keys("")) > 0:
		return nil, api.ErrSeat
	case st.Room() < 360:
		return nil, api.ErrFull
	}
	p := &plain{st: st, age: st.Age(), m: api.Manifest{Opts: o, Space: 1}}
	for serial := 1; serial <= 2; serial++ {
		p.m.Serial = serial
		if r := book.Put(st, 0, 1, serial%2, wantBytes(p.m)); r != api.OK {
			return nil, r
		}
	}
	if r := st.Sync(); r != api.OK {
		return nil, r
	}
	var r api.Errno
	p.eng, r = plainEngine(st, o, 1, true)
	return p, r
}

// plainOpen opens what an honest seat has left: the slots are looked at for their serials alone.
func plainOpen(st *store.Store) (*plain, api.Errno) {
	if st.Down() {
		return nil, api.ErrDown
	}
	p := &plain{st: st, age: st.Age()}
	for slot := range 2 {
		b, r := book.Get(st, 0, 1, slot)
		if r == api.OK && int(binary.BigEndian.Uint64([]byte(b[:8]))) > p.m.Serial {
			p.m = plainManifest(b)
		}
	}
	if p.m.Serial == 0 {
		return nil, api.ErrSeat
	}
	var r api.Errno
	if p.eng, r = plainEngine(st, p.m.Opts, p.m.Space, false); r != api.OK {
		return nil, r
	}
	if p.m.Moving {
		if p.to, r = plainEngine(st, p.m.To, p.m.Target, false); r != api.OK {
			return nil, r
		}
		if !isBeginning(engineLeaves(p.eng), engineLeaves(p.to)) {
			if p.to, r = plainEngine(st, p.m.To, p.m.Target, true); r != api.OK {
				return nil, r
			}
		}
	}
	for _, space := range book.Spaces(st) {
		if space == 0 || space == p.m.Space || p.m.Moving && space == p.m.Target || space >= 1<<40 {
			continue
		}
		if _, r := book.Wipe(st, space); r != api.OK {
			return nil, r
		}
	}
	return p, st.Sync()
}

func plainManifest(b string) api.Manifest {
	at := func(i int) int { return int(binary.BigEndian.Uint64([]byte(b[8*i:]))) }
	opts := func(i int) api.Opts {
		return api.Opts{Engine: at(i), Width: at(i + 1), Bundle: at(i + 2), Height: at(i + 3), Cache: at(i + 4), Bits: at(i + 5)}
	}
	return api.Manifest{Serial: at(0), Opts: opts(1), Space: at(7), Moving: at(8) == 1, To: opts(9), Target: at(15)}
}

func engineLeaves(e engine) []string {
	var list []string
	for i := range e.Size() {
		l, _ := e.Leaf(i)
		list = append(list, l)
	}
	return list
}

func (p *plain) call(do func(q *plain) api.Errno) api.Errno {
	if p.dead || p.st.Down() || p.st.Age() != p.age {
		p.dead = true
		return api.ErrDown
	}
	q := *p
	r := do(&q)
	if r == api.ErrDown {
		p.dead = true
		return r
	}
	*p = q
	return r
}

func (p *plain) tells() told {
	fed := 0
	if p.to != nil {
		fed = p.to.Size()
	}
	return told{p.eng.Size(), fed, p.m, p.eng.Counts()}
}

// write is 18.4.
func (p *plain) write(m api.Manifest) api.Errno {
	m.Serial = p.m.Serial + 1
	if r := book.Put(p.st, 0, 1, m.Serial%2, wantBytes(m)); r != api.OK {
		return r
	}
	if r := p.st.Sync(); r != api.OK {
		return r
	}
	p.m = m
	return api.OK
}

func (p *plain) append(list []string) api.Errno {
	return p.call(func(q *plain) api.Errno { return q.eng.Append(list) })
}

func (p *plain) sync() api.Errno {
	return p.call(func(q *plain) api.Errno {
		if r := q.eng.Flush(); r != api.OK {
			return r
		}
		return q.st.Sync()
	})
}

func (p *plain) plan(to api.Opts) api.Errno {
	return p.call(func(q *plain) api.Errno {
		to, goes := plainOpts(to)
		last := max(q.m.Space, q.m.Target)
		switch {
		case q.m.Moving:
			return api.ErrBusy
		case !goes, to.Width != q.m.Width:
			return api.ErrOpts
		case to == q.m.Opts:
			return api.ErrSame
		case last == 1<<40-1, q.m.Serial > 1<<55:
			return api.ErrRange
		}
		m := q.m
		m.Moving, m.To, m.Target = true, to, last+1
		if r := q.write(m); r != api.OK {
			return r
		}
		var r api.Errno
		q.to, r = plainEngine(q.st, to, last+1, true)
		return r
	})
}

func (p *plain) feed(most int) api.Errno {
	return p.call(func(q *plain) api.Errno {
		if !q.m.Moving {
			return api.ErrIdle
		}
		k := min(most, 1024, q.eng.Size()-q.to.Size())
		if k < 1 {
			return api.OK
		}
		var leaves []string
		for i := range k {
			l, r := q.eng.Leaf(q.to.Size() + i)
			if r != api.OK {
				return r
			}
			leaves = append(leaves, l)
		}
		if r := q.to.Append(leaves); r != api.ErrFull {
			return r
		}
		if _, r := book.Wipe(q.st, q.m.Target); r != api.OK {
			return r
		}
		m := q.m
		m.Moving, m.To = false, api.Opts{}
		if r := q.write(m); r != api.OK {
			return r
		}
		q.to = nil
		return api.ErrFull
	})
}

func (p *plain) flip() api.Errno {
	return p.call(func(q *plain) api.Errno {
		if !q.m.Moving {
			return api.ErrIdle
		}
		if q.to.Size() != q.eng.Size() {
			return api.ErrSize
		}
		if r := q.to.Flush(); r != api.OK {
			return r
		}
		if r := q.st.Sync(); r != api.OK {
			return r
		}
		old := q.m.Space
		if r := q.write(api.Manifest{Opts: q.m.To, Space: q.m.Target, Target: q.m.Target}); r != api.OK {
			return r
		}
		q.eng, q.to = q.to, nil
		_, r := book.Wipe(q.st, old)
		return r
	})
}

func (p *plain) cancel() api.Errno {
	return p.call(func(q *plain) api.Errno {
		if !q.m.Moving {
			return api.ErrIdle
		}
		if r := q.write(api.Manifest{Opts: q.m.Opts, Space: q.m.Space, Target: q.m.Target}); r != api.OK {
			return r
		}
		q.to = nil
		_, r := book.Wipe(q.st, q.m.Target)
		return r
	})
}

// step is a call, on a seat and on the chapter's words.
type step struct {
	name  string
	seat  func(s *Seat) api.Errno
	plain func(p *plain) api.Errno
}

func doAppend(list ...string) step {
	return step{fmt.Sprintf("Append(%.40q)", list), func(s *Seat) api.Errno { return s.Append(list) }, func(p *plain) api.Errno { return p.append(list) }}
}

func doSync() step {
	return step{"Sync", (*Seat).Sync, (*plain).sync}
}

func doPlan(to api.Opts) step {
	return step{fmt.Sprint("Plan ", to), func(s *Seat) api.Errno { return s.Plan(to) }, func(p *plain) api.Errno { return p.plan(to) }}
}

func doFeed(most int) step {
	return step{fmt.Sprint("Feed ", most), func(s *Seat) api.Errno { return s.Feed(most) }, func(p *plain) api.Errno { return p.feed(most) }}
}

func doFlip() step {
	return step{"Flip", (*Seat).Flip, (*plain).flip}
}

func doCancel() step {
	return step{"Cancel", (*Seat).Cancel, (*plain).cancel}
}

func doRoot(n int) step {
	return step{fmt.Sprint("Root ", n), func(s *Seat) api.Errno { _, r := s.Root(n); return r }, func(p *plain) api.Errno {
		return p.call(func(q *plain) api.Errno { _, r := q.eng.Root(n); return r })
	}}
}

func doNode(level, index int) step {
	a := api.Addr{Level: level, Index: index}
	return step{fmt.Sprint("Node ", a), func(s *Seat) api.Errno { _, r := s.Node(a); return r }, func(p *plain) api.Errno {
		return p.call(func(q *plain) api.Errno { _, r := q.eng.Node(a); return r })
	}}
}

// pair is a seat and the chapter's words, each on a store of its own; whatever is done is done to both, and both must tell the same.
type pair struct {
	t  *testing.T
	st *store.Store
	s  *Seat
	p  *plain
}

func pairOf(t *testing.T, capacity int, o api.Opts) *pair {
	t.Helper()
	st := store.New(capacity)
	s := made(t, st, o)
	p, r := plainMake(store.New(capacity), o)
	if r != api.OK {
		t.Fatalf("the words' Make = %d", r)
	}
	return &pair{t, st, s, p}
}

// stores does something to both stores.
func (b *pair) stores(do func(st *store.Store)) {
	do(b.st)
	do(b.p.st)
}

// look holds all that is told against one another.
func (b *pair) look(where string) {
	b.t.Helper()
	if x, y := tells(b.s), b.p.tells(); x != y {
		b.t.Fatalf("%s: told is %+v, want %+v", where, x, y)
	}
	if x, y := all(b.st), all(b.p.st); x != y {
		b.t.Fatalf("%s: the store is %.400q, want %.400q", where, x, y)
	}
}

// do makes a call of both.
func (b *pair) do(x step) api.Errno {
	b.t.Helper()
	r, want := x.seat(b.s), x.plain(b.p)
	if r != want {
		b.t.Fatalf("%s = %d, want %d", x.name, r, want)
	}
	b.look(x.name)
	return r
}

// open opens both anew; it tells what both answered.
func (b *pair) open() api.Errno {
	b.t.Helper()
	s, r := Open(b.st)
	p, want := plainOpen(b.p.st)
	if r != want || (s == nil) != (r != api.OK) {
		b.t.Fatalf("Open = %d, want %d", r, want)
	}
	if r == api.OK {
		b.s, b.p = s, p
	}
	b.look("Open")
	return r
}
