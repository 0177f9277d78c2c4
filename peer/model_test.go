package peer

import (
	"encoding/binary"
	"hash/crc32"
	"slices"
	"strings"
	"testing"

	"annals/api"
	"annals/check"
	"annals/note"
	"annals/store"
	"annals/tree"
)

// The oracle: the chapter's steps one behind the other, over notes by their origins, with numbers and sums in bytes by the library, played on a store of its own.

// at is the space, written out.
const at = 1 << 41

func recordKey(space uint64, kind byte, number uint64) string {
	b := binary.BigEndian.AppendUint64([]byte("B"), space)
	return string(binary.BigEndian.AppendUint64(append(b, kind), number))
}

func frame(kind byte, number uint64, payload string) string {
	b := binary.BigEndian.AppendUint64([]byte{0xa5, kind}, number)
	b = append(binary.BigEndian.AppendUint32(b, uint32(len(payload))), payload...)
	return string(binary.BigEndian.AppendUint32(b, crc32.ChecksumIEEE(b)))
}

// put puts a payload where a witness has its own.
func put(st *store.Store, payload string) api.Errno {
	if len(payload) > 1<<19 {
		return 121
	}
	return st.Put(recordKey(at, 1, 0), frame(1, 0, payload))
}

// payloadOf is the payload of notes in their order.
func payloadOf(notes ...string) string {
	var b []byte
	for _, s := range notes {
		b = append(binary.AppendUvarint(b, uint64(len(s))), s...)
	}
	return string(b)
}

// pointIn is the checkpoint in a note that is known to hold one.
func pointIn(s string) api.Checkpoint {
	c, _ := note.Parse(s[:strings.LastIndex(s, "\n\n")+1])
	return c
}

type model struct {
	st    *store.Store
	own   api.Key
	logs  []api.Key
	w     int
	age   int
	known map[string]string
}

// newModel is the model of a witness whose record, if it is there, goes.
func newModel(st *store.Store, own api.Key, logs []api.Key, w int) *model {
	if w < 1 || w > 32 {
		w = 32
	}
	m := &model{st, own, logs, w, st.Age(), map[string]string{}}
	data, e := st.Get(recordKey(at, 1, 0))
	for rest := []byte(data); e == api.OK && len(rest) > 0; {
		if len(rest) == len(data) {
			rest = rest[14 : len(rest)-4]
			continue
		}
		length, n := binary.Uvarint(rest)
		one := string(rest[n : n+int(length)])
		m.known[pointIn(one).Origin] = one
		rest = rest[n+int(length):]
	}
	return m
}

func (m *model) gone() bool { return m.st.Down() || m.st.Age() != m.age }

func (m *model) add(r api.Request) (string, int, api.Evidence, api.Errno) {
	var none api.Evidence
	if m.gone() { // 1
		return "", 0, none, 124
	}
	o, e := note.Open(r.Note, m.logs)
	if e != 0 {
		return "", 0, none, e
	}
	c, e := note.Parse(o.Text)
	if e != 0 {
		return "", 0, none, e
	}
	i := slices.IndexFunc(m.logs, func(k api.Key) bool { return k.Name == c.Origin })
	if i < 0 { // 2
		return "", 0, none, 220
	}
	known, there := m.known[c.Origin]
	was := api.Checkpoint{Root: tree.Empty(m.w)}
	if there {
		was = pointIn(known)
	}
	signed := false
	for _, s := range o.Good {
		id, _ := note.ID(m.logs[i])
		signed = signed || s.Name == c.Origin && s.ID == id
	}
	if !signed { // 3
		return "", was.Size, none, 202
	}
	if len(c.Root) != m.w { // 4
		return "", was.Size, none, 72
	}
	if r.Old < 0 || r.Old > c.Size { // 5
		return "", was.Size, none, 10
	}
	if r.Old != was.Size { // 6
		return "", was.Size, none, 221
	}
	if there && c.Size == was.Size { // 7
		if c.Root != was.Root {
			return "", was.Size, api.Evidence{One: known, Two: r.Note}, 222
		}
		s, e := note.Add(r.Note, m.own)
		return s, was.Size, none, e
	}
	if e := check.Consistency(m.w, r.Old, c.Size, was.Root, c.Root, r.Proof); e != 0 { // 8
		return "", was.Size, none, e
	}
	s, e := note.Add(r.Note, m.own) // 9
	if e != 0 {
		return "", was.Size, none, e
	}
	if e := m.write(c.Origin, r.Note); e != 0 { // 10
		return "", was.Size, none, e
	}
	m.known[c.Origin] = r.Note
	return s, c.Size, none, 0
}

func (m *model) write(origin, last string) api.Errno {
	origins := []string{origin}
	for o := range m.known {
		if o != origin {
			origins = append(origins, o)
		}
	}
	slices.Sort(origins)
	var notes []string
	for _, o := range origins {
		if o == origin {
			notes = append(notes, last)
		} else {
			notes = append(notes, m.known[o])
		}
	}
	if e := put(m.st, payloadOf(notes...)); e != 0 {
		return e
	}
	return m.st.Sync()
}

func (m *model) latest(origin string) (api.Checkpoint, api.Errno) {
	if m.gone() {
		return api.Checkpoint{}, 124
	}
	if !slices.ContainsFunc(m.logs, func(k api.Key) bool { return k.Name == origin }) {
		return api.Checkpoint{}, 220
	}
	known, there := m.known[origin]
	if !there {
		return api.Checkpoint{}, 123
	}
	return pointIn(known), 0
}

// opened is the witness of a store.
func opened(t *testing.T, st *store.Store, own api.Key, logs []api.Key, w int) *Peer {
	t.Helper()
	p, e := Open(st, own, logs, w)
	if p == nil || e != api.OK {
		t.Fatalf("Open = %d", int(e))
	}
	return p
}

// pair is a witness and its model, each on a store of its own, which are given the same.
type pair struct {
	t     *testing.T
	p     *Peer
	m     *model
	a, b  *store.Store
	own   api.Key
	logs  []api.Key
	width int
}

func newPair(t *testing.T, capacity, w int, own api.Key, logs ...api.Key) *pair {
	t.Helper()
	p := &pair{t: t, a: store.New(capacity), b: store.New(capacity), own: own, logs: logs, width: w}
	p.reopen()
	return p
}

// reopen opens both anew.
func (p *pair) reopen() {
	p.t.Helper()
	p.p, p.m = opened(p.t, p.a, p.own, p.logs, p.width), newModel(p.b, p.own, p.logs, p.width)
	p.alike()
}

// stores calls something with both stores.
func (p *pair) stores(do func(st *store.Store)) {
	do(p.a)
	do(p.b)
}

func (p *pair) add(r api.Request) api.Errno {
	p.t.Helper()
	s, n, v, e := p.p.Add(r)
	ws, wn, wv, we := p.m.add(r)
	if s != ws || n != wn || v != wv || e != we {
		p.t.Fatalf("Add(%d, %x, %.300q) = %.300q, %d, %.300q, %d, want %.300q, %d, %.300q, %d", r.Old, r.Proof, r.Note, s, n, v, int(e), ws, wn, wv, int(we))
	}
	p.alike()
	return e
}

// wants adds and looks whether that is answered with this size and Errno.
func (p *pair) wants(size int, want api.Errno, r api.Request) {
	p.t.Helper()
	s, n, v, e := p.p.Add(r)
	ws, wn, wv, we := p.m.add(r)
	if n != size || e != want || s != ws || n != wn || v != wv || e != we {
		p.t.Errorf("Add(%d, %x, %.200q) = %.200q, %d, %.200q, %d, want %d, %d (model: %d, %d)", r.Old, r.Proof, r.Note, s, n, v, int(e), size, int(want), wn, int(we))
	}
	p.alike()
}

func samePoint(a, b api.Checkpoint) bool {
	return a.Origin == b.Origin && a.Size == b.Size && a.Root == b.Root && slices.Equal(a.Ext, b.Ext)
}

func (p *pair) latest(origin string) {
	p.t.Helper()
	got, e := p.p.Latest(origin)
	want, r := p.m.latest(origin)
	if !samePoint(got, want) || e != r {
		p.t.Fatalf("Latest(%q) = %+v, %d, want %+v, %d", origin, got, int(e), want, int(r))
	}
}

// alike looks whether both stores have the same records, now and durable.
func (p *pair) alike() {
	p.t.Helper()
	if p.a.Pending() != p.b.Pending() || p.a.Down() != p.b.Down() || p.a.Used() != p.b.Used() || !slices.Equal(p.a.Keys(""), p.b.Keys("")) || p.a.Image() != p.b.Image() {
		p.t.Fatalf("the store has %d pending, %d used, off %v, keys %x, want %d, %d, %v, %x", p.a.Pending(), p.a.Used(), p.a.Down(), p.a.Keys(""), p.b.Pending(), p.b.Used(), p.b.Down(), p.b.Keys(""))
	}
	for _, k := range p.b.Keys("") {
		x, _ := p.a.Get(k)
		if y, _ := p.b.Get(k); x != y {
			p.t.Fatalf("the record %x is %q, want %q", k, x, y)
		}
	}
}
