package queue

import (
	"crypto/hmac"
	"crypto/sha256"
	"encoding/binary"
	"fmt"
	"hash/crc32"
	"math/big"
	"slices"
	"testing"

	"annals/api"
	"annals/store"
)

// The oracle: the chapter's words over plain lists, with hashes, codes, sums and numbers in bytes by the library, played on a store of its own.

// at is the space, written out.
const at = 1 << 40

func recordKey(space uint64, kind byte, number uint64) string {
	b := binary.BigEndian.AppendUint64([]byte("B"), space)
	return string(binary.BigEndian.AppendUint64(append(b, kind), number))
}

func frame(kind byte, number uint64, payload string) string {
	b := binary.BigEndian.AppendUint64([]byte{0xa5, kind}, number)
	b = append(binary.BigEndian.AppendUint32(b, uint32(len(payload))), payload...)
	return string(binary.BigEndian.AppendUint32(b, crc32.ChecksumIEEE(b)))
}

func eight(v uint64) string {
	return string(binary.BigEndian.AppendUint64(nil, v))
}

// wantCode is the code of 21.7.
func wantCode(secret, hash string, time, due int) string {
	h := hmac.New(sha256.New, []byte(secret))
	fmt.Fprintf(h, "promise\n%x\n%d\n%d\n", hash, time, due)
	return string(h.Sum(nil))
}

// wantPromise is the promise of 21.7.
func wantPromise(o api.QueueOpts, leaf string, time int) api.Promise {
	hash := sha256.Sum256([]byte(leaf))
	due := time + o.Delay
	if due > 1<<53 {
		due = 1 << 53
	}
	return api.Promise{Hash: string(hash[:]), Time: time, Due: due, Mac: wantCode(o.Secret, string(hash[:]), time, due)}
}

// taken is a submission of the oracle's.
type taken struct {
	leaf   string
	time   int
	placed bool
	place  int
}

// spent is a token that a submitter gave.
type spent struct {
	who  string
	time int
}

type model struct {
	st    *store.Store
	o     api.QueueOpts
	age   int
	clock int
	list  []taken
	spent []spent
}

func newModel(st *store.Store, o api.QueueOpts) *model {
	return &model{st: st, o: o, age: st.Age()}
}

// reopened is the model of the queue that is opened now: what it has is read from the records, which go.
func (m *model) reopened() *model {
	n := newModel(m.st, m.o)
	for i := range uint64(len(m.list) + 1) {
		data, e := m.st.Get(recordKey(at, 1, i))
		if e != api.OK {
			break
		}
		time := int(binary.BigEndian.Uint64([]byte(data[14:])))
		one := taken{leaf: data[22 : len(data)-4], time: time}
		if data, e := m.st.Get(recordKey(at, 2, i)); e == api.OK {
			one.placed, one.place = true, int(binary.BigEndian.Uint64([]byte(data[14:])))
		}
		n.list = append(n.list, one)
		n.clock = max(n.clock, time)
	}
	return n
}

func (m *model) gone() bool { return m.st.Down() || m.st.Age() != m.age }

func (m *model) find(leaf string) int {
	return slices.IndexFunc(m.list, func(s taken) bool { return s.leaf == leaf })
}

// thousandths is 21.6, by numbers that never wrap, reckoned anew from the first token that was given.
func (m *model) thousandths(who string, now int) *big.Int {
	full := big.NewInt(1000 * int64(m.o.Burst))
	have, last := new(big.Int).Set(full), 0
	fill := func(to int) {
		more := new(big.Int).Mul(big.NewInt(int64(m.o.Rate)), big.NewInt(int64(to-last)))
		have.Add(have, more)
		if have.Cmp(full) > 0 {
			have.Set(full)
		}
		last = to
	}
	for _, s := range m.spent {
		if s.who == who {
			fill(s.time)
			have.Sub(have, big.NewInt(1000))
		}
	}
	fill(now)
	return have
}

func (m *model) put(kind byte, number int, payload string) api.Errno {
	return m.st.Put(recordKey(at, kind, uint64(number)), frame(kind, uint64(number), payload))
}

func (m *model) submit(now int, who, leaf string) (api.Promise, api.Errno) {
	if m.gone() {
		return api.Promise{}, 124
	}
	if now < 0 || now > 1<<53 || now < m.clock {
		return api.Promise{}, 211
	}
	m.clock = now
	if len(leaf) > 4096 {
		return api.Promise{}, 121
	}
	if i := m.find(leaf); i >= 0 {
		return wantPromise(m.o, leaf, m.list[i].time), 0
	}
	if m.thousandths(who, now).Cmp(big.NewInt(1000)) < 0 {
		return api.Promise{}, 210
	}
	if m.waiting() >= m.o.Most {
		return api.Promise{}, 83
	}
	if e := m.put(1, len(m.list), eight(uint64(now))+leaf); e != 0 {
		return api.Promise{}, e
	}
	if e := m.st.Sync(); e != 0 {
		return api.Promise{}, e
	}
	m.list = append(m.list, taken{leaf: leaf, time: now})
	m.spent = append(m.spent, spent{who, now})
	return wantPromise(m.o, leaf, now), 0
}

func (m *model) batch(now, most int) []string {
	var list []string
	for _, s := range m.list {
		if !s.placed && s.time <= now && len(list) < most {
			list = append(list, s.leaf)
		}
	}
	return list
}

func (m *model) place(first int, leaves []string) api.Errno {
	if m.gone() {
		return 124
	}
	if first < 0 || uint64(first)+uint64(len(leaves)) > 1<<62 {
		return 212
	}
	for i, leaf := range leaves {
		number := m.find(leaf)
		if number < 0 || m.list[number].placed {
			continue
		}
		if e := m.put(2, number, eight(uint64(first+i))); e != 0 {
			return e
		}
		m.list[number].placed, m.list[number].place = true, first+i
	}
	return 0
}

func (m *model) where(leaf string) (int, api.Errno) {
	if m.gone() {
		return 0, 124
	}
	if i := m.find(leaf); i >= 0 && m.list[i].placed {
		return m.list[i].place, 0
	}
	return 0, 123
}

func (m *model) late(now int) []api.Promise {
	var list []api.Promise
	for _, s := range m.list {
		if p := wantPromise(m.o, s.leaf, s.time); !s.placed && p.Due < now {
			list = append(list, p)
		}
	}
	return list
}

func (m *model) waiting() int {
	n := 0
	for _, s := range m.list {
		if !s.placed {
			n++
		}
	}
	return n
}

// pair is a queue and its model, each on a store of its own, which are given the same.
type pair struct {
	t *testing.T
	q *Queue
	m *model
}

func newPair(t *testing.T, capacity int, o api.QueueOpts) *pair {
	t.Helper()
	return &pair{t, opened(t, store.New(capacity), o), newModel(store.New(capacity), o)}
}

// stores calls something with both stores.
func (p *pair) stores(do func(st *store.Store)) {
	do(p.q.st)
	do(p.m.st)
}

// reopen opens both anew.
func (p *pair) reopen() {
	p.t.Helper()
	p.q, p.m = opened(p.t, p.q.st, p.m.o), p.m.reopened()
}

func (p *pair) submit(now int, who, leaf string) api.Errno {
	p.t.Helper()
	got, e := p.q.Submit(now, who, leaf)
	want, r := p.m.submit(now, who, leaf)
	if got != want || e != r {
		p.t.Fatalf("Submit(%d, %q, %.20q) = %+v, %d, want %+v, %d", now, who, leaf, got, int(e), want, int(r))
	}
	p.alike()
	return e
}

func (p *pair) place(first int, leaves ...string) api.Errno {
	p.t.Helper()
	got, want := p.q.Placed(first, leaves), p.m.place(first, leaves)
	if got != want {
		p.t.Fatalf("Placed(%d, %.200q) = %d, want %d", first, leaves, int(got), int(want))
	}
	p.alike()
	return got
}

func (p *pair) find(leaf string) {
	p.t.Helper()
	got, e := p.q.Find(leaf)
	want, r := p.m.where(leaf)
	if got != want || e != r {
		p.t.Fatalf("Find(%.20q) = %d, %d, want %d, %d", leaf, got, int(e), want, int(r))
	}
}

func (p *pair) batch(now, most int) {
	p.t.Helper()
	if got, want := p.q.Batch(now, most), p.m.batch(now, most); !slices.Equal(got, want) {
		p.t.Fatalf("Batch(%d, %d) = %.200q, want %.200q", now, most, got, want)
	}
}

func (p *pair) late(now int) {
	p.t.Helper()
	if got, want := p.q.Late(now), p.m.late(now); !slices.Equal(got, want) {
		p.t.Fatalf("Late(%d) = %+v, want %+v", now, got, want)
	}
}

// alike looks whether both stores have the same records, now and durable, and whether as many wait.
func (p *pair) alike() {
	p.t.Helper()
	if got, want := p.q.Waiting(), p.m.waiting(); got != want {
		p.t.Fatalf("Waiting = %d, want %d", got, want)
	}
	sameStores(p.t, p.q.st, p.m.st)
}

func sameStores(t *testing.T, got, want *store.Store) {
	t.Helper()
	if got.Pending() != want.Pending() || got.Down() != want.Down() || got.Used() != want.Used() || !slices.Equal(got.Keys(""), want.Keys("")) || got.Image() != want.Image() {
		t.Fatalf("the store has %d pending, %d used, off %v, keys %x, want %d, %d, %v, %x", got.Pending(), got.Used(), got.Down(), got.Keys(""), want.Pending(), want.Used(), want.Down(), want.Keys(""))
	}
	for _, k := range want.Keys("") {
		a, _ := got.Get(k)
		if b, _ := want.Get(k); a != b {
			t.Fatalf("the record %x is %x, want %x", k, a, b)
		}
	}
}

// opened is the queue of a store.
func opened(t *testing.T, st *store.Store, o api.QueueOpts) *Queue {
	t.Helper()
	q, e := Open(st, o)
	if q == nil || e != api.OK {
		t.Fatalf("Open(%+v) = %d", o, int(e))
	}
	return q
}
