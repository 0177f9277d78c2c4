package move

import (
	"fmt"
	"slices"
	"strings"
	"testing"

	"annals/api"
	"annals/book"
	"annals/mth"
	"annals/seat"
	"annals/store"
)

// The oracle: the list of leaves by the standard's definitions (mth), and the chapter's words in calls of a seat, made on a twin with a store of its own.

var (
	loneOpts  = api.Opts{Engine: 1, Width: 32}
	tileOpts  = api.Opts{Engine: 2, Width: 32, Bundle: 4, Height: 2, Cache: 3}
	shardOpts = api.Opts{Engine: 3, Width: 32, Bits: 1}
	smallTile = api.Opts{Engine: 2, Width: 32, Bundle: 1, Height: 1, Cache: 0}
	bigShard  = api.Opts{Engine: 3, Width: 32, Bits: 10}
	allOpts   = []api.Opts{loneOpts, tileOpts, shardOpts, smallTile, bigShard}
)

const room = 1 << 22

// movesOf calls a test with all options and all others.
func movesOf(test func(from, to api.Opts)) {
	for _, from := range allOpts {
		for _, to := range allOpts {
			if from != to {
				test(from, to)
			}
		}
	}
}

func letters(text string) []string { return strings.Split(text, "") }

func numbered(from, n int) []string {
	var list []string
	for i := range n {
		list = append(list, fmt.Sprint("leaf ", from+i))
	}
	return list
}

func isBeginning(long, short []string) bool {
	return len(short) <= len(long) && slices.Equal(long[:len(short)], short)
}

// ok looks whether calls answered OK.
func ok(t *testing.T, answers ...api.Errno) {
	t.Helper()
	for i, r := range answers {
		if r != api.OK {
			t.Fatalf("call %d answered %d", i, r)
		}
	}
}

// made is a seat of these leaves.
func made(t *testing.T, capacity int, o api.Opts, leaves []string) (*store.Store, *seat.Seat) {
	t.Helper()
	st := store.New(capacity)
	s, r := seat.Make(st, o)
	if s == nil || r != api.OK {
		t.Fatalf("Make(%v) = %d", o, r)
	}
	for batch := range slices.Chunk(leaves, api.MaxBatch) {
		ok(t, s.Append(batch))
	}
	return st, s
}

func opened(t *testing.T, st *store.Store) *seat.Seat {
	t.Helper()
	s, r := seat.Open(st)
	if s == nil || r != api.OK {
		t.Fatalf("Open = %d", r)
	}
	return s
}

// leavesOf are all leaves that a seat tells.
func leavesOf(t *testing.T, s *seat.Seat) []string {
	t.Helper()
	var list []string
	for i := range s.Size() {
		l, r := s.Leaf(i)
		if r != api.OK {
			t.Fatalf("Leaf(%d) of %d = %d", i, s.Size(), r)
		}
		list = append(list, l)
	}
	return list
}

// is looks whether a seat's list are these leaves, with their root.
func is(t *testing.T, s *seat.Seat, leaves []string) {
	t.Helper()
	if list := leavesOf(t, s); !slices.Equal(list, leaves) {
		t.Fatalf("%+v: the list is %.200q, want %.200q", s.Seen(), list, leaves)
	}
	if root, r := s.Root(len(leaves)); r != api.OK || root != mth.Root(s.Seen().Width, leaves) {
		t.Fatalf("%+v: Root(%d) = %x, %d", s.Seen(), len(leaves), root, r)
	}
}

// answers are all that a seat says of its list, places and sizes outside included.
func answers(s *seat.Seat) string {
	out := []string{fmt.Sprint(s.Size())}
	for i := -1; i <= s.Size()+1; i++ {
		leaf, e := s.Leaf(i)
		root, f := s.Root(i)
		out = append(out, fmt.Sprintf("%d: %q %d, %x %d", i, leaf, e, root, f))
		for level := -1; level < 6; level++ {
			node, e := s.Node(api.Addr{Level: level, Index: i})
			out = append(out, fmt.Sprintf("%d %d: %x %d", level, i, node, e))
		}
	}
	return strings.Join(out, "\n")
}

// all is everything that a store tells.
func all(st *store.Store) string {
	out := []string{fmt.Sprint(st.Pending(), st.Used(), st.Room(), st.Down(), st.Age()), st.Image()}
	for _, k := range st.Keys("") {
		data, e := st.Get(k)
		out = append(out, k, data, fmt.Sprint(int(e)))
	}
	return strings.Join(out, "|")
}

// tells is what a seat tells without an Errno.
func tells(s *seat.Seat) string {
	return fmt.Sprintf("%d %d %+v %+v", s.Size(), s.Fed(), s.Seen(), s.Counts())
}

// without are a store's records but the slots.
func without(st *store.Store) string {
	var out []string
	for _, k := range st.Keys("") {
		if k != slotKey(0) && k != slotKey(1) {
			data, _ := st.Get(k)
			out = append(out, fmt.Sprintf("%x %q", k, data))
		}
	}
	return strings.Join(out, "\n")
}

func slotKey(slot int) string {
	k, _ := book.Key(0, 1, slot)
	return k
}

// reopened is a store of what is durable in another one.
func reopened(t *testing.T, st *store.Store, capacity int) *store.Store {
	t.Helper()
	st, r := store.Open(st.Image(), capacity)
	ok(t, r)
	return st
}

// oneSlot is what is durable in a store, but for the slot of the older manifest, with no room for anything else.
func oneSlot(t *testing.T, st *store.Store, serial int) *store.Store {
	t.Helper()
	st = reopened(t, st, room)
	ok(t, st.Cut(slotKey((serial+1)%2)), st.Sync())
	return reopened(t, st, st.Used())
}

// wordsOpts are options with the named fields alone (18.1).
func wordsOpts(o api.Opts) api.Opts {
	if o.Engine != 2 {
		o.Bundle, o.Height, o.Cache = 0, 0, 0
	}
	if o.Engine != 3 {
		o.Bits = 0
	}
	return o
}

func wordsStep(s *seat.Seat, most int) (bool, api.Errno) {
	if r := s.Feed(most); r != api.OK {
		return false, r
	}
	if s.Fed() == s.Size() {
		r := s.Flip()
		return r == api.OK, r
	}
	return false, api.OK
}

func wordsRun(s *seat.Seat, to api.Opts) api.Errno {
	if m := s.Seen(); m.Moving {
		if m.To != wordsOpts(to) {
			return api.ErrBusy
		}
	} else if r := s.Plan(to); r != api.OK {
		return r
	}
	for {
		if done, r := wordsStep(s, 1024); done || r != api.OK {
			return r
		}
	}
}

// call is a call of this package, in its words too, or one of a seat.
type call struct {
	name  string
	do    func(s *seat.Seat) (bool, api.Errno)
	words func(s *seat.Seat) (bool, api.Errno)
}

func doBegin(to api.Opts) call {
	return call{fmt.Sprint("Begin ", to),
		func(s *seat.Seat) (bool, api.Errno) { return false, Begin(s, to) },
		func(s *seat.Seat) (bool, api.Errno) { return false, s.Plan(to) }}
}

func doStep(most int) call {
	return call{fmt.Sprint("Step ", most),
		func(s *seat.Seat) (bool, api.Errno) { return Step(s, most) },
		func(s *seat.Seat) (bool, api.Errno) { return wordsStep(s, most) }}
}

func doRun(to api.Opts) call {
	return call{fmt.Sprint("Run ", to),
		func(s *seat.Seat) (bool, api.Errno) { return false, Run(s, to) },
		func(s *seat.Seat) (bool, api.Errno) { return false, wordsRun(s, to) }}
}

func ofSeat(name string, do func(s *seat.Seat) api.Errno) call {
	both := func(s *seat.Seat) (bool, api.Errno) { return false, do(s) }
	return call{name, both, both}
}

func doAppend(list ...string) call {
	return ofSeat(fmt.Sprintf("Append(%.40q)", list), func(s *seat.Seat) api.Errno { return s.Append(list) })
}

func doSync() call   { return ofSeat("Sync", (*seat.Seat).Sync) }
func doCancel() call { return ofSeat("Cancel", (*seat.Seat).Cancel) }

// twins are a seat, and one to which the same is done by the chapter's words.
type twins struct {
	t         *testing.T
	st, other *store.Store
	s, words  *seat.Seat
}

func twinsOf(t *testing.T, capacity int, o api.Opts, leaves []string) *twins {
	t.Helper()
	b := &twins{t: t}
	b.st, b.s = made(t, capacity, o, leaves)
	b.other, b.words = made(t, capacity, o, leaves)
	return b
}

// twinsIn are twins that are opened in copies of a store.
func twinsIn(t *testing.T, st *store.Store) *twins {
	t.Helper()
	b := &twins{t: t, st: reopened(t, st, st.Room()), other: reopened(t, st, st.Room())}
	b.s, b.words = opened(t, b.st), opened(t, b.other)
	return b
}

// stores does something to both stores.
func (b *twins) stores(do func(st *store.Store)) {
	do(b.st)
	do(b.other)
}

// do makes a call of both; both must answer and tell the same, and write the same.
func (b *twins) do(c call) (bool, api.Errno) {
	b.t.Helper()
	done, r := c.do(b.s)
	wantDone, want := c.words(b.words)
	if done != wantDone || r != want {
		b.t.Fatalf("%s = %v, %d, want %v, %d", c.name, done, r, wantDone, want)
	}
	if tells(b.s) != tells(b.words) {
		b.t.Fatalf("behind %s: told is %s, want %s", c.name, tells(b.s), tells(b.words))
	}
	if x, y := all(b.st), all(b.other); x != y {
		b.t.Fatalf("behind %s: the store is %.300q, want %.300q", c.name, x, y)
	}
	return done, r
}
