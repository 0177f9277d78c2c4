package seat

import (
	"fmt"
	"math"
	"math/rand"
	"slices"
	"strings"
	"testing"
	"unsafe"

	"annals/api"
	"annals/store"
)

// TestExamples: the chapter's table, line by line.
func TestExamples(t *testing.T) {
	st := store.New(100000)
	s := made(t, st, loneOpts)
	seen := func(want api.Manifest) {
		t.Helper()
		if s.Seen() != want {
			t.Errorf("Seen = %+v, want %+v", s.Seen(), want)
		}
	}
	calls := func(want []api.Errno, answers ...api.Errno) {
		t.Helper()
		if !slices.Equal(answers, want) {
			t.Errorf("answers %v, want %v", answers, want)
		}
	}
	seen(api.Manifest{Serial: 2, Opts: loneOpts, Space: 1})
	for _, c := range []struct {
		o    api.Opts
		want api.Errno
	}{{loneOpts, api.ErrSeat}, {api.Opts{Engine: 4, Width: 32}, api.ErrOpts}} {
		if s, r := Make(st, c.o); s != nil || r != c.want {
			t.Errorf("Make(%v) once more = %d", c.o, r)
		}
	}
	if st.Used() != 360 {
		t.Errorf("Used = %d", st.Used())
	}
	calls([]api.Errno{0, 183}, s.Append([]string{"a", "b", "c"}), s.Plan(api.Opts{Engine: 1, Width: 32, Bundle: 9}))
	calls([]api.Errno{0, 182, 182, 182}, api.Errno(s.Fed()), s.Feed(1), s.Flip(), s.Cancel())
	calls([]api.Errno{0}, s.Plan(tileOpts))
	seen(api.Manifest{Serial: 3, Opts: loneOpts, Space: 1, Moving: true, To: tileOpts, Target: 2})
	calls([]api.Errno{181}, s.Plan(loneOpts))
	calls([]api.Errno{0, 2, 80, 0, 0, 4, 0}, s.Feed(2), api.Errno(s.Fed()), s.Flip(), s.Append([]string{"d"}), s.Feed(99), api.Errno(s.Fed()), s.Flip())
	seen(api.Manifest{Serial: 4, Opts: tileOpts, Space: 2, Target: 2})
	calls([]api.Errno{0}, s.Plan(loneOpts))
	seen(api.Manifest{Serial: 5, Opts: tileOpts, Space: 2, Moving: true, To: loneOpts, Target: 3})
	calls([]api.Errno{0}, s.Cancel())
	seen(api.Manifest{Serial: 6, Opts: tileOpts, Space: 2, Target: 3})
	calls([]api.Errno{0, 0}, s.Plan(loneOpts), s.Feed(3))
	if s.Seen().Target != 4 {
		t.Errorf("Target %d", s.Seen().Target)
	}
	st.Crash("\x00")
	calls([]api.Errno{124}, s.Append([]string{"x"}))
	s = opened(t, st)
	if s.Fed() != 0 || s.Size() != 4 {
		t.Errorf("behind a cut: Fed %d, Size %d", s.Fed(), s.Size())
	}
	same(t, s, []string{"a", "b", "c", "d"})
	if s, r := Open(store.New(1000)); s != nil || r != api.ErrSeat {
		t.Errorf("Open of an empty store = %d", r)
	}
	st.Put(key(0, 1, 1), "spoilt")
	s = opened(t, st)
	seen(api.Manifest{Serial: 6, Opts: tileOpts, Space: 2, Target: 3})
	same(t, s, []string{"a", "b", "c", "d"})
}

// TestOptions_18_1: each engine's bounds, for Make and for Plan; what an engine does not name is let go.
func TestOptions_18_1(t *testing.T) {
	edges := []int{math.MinInt, -1, 0, 1, 2, 3, 4, 8, 9, 10, 11, 31, 32, 33, 64, 65, 257, 4096, 4097, 1<<32 + 1, math.MaxInt}
	fields := []func(o *api.Opts) *int{
		func(o *api.Opts) *int { return &o.Engine }, func(o *api.Opts) *int { return &o.Width }, func(o *api.Opts) *int { return &o.Bundle },
		func(o *api.Opts) *int { return &o.Height }, func(o *api.Opts) *int { return &o.Cache }, func(o *api.Opts) *int { return &o.Bits },
	}
	base := api.Opts{Width: 5, Bundle: 7, Height: 3, Cache: 2, Bits: 4}
	for engine := 0; engine <= 4; engine++ {
		for i, one := range fields {
			for _, two := range fields[i+1:] {
				for _, v := range edges {
					for _, u := range edges {
						o := base
						o.Engine = engine
						*one(&o), *two(&o) = v, u
						kept, goes := plainOpts(o)
						s, r := Make(store.New(1000), o)
						if goes != (r == api.OK) || !goes && (s != nil || r != api.ErrOpts) {
							t.Fatalf("Make(%v) = %d", o, r)
						}
						if goes && s.Seen() != (api.Manifest{Serial: 2, Opts: kept, Space: 1}) {
							t.Fatalf("Make(%v), Seen = %+v", o, s.Seen())
						}
					}
				}
			}
			for _, v := range edges {
				to := base
				to.Engine = engine
				*one(&to) = v
				kept, goes := plainOpts(to)
				from := api.Opts{Engine: 3, Width: 5, Bits: 9}
				s := made(t, store.New(1000), from)
				want := api.ErrOpts
				switch {
				case !goes || kept.Width != 5:
				case kept == from:
					want = api.ErrSame
				default:
					want = api.OK
				}
				if r := s.Plan(to); r != want || r == api.OK && s.Seen().To != kept {
					t.Fatalf("Plan(%v) = %d, want %d; Seen %+v", to, r, want, s.Seen())
				}
			}
		}
	}
}

// TestBytes_18_2: the slots hold sixteen numbers each, of the manifest and of the one before it.
func TestBytes_18_2(t *testing.T) {
	st := store.New(1 << 20)
	s := made(t, st, api.Opts{Engine: 2, Width: 32, Bundle: 64, Height: 8, Cache: 4096, Bits: 77})
	var before api.Manifest
	look := func() {
		t.Helper()
		seen := s.Seen()
		for _, m := range []api.Manifest{before, seen} {
			data, r := st.Get(key(0, 1, m.Serial&1))
			if want := frame(1, m.Serial&1, wantBytes(m)); r != api.OK || data != want || len(data) != 128+18 {
				t.Fatalf("slot of %+v is %x, want %x", m, data, want)
			}
		}
		if len(st.Keys(key(0, 1, 0)[:9])) != 2 || st.Pending() != 0 {
			t.Fatalf("space 0 has %q, pending %d", st.Keys(""), st.Pending())
		}
		before = seen
	}
	before = s.Seen()
	before.Serial = 1
	look()
	for i, to := range []api.Opts{shardOpts, tileOpts, loneOpts, {Engine: 3, Width: 32, Bits: 10}, {Engine: 2, Width: 32, Bundle: 1, Height: 1}} {
		ok(t, s.Plan(to))
		look()
		if i%2 == 0 {
			ok(t, s.Flip())
		} else {
			ok(t, s.Cancel())
		}
		look()
	}
	want := "\x00\x00\x00\x00\x00\x00\x00\x0c" + "\x00\x00\x00\x00\x00\x00\x00\x02" + "\x00\x00\x00\x00\x00\x00\x00\x20"
	if data, _ := st.Get(key(0, 1, 0)); !strings.HasPrefix(data[14:], want) {
		t.Errorf("slot 0 is %x", data)
	}
	big := api.Manifest{Serial: 1 << 55, Opts: tileOpts, Space: 0x123456789a, Target: 1<<40 - 2}
	st = store.New(1000)
	putManifest(st, big)
	if s = opened(t, st); s.Seen() != big {
		t.Errorf("Seen = %+v", s.Seen())
	}
	ok(t, s.Plan(shardOpts))
	if data, _ := st.Get(key(0, 1, 1)); data != frame(1, 1, wantBytes(s.Seen())) || s.Seen().Serial != 1<<55+1 {
		t.Errorf("slot 1 is %x", data)
	}
}

// sixteen says whether sixteen numbers, in a slot, are a sound manifest.
func sixteen(n []uint64, slot int) bool {
	opts := func(n []uint64) bool {
		o := api.Opts{Engine: int(n[0]), Width: int(n[1]), Bundle: int(n[2]), Height: int(n[3]), Cache: int(n[4]), Bits: int(n[5])}
		kept, goes := plainOpts(o)
		return goes && kept == o && !slices.ContainsFunc(n[:6], func(v uint64) bool { return v >= 1<<63 })
	}
	if n[0] < 1 || n[0] > 1<<56 || n[0]%2 != uint64(slot) || !opts(n[1:]) || n[7] < 1 || n[7] >= 1<<40 || n[15] >= 1<<40 {
		return false
	}
	switch n[8] {
	case 0:
		return !slices.ContainsFunc(n[9:15], func(v uint64) bool { return v != 0 })
	case 1:
		return opts(n[9:]) && n[15] >= 1 && n[15] != n[7]
	}
	return false
}

// TestSoundNumbers_18_3: each number, and each two, at their edges.
func TestSoundNumbers_18_3(t *testing.T) {
	t.Parallel()
	edges := []uint64{0, 1, 2, 3, 4, 5, 6, 7, 8, 9, 10, 11, 32, 33, 64, 65, 4096, 4097, 1<<32 + 1, 1<<40 - 2, 1<<40 - 1, 1 << 40, 1<<56 - 1, 1 << 56, 1<<56 + 1, 1<<63 - 1, 1 << 63, 1<<63 + 1, 1<<64 - 2, 1<<64 - 1}
	for _, m := range []api.Manifest{
		{Serial: 6, Opts: tileOpts, Space: 9, Target: 9},
		{Serial: 7, Opts: loneOpts, Space: 5, Moving: true, To: tileOpts, Target: 6},
		{Serial: 1 << 56, Opts: shardOpts, Space: 1<<40 - 1, Moving: true, To: loneOpts, Target: 1},
	} {
		slot := m.Serial & 1
		for i := range 16 {
			for j := range i + 1 {
				for _, v := range edges {
					for _, u := range edges {
						n := wantNumbers(m)
						n[i], n[j] = v, u
						st := store.New(1000)
						st.Put(key(0, 1, slot), frame(1, slot, bytes16(n...)))
						s, r := Open(st)
						if sixteen(n, slot) {
							if r != api.OK || bytes16(wantNumbers(s.Seen())...) != bytes16(n...) || s.Size() != 0 || s.Fed() != 0 {
								t.Fatalf("%v in slot %d: %d", n, slot, r)
							}
						} else if s != nil || r != api.ErrSeat {
							t.Fatalf("%v in slot %d is not sound: %d", n, slot, r)
						}
					}
				}
			}
		}
	}
}

// TestSoundSlots_18_3: what may be wrong with the record itself; then the other slot counts, if it is sound.
func TestSoundSlots_18_3(t *testing.T) {
	newer := api.Manifest{Serial: 8, Opts: shardOpts, Space: 3, Target: 3}
	older := api.Manifest{Serial: 7, Opts: loneOpts, Space: 2, Moving: true, To: shardOpts, Target: 3}
	good := wantBytes(newer)
	bit := []byte(frame(1, 0, good))
	bit[20] ^= 1
	for name, spoil := range map[string]func(st *store.Store){
		"not there":      func(st *store.Store) { st.Cut(key(0, 1, 0)) },
		"empty":          func(st *store.Store) { st.Put(key(0, 1, 0), "") },
		"no frame":       func(st *store.Store) { st.Put(key(0, 1, 0), good) },
		"a bit turned":   func(st *store.Store) { st.Put(key(0, 1, 0), string(bit)) },
		"another kind":   func(st *store.Store) { st.Put(key(0, 1, 0), frame(2, 0, good)) },
		"another number": func(st *store.Store) { st.Put(key(0, 1, 0), frame(1, 1, good)) },
		"no bytes":       func(st *store.Store) { st.Put(key(0, 1, 0), frame(1, 0, "")) },
		"a byte missing": func(st *store.Store) { st.Put(key(0, 1, 0), frame(1, 0, good[:127])) },
		"a byte more":    func(st *store.Store) { st.Put(key(0, 1, 0), frame(1, 0, good+"\x00")) },
		"a number less":  func(st *store.Store) { st.Put(key(0, 1, 0), frame(1, 0, good[:120])) },
		"a number more":  func(st *store.Store) { st.Put(key(0, 1, 0), frame(1, 0, good+strings.Repeat("\x00", 8))) },
		"twice":          func(st *store.Store) { st.Put(key(0, 1, 0), frame(1, 0, good+good)) },
		"an odd serial":  func(st *store.Store) { st.Put(key(0, 1, 0), frame(1, 0, wantBytes(older))) },
		"another slot":   func(st *store.Store) { st.Cut(key(0, 1, 0)); st.Put(key(0, 1, 2), frame(1, 2, good)) },
		"another space":  func(st *store.Store) { st.Cut(key(0, 1, 0)); st.Put(key(1, 1, 0), frame(1, 0, good)) },
	} {
		for _, other := range []bool{true, false} {
			st := store.New(10000)
			putManifest(st, newer)
			if other {
				putManifest(st, older)
			}
			if s := opened(t, st); s.Seen() != newer {
				t.Fatalf("Seen = %+v", s.Seen())
			}
			spoil(st)
			s, r := Open(st)
			if other && (r != api.OK || s.Seen() != older) || !other && (s != nil || r != api.ErrSeat) {
				t.Errorf("%s, another slot there %v: %d", name, other, r)
			}
		}
	}
	// whichever slot has the greater serial
	for _, serials := range [][]int{{1, 2}, {2, 3}, {3, 2}, {2, 1 << 55}, {1<<56 - 1, 1 << 56}, {1, 1 << 56}, {1<<56 - 1, 2}, {255, 256}, {1 << 32, 1<<32 - 1}, {9, 10}} {
		st := store.New(10000)
		for _, serial := range serials {
			putManifest(st, api.Manifest{Serial: serial, Opts: loneOpts, Space: 1})
		}
		if s := opened(t, st); s.Seen().Serial != max(serials[0], serials[1]) {
			t.Errorf("of %v: %d", serials, s.Seen().Serial)
		}
	}
	// one with a greater serial than a manifest may have does not count
	st := store.New(10000)
	putManifest(st, api.Manifest{Serial: 1<<56 + 1, Opts: loneOpts, Space: 1})
	putManifest(st, api.Manifest{Serial: 2, Opts: tileOpts, Space: 1})
	if s := opened(t, st); s.Seen().Serial != 2 {
		t.Errorf("Seen = %+v", s.Seen())
	}
}

// TestNoRoomIsWanted_18_4: where both slots are there, a manifest is written in a store that is full to the brim, and in one that is above its room.
func TestNoRoomIsWanted_18_4(t *testing.T) {
	for _, capacity := range []int{360 + 54, 100} {
		st := store.New(10000)
		s := made(t, st, loneOpts)
		ok(t, s.Append([]string{"ab"}), s.Sync())
		st, _ = store.Open(st.Image(), capacity)
		s = opened(t, st)
		serial := 2
		for range 3 {
			ok(t, s.Plan(shardOpts))
			if s.Seen().Serial != serial+1 || !s.Seen().Moving {
				t.Fatalf("Seen = %+v", s.Seen())
			}
			ok(t, s.Cancel(), s.Plan(tileOpts))
			if r := s.Feed(1); r != api.ErrFull || s.Seen().Moving {
				t.Fatalf("Feed = %d, Seen %+v", r, s.Seen())
			}
			serial += 4
			if s.Seen().Serial != serial || st.Used() != 360+54 {
				t.Fatalf("Seen = %+v, Used %d", s.Seen(), st.Used())
			}
			same(t, s, []string{"ab"})
		}
	}
	st := store.New(360)
	s := made(t, st, loneOpts)
	ok(t, s.Plan(shardOpts), s.Feed(5), s.Flip(), s.Plan(tileOpts), s.Cancel())
	if s.Seen() != (api.Manifest{Serial: 6, Opts: shardOpts, Space: 2, Target: 3}) || st.Used() != 360 {
		t.Errorf("Seen = %+v", s.Seen())
	}
}

// TestMakeRefusalsInOrder_18_6: whichever apply together, the first one counts, and nothing is written.
func TestMakeRefusalsInOrder_18_6(t *testing.T) {
	for _, o := range append(allOpts, api.Opts{Engine: 2, Width: 32, Bundle: 0, Height: 2}) {
		for _, down := range []bool{false, true} {
			for _, k := range []string{"", "x", "B", "C", "\x00", key(0, 1, 0), key(0, 1, 1), key(1<<40, 1, 0), key(1<<41, 7, 5)} {
				for _, room := range []int{0, 179, 180, 359, 360, 361, 100000} {
					full := store.New(1000)
					if k != "" {
						full.Put(k, "")
					}
					full.Sync()
					st, _ := store.Open(full.Image(), room)
					if down {
						st.Arm(1)
						st.Sync()
					}
					_, goes := plainOpts(o)
					want := api.OK
					switch {
					case !goes:
						want = api.ErrOpts
					case down:
						want = api.ErrDown
					case k != "":
						want = api.ErrSeat
					case room < 360:
						want = api.ErrFull
					}
					was := all(st)
					s, r := Make(st, o)
					if r != want || (s != nil) != (r == api.OK) || r != api.OK && all(st) != was {
						t.Fatalf("Make(%v), power off %v, a record %q, room for %d: %d, want %d", o, down, k, room, r, want)
					}
				}
			}
		}
	}
	if s, r := Make(nil, loneOpts); s != nil || r != api.ErrDown {
		t.Errorf("Make without a store = %d", r)
	}
	if s, r := Open(nil); s != nil || r != api.ErrDown {
		t.Errorf("Open without a store = %d", r)
	}
	// a record that is pending is there; one whose Cut is pending is not
	st := store.New(1000)
	st.Put("x", "")
	if _, r := Make(st, loneOpts); r != api.ErrSeat {
		t.Errorf("a record is pending: Make = %d", r)
	}
	st.Sync()
	st.Cut("x")
	same(t, made(t, st, loneOpts), nil)
	if st.Pending() != 0 {
		t.Errorf("pending %d", st.Pending())
	}
}

// TestMakeInOrder_18_6: the power goes at each of the two Puts and at the Sync.
func TestMakeInOrder_18_6(t *testing.T) {
	for _, o := range allOpts {
		for n := 1; n <= 4; n++ {
			st := store.New(1000)
			st.Arm(n)
			s, r := Make(st, o)
			if n == 4 {
				if r != api.OK || st.Pending() != 0 || st.Down() {
					t.Fatalf("Make = %d, pending %d", r, st.Pending())
				}
				continue
			}
			if s != nil || r != api.ErrDown || st.Image() != "S" {
				t.Fatalf("the power goes at %d: Make = %d", n, r)
			}
			st.Crash("1")
			want := []string{key(0, 1, 1)}
			if n > 1 {
				want = []string{key(0, 1, 0), key(0, 1, 1)}
			}
			if !slices.Equal(st.Keys(""), want) {
				t.Fatalf("the power goes at %d: %q", n, st.Keys(""))
			}
			s = opened(t, st)
			if s.Seen() != (api.Manifest{Serial: min(n, 2), Opts: o, Space: 1}) {
				t.Fatalf("the power goes at %d: Seen %+v", n, s.Seen())
			}
			same(t, s, nil)
		}
	}
}

// asks are all calls that answer an Errno, with inputs that go and such as are refused.
func asks(s *Seat) map[string]answer {
	return map[string]answer{
		"Append":       got("", s.Append([]string{"new"})),
		"Append none":  got("", s.Append(nil)),
		"Append big":   got("", s.Append([]string{strings.Repeat("x", 4097)})),
		"Leaf(0)":      got(s.Leaf(0)),
		"Leaf(-1)":     got(s.Leaf(-1)),
		"Node({0, 0})": got(s.Node(api.Addr{})),
		"Node({-1,0})": got(s.Node(api.Addr{Level: -1})),
		"Root(0)":      got(s.Root(0)),
		"Root(-1)":     got(s.Root(-1)),
		"Sync":         got("", s.Sync()),
		"Plan lone":    got("", s.Plan(loneOpts)),
		"Plan tiled":   got("", s.Plan(tileOpts)),
		"Plan nothing": got("", s.Plan(api.Opts{})),
		"Feed(-1)":     got("", s.Feed(-1)),
		"Feed(9)":      got("", s.Feed(9)),
		"Flip":         got("", s.Flip()),
		"Cancel":       got("", s.Cancel()),
	}
}

// givenUp looks whether a seat is given up, and tells what it told.
func givenUp(t *testing.T, st *store.Store, s *Seat, want told) {
	t.Helper()
	quiet(t, st, func() {
		for call, a := range asks(s) {
			if a != (answer{"", api.ErrDown}) {
				t.Errorf("given up, and %s = %v", call, a)
			}
		}
	})
	if tells(s) != want {
		t.Errorf("given up, told is %+v, want %+v", tells(s), want)
	}
}

// scripts are calls in which all that a seat can do is done, from each engine to each.
func scripts(from, to api.Opts) [][]step {
	other := api.Opts{Engine: from.Engine, Width: from.Width, Bundle: 3, Height: 1, Cache: 0, Bits: 2}
	if from.Engine == 1 {
		other = shardOpts
	}
	return [][]step{
		{doAppend("a", "b", "c"), doPlan(to), doFeed(2), doAppend("d", "e"), doSync(), doFeed(9), doRoot(5), doFlip(), doAppend("f"), doRoot(3), doSync(), doAppend("g", "h")},
		{doAppend("a", "b", "c", "d", "e"), doSync(), doAppend("f"), doPlan(to), doFeed(4), doFeed(1), doCancel(), doAppend("g"), doPlan(to), doFeed(99), doAppend("h"), doFlip(), doFeed(1), doFlip(), doNode(1, 1)},
		{doPlan(to), doFlip(), doAppend("a", "b", "c", "d", "e", "f", "g", "h", "i"), doRoot(9), doPlan(from), doFeed(3), doCancel(), doPlan(from), doFeed(9), doFlip(), doSync(), doPlan(other), doFeed(1)},
	}
}

// movesOf calls a test with each engine and each other one.
func movesOf(test func(from, to api.Opts)) {
	for _, from := range allOpts {
		for _, to := range allOpts {
			if from != to {
				test(from, to)
			}
		}
	}
}

// TestInOrder_18_4_to_18_14: every call writes what the chapter says, in its order: the power goes at each write and Sync, and what is told, what is durable and what is pending is what it is by the chapter's words.
func TestInOrder_18_4_to_18_14(t *testing.T) {
	movesOf(func(from, to api.Opts) {
		for _, script := range scripts(from, to) {
			for at := 0; ; at++ {
				b := pairOf(t, 100000, from)
				b.stores(func(st *store.Store) { st.Arm(at) })
				for _, x := range script {
					if b.do(x) == api.ErrDown {
						break
					}
				}
				if at > 0 && !b.st.Down() {
					break
				}
				want := b.p.tells()
				b.stores(func(st *store.Store) { st.Crash("1") })
				givenUp(t, b.st, b.s, want)
				if b.open() != api.OK {
					t.Fatalf("power at %d: no seat", at)
				}
				for _, x := range script {
					b.do(x)
				}
			}
		}
	})
}

// TestGivenUp_18_5: in whichever way the power goes, asked before or not, moving or not. What is told then is what a twin tells to which the same was done, but for the power.
func TestGivenUp_18_5(t *testing.T) {
	ways := map[string]func(st *store.Store, s *Seat){
		"a cut with the power on": func(st *store.Store, s *Seat) { st.Crash("1") },
		"two cuts":                func(st *store.Store, s *Seat) { st.Crash("1"); st.Crash("") },
		"another's Sync":          func(st *store.Store, s *Seat) { st.Arm(1); st.Sync() },
		"another's write":         func(st *store.Store, s *Seat) { st.Arm(1); st.Put("other", "") },
		"then a cut":              func(st *store.Store, s *Seat) { st.Arm(1); st.Sync(); st.Crash("1") },
		"an Append":               func(st *store.Store, s *Seat) { st.Arm(1); s.Append([]string{"x", "y"}) },
		"a Plan's Put":            func(st *store.Store, s *Seat) { st.Arm(1); s.Plan(shardOpts) },
		"a Plan's Sync":           func(st *store.Store, s *Seat) { st.Arm(2); s.Plan(shardOpts) },
		"a Plan's Make":           func(st *store.Store, s *Seat) { st.Put(key(2, 9, 9), "x"); st.Arm(3); s.Plan(shardOpts) },
		"a Feed":                  func(st *store.Store, s *Seat) { st.Arm(1); s.Feed(1) },
		"a Feed's last write":     func(st *store.Store, s *Seat) { st.Arm(2); s.Feed(9) },
		"a Cancel's Put":          func(st *store.Store, s *Seat) { st.Arm(1); s.Cancel() },
		"a Cancel's Sync":         func(st *store.Store, s *Seat) { st.Arm(2); s.Cancel() },
		"a Cancel's Wipe":         func(st *store.Store, s *Seat) { st.Arm(3); s.Cancel() },
		"a query, then a cut":     func(st *store.Store, s *Seat) { st.Arm(1); st.Sync(); s.Root(1); st.Crash("1") },
	}
	movesOf(func(from, to api.Opts) {
		for way, goes := range ways {
			for _, moving := range []bool{false, true} {
				for _, asked := range []bool{false, true} {
					ahead := func() (*store.Store, *Seat) {
						st := store.New(100000)
						s := made(t, st, from)
						ok(t, s.Append(numbered(0, 5)))
						if moving {
							ok(t, s.Plan(to), s.Feed(3))
						}
						if asked {
							s.Root(4)
							tells(s)
						}
						return st, s
					}
					_, twin := ahead()
					want := tells(twin)
					st, s := ahead()
					goes(st, s)
					if !st.Down() && st.Age() == 0 {
						continue // the call is refused otherwise, or writes less
					}
					t.Run(fmt.Sprint(way, from.Engine, to.Engine, moving, asked), func(t *testing.T) {
						givenUp(t, st, s, want)
						st.Crash("1")
						givenUp(t, st, s, want)
						again := opened(t, st)
						givenUp(t, st, s, want)
						ok(t, again.Append([]string{"w"}), again.Sync())
						givenUp(t, st, s, want)
					})
				}
			}
		}
	})
}

// TestCountsOfACutSync_18_5: the Flush of a Sync that answered OK is counted, one that was cut is not, and that of a Flip's target is not the list's.
func TestCountsOfACutSync_18_5(t *testing.T) {
	o := api.Opts{Engine: 3, Width: 32, Bits: 2}
	// of seven leaves two shards, of four and of three: rehashed by 3 and 1 node hashes, the second one's root by 1; two Puts and a Sync
	for n, want := range []struct {
		r     api.Errno
		nodes int
	}{{api.OK, 5}, {api.ErrDown, 0}, {api.ErrDown, 0}, {api.ErrDown, 5}, {api.OK, 5}} {
		st := store.New(10000)
		s := made(t, st, o)
		ok(t, s.Append(numbered(0, 7)))
		st.Arm(n)
		if r := s.Sync(); r != want.r || s.Counts().Nodes != want.nodes {
			t.Errorf("power at %d: Sync = %d, Counts %v, want %v", n, r, s.Counts(), want)
		}
	}
	// of the Flip of three leaves: a Put of the Flush, a Sync, the manifest's Put and Sync, three Cuts
	for n := range 9 {
		st := store.New(10000)
		s := made(t, st, loneOpts)
		ok(t, s.Append(numbered(0, 3)), s.Plan(o), s.Feed(9))
		s.Root(2)
		want := tells(s)
		if want.counts.Nodes != 1 {
			t.Fatalf("Counts = %v", want.counts)
		}
		st.Arm(n)
		r := s.Flip()
		if 1 <= n && n <= 7 {
			if r != api.ErrDown || tells(s) != want {
				t.Errorf("power at %d: Flip = %d, %+v, want %+v", n, r, tells(s), want)
			}
			continue
		}
		want = told{3, 0, api.Manifest{Serial: 4, Opts: o, Space: 2, Target: 2}, api.Counts{Nodes: 2}}
		if r != api.OK || tells(s) != want {
			t.Errorf("Flip = %d, %+v, want %+v", r, tells(s), want)
		}
	}
}

// TestOpenRefusals_18_7: no power comes ahead of no manifest, and nothing is written.
func TestOpenRefusals_18_7(t *testing.T) {
	for _, with := range []bool{false, true} {
		for _, down := range []bool{false, true} {
			st := store.New(10000)
			st.Put(key(5, 1, 0), "stray")
			if with {
				putManifest(st, api.Manifest{Serial: 2, Opts: loneOpts, Space: 1})
			}
			if down {
				st.Arm(1)
				st.Sync()
			}
			want := api.OK
			switch {
			case down:
				want = api.ErrDown
			case !with:
				want = api.ErrSeat
			}
			was := all(st)
			s, r := Open(st)
			if r != want || (s != nil) != (r == api.OK) || r != api.OK && all(st) != was {
				t.Errorf("a manifest %v, power off %v: Open = %d, want %d", with, down, r, want)
			}
		}
	}
}

// strays puts records into spaces that are nobody's, and into others'; it tells the keys that must stay.
func strays(st *store.Store) []string {
	for _, space := range []int{3, 4, 7, 255, 256, 1 << 32, 1<<40 - 1} {
		st.Put(key(space, 1, 0), frame(1, 0, "stray"))
		st.Put(key(space, 200, 5), "rags")
		st.Put(key(space, 1, 0)+"x", "no book key, in a space that has one")
	}
	stay := []string{key(0, 1, 2), key(0, 2, 0), key(0, 255, 9), key(0, 0, 0), key(1<<40, 1, 0), key(1<<41, 1, 0), key(math.MaxInt, 1, 0), key(-1, 1, 0), key(12, 1, 0) + "x", key(13, 0, 0), "B", "x", "\x00"}
	for _, k := range stay {
		st.Put(k, "stays")
	}
	return stay
}

// TestOpenWipes_18_7: the spaces below 2 to the 40 that are not in use are wiped, the spaces rising; the power may go at each Cut.
func TestOpenWipes_18_7(t *testing.T) {
	movesOf(func(from, to api.Opts) {
		for _, moving := range []bool{false, true} {
			fill := func() (*store.Store, []string) {
				st := store.New(100000)
				s := made(t, st, from)
				ok(t, s.Append(numbered(0, 6)), s.Plan(to), s.Feed(4))
				if !moving {
					ok(t, s.Cancel())
					st.Put(key(2, 1, 0), "what a lost Cut brought back")
				}
				stay := strays(st)
				ok(t, st.Sync())
				return st, stay
			}
			st, stay := fill()
			s := opened(t, st)
			found := tells(s)
			same(t, s, numbered(0, 6))
			want := []int{0, 1}
			fed := 0
			if moving {
				want, fed = []int{0, 1, 2}, 4
			}
			for _, k := range stay {
				if data, r := st.Get(k); data != "stays" || r != api.OK {
					t.Fatalf("%q is gone: %d", k, r)
				}
			}
			left := slices.DeleteFunc(st.Keys("B"), func(k string) bool { return slices.Contains(stay, k) })
			for _, k := range left {
				if space := int(k[8]); !slices.Contains(want, space) || k[:8] != "B\x00\x00\x00\x00\x00\x00\x00" {
					t.Fatalf("%q is left", k)
				}
			}
			if s.Fed() != fed || st.Pending() != 0 {
				t.Fatalf("Fed %d, pending %d", s.Fed(), st.Pending())
			}
			cuts := 7 * 3
			if !moving {
				cuts++
			}
			for n := 1; n <= cuts+1; n++ {
				st, _ := fill()
				was := st.Keys("")
				st.Arm(n)
				if s, r := Open(st); s != nil || r != api.ErrDown || st.Pending() != min(n, cuts) {
					t.Fatalf("the power goes at %d: Open = %d, pending %d", n, r, st.Pending())
				}
				st.Crash("1")
				gone := slices.DeleteFunc(was, func(k string) bool { return slices.Contains(st.Keys(""), k) })
				if len(gone) != min(n, cuts) || gone[0] > key(3, 1, 0) {
					t.Fatalf("the power goes at %d: %q are gone", n, gone)
				}
				again := opened(t, st)
				if tells(again) != found {
					t.Fatalf("the power went at %d: %+v, want %+v", n, tells(again), found)
				}
			}
		}
	})
}

// TestOpenInOrder_18_7: the list's space, the target's, those of nobody: the power goes at each write, and what is durable and pending is what it is by the chapter's words.
func TestOpenInOrder_18_7(t *testing.T) {
	movesOf(func(from, to api.Opts) {
		for _, fed := range []string{"beginning", "other"} {
			for at := 0; ; at++ {
				b := pairOf(t, 100000, from)
				b.do(doAppend("a", "b", "c", "d", "e"))
				b.do(doPlan(to))
				b.do(doFeed(3))
				b.stores(func(st *store.Store) {
					for _, space := range []int{1, 2, 3, 9} {
						st.Put(key(space, 1, 70), "rags")
						st.Put(key(space, 6, 0), "rags")
					}
					if fed == "other" {
						target, _ := plainEngine(st, to, 2, true)
						target.Append([]string{"a", "b", "x"})
						st.Put(key(2, 6, 0), "rags")
					}
					st.Sync()
					st.Arm(at)
				})
				r := b.open()
				if at == 0 && (r != api.OK || (b.s.Fed() == 3) != (fed == "beginning")) {
					t.Fatalf("Open = %d, %+v", r, tells(b.s))
				}
				if at > 0 && r == api.OK {
					break
				}
				b.stores(func(st *store.Store) { st.Crash("1") })
				if all(b.st) != all(b.p.st) || b.open() != api.OK {
					t.Fatalf("the power goes at %d: %q, want %q", at, b.st.Keys(""), b.p.st.Keys(""))
				}
			}
		}
	})
}

// TestOpenTarget_18_7: a target stands just if its list is a beginning of the other's, leaf by leaf.
func TestOpenTarget_18_7(t *testing.T) {
	leaves := numbered(0, 9)
	movesOf(func(from, to api.Opts) {
		for name, c := range map[string]struct {
			fed  []string
			want int
		}{
			"nothing":          {nil, 0},
			"one leaf":         {leaves[:1], 1},
			"some leaves":      {leaves[:5], 5},
			"all leaves":       {leaves, 9},
			"a longer list":    {append(numbered(0, 9), "more"), 0},
			"another first":    {[]string{"leaf 1"}, 0},
			"other places":     {[]string{"leaf 0", "leaf 2", "leaf 1"}, 0},
			"another last":     {append(numbered(0, 8), "other"), 0},
			"another within":   {append(append(numbered(0, 4), "other"), numbered(5, 3)...), 0},
			"a beginning of a": {[]string{"leaf "}, 0},
			"all others":       {numbered(20, 9), 0},
			"an empty leaf":    {[]string{""}, 0},
		} {
			st := store.New(100000)
			putManifest(st, api.Manifest{Serial: 5, Opts: from, Space: 7, Moving: true, To: to, Target: 4})
			list, _ := plainEngine(st, from, 7, true)
			target, _ := plainEngine(st, to, 4, true)
			ok(t, list.Append(leaves))
			if c.fed != nil {
				ok(t, target.Append(c.fed), target.Flush())
			}
			st.Sync()
			s := opened(t, st)
			if s.Fed() != c.want || s.Size() != 9 || st.Pending() != 0 {
				t.Fatalf("%s, %d to %d: Fed %d, Size %d", name, from.Engine, to.Engine, s.Fed(), s.Size())
			}
			if stands := len(st.Keys(key(4, 1, 0)[:9])) > 0; stands != (c.want > 0) {
				t.Fatalf("%s, %d to %d: %q stand", name, from.Engine, to.Engine, st.Keys(key(4, 1, 0)[:9]))
			}
			same(t, s, leaves)
			ok(t, s.Feed(99), s.Flip())
			same(t, s, leaves)
			if s.Seen() != (api.Manifest{Serial: 6, Opts: to, Space: 4, Target: 4}) {
				t.Fatalf("Seen = %+v", s.Seen())
			}
			ok(t, s.Plan(from))
			if s.Seen().Target != 5 {
				t.Fatalf("Seen = %+v", s.Seen())
			}
		}
	})
}

// TestOpenTakesOut_18_7: records of the engines' spaces that do not belong go, and a list that is shorter than it was makes a target that was fed longer begin anew.
func TestOpenTakesOut_18_7(t *testing.T) {
	movesOf(func(from, to api.Opts) {
		fill := func() *store.Store {
			st := store.New(100000)
			s := made(t, st, from)
			ok(t, s.Append(numbered(0, 9)), s.Plan(to), s.Feed(6), s.Sync())
			for _, space := range []int{1, 2} {
				st.Put(key(space, 99, 0), "belongs to nothing")
				st.Put(key(space, 1, 500), frame(1, 500, "beyond"))
			}
			first := map[int]string{1: key(1, 1, 3), 2: key(1, 2, 0), 3: key(1, 4, 4)}[from.Engine]
			st.Put(first, "spoilt")
			st.Sync()
			return st
		}
		left := map[int]int{1: 3, 2: 0, 3: 4}[from.Engine]
		st := fill()
		s := opened(t, st)
		same(t, s, numbered(0, left))
		if s.Fed() != 0 || len(st.Keys(key(2, 1, 0)[:9])) != 0 || st.Pending() != 0 {
			t.Fatalf("Fed %d, space 2 has %q", s.Fed(), st.Keys(key(2, 1, 0)[:9]))
		}
		want := tells(s)
		for n := 1; ; n++ {
			for _, keep := range []string{"", "1", "10", "01", "0010111"} {
				st := fill()
				st.Arm(n)
				s, r := Open(st)
				if r == api.OK {
					return
				}
				if s != nil || r != api.ErrDown {
					t.Fatalf("the power goes at %d: Open = %d", n, r)
				}
				st.Crash(keep)
				s = opened(t, st)
				same(t, s, numbered(0, left))
				if s.Seen() != want.seen || s.Fed() > left {
					t.Fatalf("the power went at %d: %+v", n, tells(s))
				}
			}
		}
	})
}

// TestOpenTwice_18_8: a second Open finds the same and writes nothing, whatever was cut before.
func TestOpenTwice_18_8(t *testing.T) {
	movesOf(func(from, to api.Opts) {
		for _, script := range scripts(from, to) {
			for end := range script {
				for _, keep := range []string{"", "1", "01", "10", "110", "0001"} {
					st := store.New(100000)
					s := made(t, st, from)
					for _, x := range script[:end+1] {
						x.seat(s)
					}
					strays(st)
					st.Crash(keep)
					first := opened(t, st)
					quiet(t, st, func() {
						second := opened(t, st)
						if tells(first) != tells(second) || !slices.Equal(seatLeaves(t, first), seatLeaves(t, second)) {
							t.Fatalf("first %+v, second %+v", tells(first), tells(second))
						}
					})
					// one Sync is all that it asks of the store
					st.Arm(2)
					if _, r := Open(st); r != api.OK || st.Pending() != 0 {
						t.Fatalf("a third Open = %d", r)
					}
				}
			}
		}
	})
}

// TestAnswers_18_9_18_15: the list is the same in each engine, before, in the midst of and behind a move; the calls that ask write nothing.
func TestAnswers_18_9_18_15(t *testing.T) {
	for _, width := range []int{1, 7, 32} {
		movesOf(func(from, to api.Opts) {
			from.Width, to.Width = width, width
			st := store.New(1 << 20)
			s := made(t, st, from)
			var leaves []string
			for round := range 30 {
				quiet(t, st, func() { same(t, s, leaves) })
				more := numbered(round, round%4)
				if r := s.Append(more); (r == api.OK) != (len(more) > 0) || len(more) == 0 && r != api.ErrEmpty {
					t.Fatalf("Append of %d = %d", len(more), r)
				}
				leaves = append(leaves, more...)
				switch round % 7 {
				case 1:
					ok(t, s.Plan(to))
				case 2, 3, 4:
					ok(t, s.Feed(round))
				case 5:
					ok(t, s.Feed(1024))
					same(t, s, leaves)
					if round > 15 {
						ok(t, s.Cancel(), s.Sync())
						break
					}
					ok(t, s.Flip())
					from, to = to, from
				}
			}
			if s.Seen().Opts != from {
				t.Errorf("Seen = %+v", s.Seen())
			}
		})
	}
}

// TestAppendRefusals_18_9: those of the engine come through, moving or not, and the list is as it was.
func TestAppendRefusals_18_9(t *testing.T) {
	movesOf(func(from, to api.Opts) {
		st := store.New(3000)
		s := made(t, st, from)
		ok(t, s.Append(numbered(0, 3)))
		for round := range 2 {
			want := tells(s)
			quiet(t, st, func() {
				for _, c := range []struct {
					list []string
					want api.Errno
				}{
					{nil, api.ErrEmpty}, {[]string{}, api.ErrEmpty}, {make([]string, 1025), api.ErrMany}, {append(make([]string, 1024), strings.Repeat("x", 4097)), api.ErrMany},
					{[]string{"a", strings.Repeat("x", 4097)}, api.ErrBig}, {[]string{strings.Repeat("x", 4096)}, api.ErrFull},
				} {
					if r := s.Append(c.list); r != c.want {
						t.Errorf("Append of %d = %d, want %d", len(c.list), r, c.want)
					}
				}
			})
			if tells(s) != want {
				t.Errorf("told is %+v, want %+v", tells(s), want)
			}
			if round == 0 {
				ok(t, s.Plan(to), s.Feed(1))
			}
		}
		same(t, s, numbered(0, 3))
	})
}

// TestSync_18_9: the engine of the list is flushed, then all is durable; a target is not flushed by it.
func TestSync_18_9(t *testing.T) {
	derived := map[int]string{1: "none", 2: "\x03", 3: "\x05"}
	movesOf(func(from, to api.Opts) {
		st := store.New(100000)
		s := made(t, st, from)
		ok(t, s.Append(numbered(0, 9)), s.Plan(to), s.Feed(8), s.Sync())
		if st.Pending() != 0 {
			t.Errorf("pending %d", st.Pending())
		}
		if n := len(st.Keys(key(1, 1, 0)[:9] + derived[from.Engine])); (n > 0) != (from.Engine > 1) {
			t.Errorf("engine %d: %d records were flushed", from.Engine, n)
		}
		if n := len(st.Keys(key(2, 1, 0)[:9] + derived[to.Engine])); n > 0 {
			t.Errorf("the target %d has %d flushed records", to.Engine, n)
		}
		st.Crash("")
		s = opened(t, st)
		same(t, s, numbered(0, 9))
		if s.Fed() != 8 {
			t.Errorf("Fed = %d", s.Fed())
		}
	})
}

// TestPlanRefusalsInOrder_18_10: whichever apply together, the first one counts, and nothing is written or changed.
func TestPlanRefusalsInOrder_18_10(t *testing.T) {
	wrong := []api.Opts{{}, {Engine: 4, Width: 32}, {Engine: 1, Width: 31}, {Engine: 1, Width: 0}, {Engine: 2, Width: 31, Bundle: 4, Height: 2, Cache: 3}, {Engine: 3, Width: 32, Bits: 11}, {Engine: 3, Width: 33, Bits: 1}}
	same := []api.Opts{tileOpts, {Engine: 2, Width: 32, Bundle: 4, Height: 2, Cache: 3, Bits: 99}}
	right := []api.Opts{loneOpts, shardOpts, {Engine: 2, Width: 32, Bundle: 4, Height: 2, Cache: 4}, {Engine: 2, Width: 32, Bundle: 4, Height: 1, Cache: 3}, {Engine: 2, Width: 32, Bundle: 5, Height: 2, Cache: 3}, {Engine: 1, Width: 32, Bundle: -1, Height: 99, Cache: -5, Bits: 11}}
	for _, to := range slices.Concat(wrong, same, right) {
		for _, down := range []bool{false, true} {
			for _, moving := range []bool{false, true} {
				for _, serial := range []int{2, 3, 1<<55 - 1, 1 << 55, 1<<55 + 1, 1 << 56} {
					for _, spaces := range [][2]int{{1, 0}, {1, 2}, {5, 3}, {1<<40 - 1, 0}, {1<<40 - 1, 5}, {5, 1<<40 - 1}, {1<<40 - 2, 7}, {7, 1<<40 - 2}} {
						for _, room := range []int{179, 180, 359, 360} {
							m := api.Manifest{Serial: serial, Opts: tileOpts, Space: spaces[0], Target: spaces[1]}
							if moving {
								m.Moving, m.To, m.Target = true, shardOpts, max(spaces[1], 1)
								if m.Target == m.Space {
									m.Target++
								}
							}
							st := store.New(1000)
							putManifest(st, m)
							st.Sync()
							st, _ = store.Open(st.Image(), room)
							s := opened(t, st)
							if down {
								st.Arm(1)
								st.Sync()
							}
							want := api.OK
							switch {
							case down:
								want = api.ErrDown
							case moving:
								want = api.ErrBusy
							case slices.Contains(wrong, to):
								want = api.ErrOpts
							case slices.Contains(same, to):
								want = api.ErrSame
							case max(spaces[0], spaces[1]) == 1<<40-1, serial > 1<<55:
								want = api.ErrRange
							case room < 360: // the other slot is not there
								want = api.ErrFull
							}
							was, before := all(st), tells(s)
							r := s.Plan(to)
							if r != want {
								t.Fatalf("%+v, power off %v, room %d: Plan(%v) = %d, want %d", m, down, room, to, r, want)
							}
							if r != api.OK && (all(st) != was || tells(s) != before) {
								t.Fatalf("Plan = %d, and all is not as it was", r)
							}
							kept, _ := plainOpts(to)
							m = api.Manifest{Serial: serial + 1, Opts: tileOpts, Space: spaces[0], Moving: true, To: kept, Target: max(spaces[0], spaces[1]) + 1}
							if r == api.OK && (s.Seen() != m || s.Fed() != 0 || st.Pending() != 0) {
								t.Fatalf("Seen = %+v, want %+v", s.Seen(), m)
							}
						}
					}
				}
			}
		}
	}
}

// TestPlan_18_10: all leaves are durable behind it, and what stands in the target's space is taken out.
func TestPlan_18_10(t *testing.T) {
	movesOf(func(from, to api.Opts) {
		st := store.New(100000)
		s := made(t, st, from)
		ok(t, s.Append(numbered(0, 7)))
		for kind := 1; kind < 6; kind++ {
			st.Put(key(2, kind, 0), "left behind")
		}
		ok(t, s.Plan(to))
		if st.Pending() != 5 || len(st.Keys(key(2, 1, 0)[:9])) != 0 || s.Fed() != 0 {
			t.Errorf("pending %d, space 2 has %q", st.Pending(), st.Keys(key(2, 1, 0)[:9]))
		}
		if c := s.Counts(); from.Engine != 2 && c != (api.Counts{}) {
			t.Errorf("Counts = %v", c)
		}
		st.Crash("")
		s = opened(t, st)
		same(t, s, numbered(0, 7))
		if s.Seen() != (api.Manifest{Serial: 3, Opts: from, Space: 1, Moving: true, To: to, Target: 2}) {
			t.Errorf("Seen = %+v", s.Seen())
		}
	})
}

// TestFeed_18_11_18_12: the least of what is wanted, of a batch, and of what is left; one Append of the target; the list is not touched.
func TestFeed_18_11_18_12(t *testing.T) {
	movesOf(func(from, to api.Opts) {
		st := store.New(1 << 20)
		s := made(t, st, from)
		leaves := numbered(0, 2100)
		for list := range slices.Chunk(leaves, 700) {
			ok(t, s.Append(list))
		}
		quiet(t, st, func() {
			for _, most := range []int{math.MinInt, -1, 0, 1, math.MaxInt} {
				if r := s.Feed(most); r != api.ErrIdle || s.Fed() != 0 {
					t.Fatalf("Feed(%d) without a move = %d, Fed %d", most, r, s.Fed())
				}
			}
		})
		ok(t, s.Plan(to))
		fed := 0
		target := store.New(1 << 20)
		twin, _ := plainEngine(target, to, 2, true)
		for _, most := range []int{0, -1, math.MinInt, 1, 2, 0, 3, 1024, 1025, math.MaxInt, 1, math.MaxInt, -7} {
			counts := s.Counts()
			k := max(0, min(most, 1024, 2100-fed))
			if k == 0 {
				quiet(t, st, func() { ok(t, s.Feed(most)) })
			} else {
				ok(t, s.Feed(most), twin.Append(leaves[fed:fed+k]))
			}
			fed += k
			if s.Fed() != fed || s.Size() != 2100 || s.Counts() != counts || s.Seen().Serial != 3 {
				t.Fatalf("Feed(%d): %+v, want Fed %d", most, tells(s), fed)
			}
			for _, k := range target.Keys("") {
				data, _ := st.Get(k)
				if want, _ := target.Get(k); data != want {
					t.Fatalf("Feed(%d): record %q is %.60q, want %.60q", most, k, data, want)
				}
			}
			if len(st.Keys(key(2, 1, 0)[:9])) != len(target.Keys("")) {
				t.Fatalf("Feed(%d): %d records", most, len(st.Keys(key(2, 1, 0)[:9])))
			}
		}
		if fed != 2100 {
			t.Fatalf("Fed = %d", fed)
		}
		ok(t, s.Append([]string{"one more"}))
		if r := s.Flip(); r != api.ErrSize || s.Fed() != 2100 {
			t.Fatalf("Flip = %d", r)
		}
		ok(t, s.Feed(5), s.Flip())
		if s.Fed() != 0 || s.Size() != 2101 {
			t.Fatalf("behind Flip: %+v", tells(s))
		}
	})
}

// TestFeedRefused_18_12: a leaf that can be read no more is the refusal, and nothing is fed.
func TestFeedRefused_18_12(t *testing.T) {
	for name, c := range map[string]struct {
		spoil func(st *store.Store)
		want  api.Errno
	}{
		"cut":    {func(st *store.Store) { st.Cut(key(1, 2, 1)) }, api.ErrNone},
		"spoilt": {func(st *store.Store) { st.Put(key(1, 2, 1), "x") }, api.ErrSpoilt},
	} {
		st := store.New(10000)
		s := made(t, st, tileOpts)
		ok(t, s.Append(numbered(0, 9)), s.Plan(loneOpts), s.Feed(2))
		c.spoil(st)
		want := tells(s)
		quiet(t, st, func() {
			if r := s.Feed(3); r != c.want {
				t.Errorf("%s: Feed = %d, want %d", name, r, c.want)
			}
		})
		if tells(s) != want {
			t.Errorf("%s: told is %+v, want %+v", name, tells(s), want)
		}
		ok(t, s.Feed(2))
		if s.Fed() != 4 {
			t.Errorf("%s: Fed = %d", name, s.Fed())
		}
	}
}

// tight is a seat whose store has just so much room beyond what it uses when its move is planned.
func tight(t *testing.T, from, to api.Opts, leaves []string, room int) (*store.Store, *Seat) {
	t.Helper()
	st := store.New(1 << 20)
	s := made(t, st, from)
	ok(t, s.Append(leaves), s.Plan(to))
	st, r := store.Open(st.Image(), st.Used()+room)
	ok(t, r)
	return st, opened(t, st)
}

// TestNoRoom_18_12_18_15: a Feed that finds no room takes out what was fed and ends the move; the list is as it was, in the engine in which it was. The power may go at each write of it.
func TestNoRoom_18_12_18_15(t *testing.T) {
	leaves := numbered(0, 12)
	movesOf(func(from, to api.Opts) {
		for _, room := range []int{0, 60, 150, 200, 230} {
			st, s := tight(t, from, to, leaves, room)
			used, seen := st.Used(), s.Seen()
			fed := 0
			r := s.Feed(1)
			for ; r == api.OK && fed < 12; r = s.Feed(1) {
				fed++
			}
			if fed == 12 {
				t.Fatalf("room %d is enough for %d", room, to.Engine)
			}
			want := api.Manifest{Serial: seen.Serial + 1, Opts: from, Space: 1, Target: 2}
			if r != api.ErrFull || s.Seen() != want || s.Fed() != 0 || st.Used() != used || st.Pending() != 0 {
				t.Fatalf("%d to %d, room %d: Feed = %d, %+v, Used %d, was %d, pending %d", from.Engine, to.Engine, room, r, tells(s), st.Used(), used, st.Pending())
			}
			same(t, s, leaves)
			if r := s.Feed(1); r != api.ErrIdle {
				t.Fatalf("Feed once more = %d", r)
			}
			ok(t, s.Plan(to))
			if s.Seen().Target != 3 || s.Seen().Serial != seen.Serial+2 {
				t.Fatalf("Seen = %+v", s.Seen())
			}
			for n := 1; ; n++ {
				st, s := tight(t, from, to, leaves, room)
				for range fed {
					ok(t, s.Feed(1))
				}
				before := tells(s)
				st.Arm(n)
				if r := s.Feed(1); r == api.ErrFull {
					break
				} else if r != api.ErrDown || tells(s) != before {
					t.Fatalf("the power goes at %d: Feed = %d, %+v, want %+v", n, r, tells(s), before)
				}
				keep := []string{"1", "", "10", "01"}[n%4]
				st.Crash(keep)
				givenUp(t, st, s, before)
				s = opened(t, st)
				same(t, s, leaves)
				if s.Seen() != want && s.Seen() != before.seen || s.Fed() > fed {
					t.Fatalf("the power went at %d, kept %q: %+v", n, keep, tells(s))
				}
			}
		}
	})
}

// TestNoRoomOfABatch_18_12: it is the whole batch that is fed or not.
func TestNoRoomOfABatch_18_12(t *testing.T) {
	leaves := numbered(0, 4)
	need := 4 * (52 + len(leaves[0]))
	for _, room := range []int{need - 1, need} {
		st, s := tight(t, tileOpts, loneOpts, leaves, room)
		r := s.Feed(4)
		if room == need && (r != api.OK || s.Fed() != 4) || room < need && (r != api.ErrFull || s.Fed() != 0 || s.Seen().Moving) {
			t.Errorf("room %d: Feed = %d, %+v", room, r, tells(s))
		}
		if room < need {
			same(t, s, leaves)
			continue
		}
		ok(t, s.Flip())
		same(t, s, leaves)
		if st.Used() != 360+need {
			t.Errorf("Used = %d", st.Used())
		}
	}
}

// oneSlot is a seat that was opened with one manifest alone, moving, fed so many leaves of five, in a store that has just so much room beyond.
func oneSlot(t *testing.T, from, to api.Opts, fed, room int) (*store.Store, *Seat) {
	t.Helper()
	st := store.New(1 << 20)
	s := made(t, st, from)
	ok(t, s.Append(numbered(0, 5)), s.Plan(to))
	if fed > 0 {
		ok(t, s.Feed(fed))
	}
	st.Cut(key(0, 1, 0))
	st.Sync()
	st, r := store.Open(st.Image(), st.Used()+room)
	ok(t, r)
	return st, opened(t, st)
}

// TestOneSlot_18_10: Plan needs room for the slot that was lost, or for what it lacks.
func TestOneSlot_18_10(t *testing.T) {
	for _, left := range []string{"", "rags", strings.Repeat("r", 145), strings.Repeat("r", 146), strings.Repeat("r", 300)} {
		for slack := -1; slack <= 0; slack++ {
			st := store.New(10000)
			s := made(t, st, loneOpts)
			ok(t, s.Append([]string{"a"}), s.Sync())
			st.Cut(key(0, 1, 1)) // the older one
			missing := 180
			if left != "" {
				st.Put(key(0, 1, 1), left)
				missing = 146 - len(left)
			}
			st.Sync()
			st, _ = store.Open(st.Image(), st.Used()+max(missing, 0)+slack)
			s = opened(t, st)
			before, was := tells(s), all(st)
			r := s.Plan(shardOpts)
			if slack < 0 && missing > 0 {
				if r != api.ErrFull || tells(s) != before || all(st) != was {
					t.Errorf("%d bytes missing: Plan = %d, %+v", missing, r, tells(s))
				}
				same(t, s, []string{"a"})
				continue
			}
			if r != api.OK || s.Seen().Serial != 3 || !s.Seen().Moving {
				t.Errorf("%d bytes missing, %d too few: Plan = %d, %+v", missing, -slack, r, tells(s))
			}
			ok(t, s.Cancel())
		}
	}
}

// TestOneSlot_18_12: the records of the target go first; if there is room for the manifest then, the move is ended; else it stays, and the target tells what it told and goes on.
func TestOneSlot_18_12(t *testing.T) {
	movesOf(func(from, to api.Opts) {
		for _, fed := range []int{1, 3, 4} {
			for _, room := range []int{0, 20, 60} {
				st, s := oneSlot(t, from, to, fed, room)
				count := func() int {
					sum := 0
					for _, k := range st.Keys(key(2, 1, 0)[:9]) {
						data, _ := st.Get(k)
						sum += len(k) + len(data) + 16
					}
					return sum
				}
				fedBytes := count()
				before := tells(s)
				r := s.Feed(1)
				if r == api.OK {
					continue // a bundle or a part that grows by a leaf wants little
				}
				if r != api.ErrFull || count() != 0 {
					t.Fatalf("%d to %d, fed %d, room %d: Feed = %d, %d bytes left", from.Engine, to.Engine, fed, room, r, count())
				}
				if fedBytes+room >= 180 {
					if s.Seen() != (api.Manifest{Serial: 4, Opts: from, Space: 1, Target: 2}) || s.Fed() != 0 || st.Pending() != 0 {
						t.Fatalf("%d to %d, fed %d, room %d: %+v", from.Engine, to.Engine, fed, room, tells(s))
					}
					same(t, s, numbered(0, 5))
					continue
				}
				if tells(s) != before || s.Fed() != fed || st.Pending() == 0 {
					t.Fatalf("%d to %d, fed %d, room %d: %+v, were %+v", from.Engine, to.Engine, fed, room, tells(s), before)
				}
				same(t, s, numbered(0, 5))
				goesOn(t, st, s, fed)
			}
		}
	})
}

// goesOn looks whether a target whose records are gone is fed from where it stood, as long as there is room.
func goesOn(t *testing.T, st *store.Store, s *Seat, fed int) {
	t.Helper()
	from, to := s.Seen().Opts, s.Seen().To
	r := s.Feed(1)
	if r == api.ErrFull {
		if s.Fed() != fed || !s.Seen().Moving {
			t.Fatalf("%d to %d: Feed = %d once more, %+v", from.Engine, to.Engine, r, tells(s))
		}
		return
	}
	if r != api.OK || s.Fed() != fed+1 {
		t.Fatalf("%d to %d: Feed = %d behind one that found no room, Fed %d", from.Engine, to.Engine, r, s.Fed())
	}
	same(t, s, numbered(0, 5))
	st.Crash("1")
	s = opened(t, st)
	same(t, s, numbered(0, 5))
}

// TestOneSlot_18_13_18_14: Flip and Cancel need room for the slot that was lost: ErrFull, and the move is as it was.
func TestOneSlot_18_13_18_14(t *testing.T) {
	movesOf(func(from, to api.Opts) {
		for _, room := range []int{179, 180} {
			want := api.OK
			if room < 180 {
				want = api.ErrFull
			}
			st, s := oneSlot(t, from, to, 3, room)
			before, was := tells(s), all(st)
			if r := s.Cancel(); r != want || r != api.OK && (tells(s) != before || all(st) != was) {
				t.Fatalf("room %d: Cancel = %d, %+v", room, r, tells(s))
			}
			same(t, s, numbered(0, 5))
			if want == api.OK && (s.Seen() != (api.Manifest{Serial: 4, Opts: from, Space: 1, Target: 2}) || s.Fed() != 0) {
				t.Fatalf("behind Cancel: %+v", tells(s))
			}
			st, s = oneSlot(t, from, to, 5, room)
			before = tells(s)
			r := s.Flip()
			if room < 180 && (r != api.ErrFull || tells(s) != before || st.Pending() != 0) {
				t.Fatalf("room %d: Flip = %d, %+v", room, r, tells(s))
			}
			same(t, s, numbered(0, 5))
			// what a target's Flush writes takes of the room: then there may be none for the manifest
			if r == api.OK && s.Seen() != (api.Manifest{Serial: 4, Opts: to, Space: 2, Target: 2}) || r != api.OK && r != api.ErrFull {
				t.Fatalf("room %d: Flip = %d, %+v", room, r, tells(s))
			}
		}
	})
}

// TestFlip_18_13: all is durable in the target ahead of the manifest; the old space is wiped, which is pending.
func TestFlip_18_13(t *testing.T) {
	movesOf(func(from, to api.Opts) {
		st := store.New(100000)
		s := made(t, st, from)
		ok(t, s.Append(numbered(0, 9)), s.Plan(to))
		quiet(t, st, func() {
			if r := s.Flip(); r != api.ErrSize {
				t.Errorf("Flip of nothing fed = %d", r)
			}
		})
		ok(t, s.Feed(8))
		quiet(t, st, func() {
			if r := s.Flip(); r != api.ErrSize {
				t.Errorf("Flip of all but one = %d", r)
			}
		})
		ok(t, s.Feed(8))
		old := len(st.Keys(key(1, 1, 0)[:9]))
		ok(t, s.Flip())
		want := api.Manifest{Serial: 4, Opts: to, Space: 2, Target: 2}
		if s.Seen() != want || st.Pending() != old || len(st.Keys(key(1, 1, 0)[:9])) != 0 || s.Fed() != 0 {
			t.Errorf("%+v, pending %d of %d", tells(s), st.Pending(), old)
		}
		for _, r := range []api.Errno{s.Flip(), s.Feed(1), s.Cancel()} {
			if r != api.ErrIdle {
				t.Errorf("behind Flip: %d", r)
			}
		}
		same(t, s, numbered(0, 9))
		st.Crash("") // the old records are back
		if len(st.Keys(key(1, 1, 0)[:9])) != old {
			t.Errorf("%q", st.Keys(key(1, 1, 0)[:9]))
		}
		s = opened(t, st)
		if s.Seen() != want || len(st.Keys(key(1, 1, 0)[:9])) != 0 || st.Pending() != 0 {
			t.Errorf("opened: %+v", tells(s))
		}
		same(t, s, numbered(0, 9))
	})
}

// TestCancel_18_14: the manifest is durable ahead of the Cuts, which are pending.
func TestCancel_18_14(t *testing.T) {
	movesOf(func(from, to api.Opts) {
		for _, fed := range []int{0, 4, 9} {
			st := store.New(100000)
			s := made(t, st, from)
			ok(t, s.Append(numbered(0, 9)), s.Plan(to), s.Feed(fed))
			ok(t, s.Append([]string{"more"}))
			records := len(st.Keys(key(2, 1, 0)[:9]))
			ok(t, s.Cancel())
			want := api.Manifest{Serial: 4, Opts: from, Space: 1, Target: 2}
			if s.Seen() != want || st.Pending() != records || s.Fed() != 0 || len(st.Keys(key(2, 1, 0)[:9])) != 0 {
				t.Errorf("%+v, pending %d of %d", tells(s), st.Pending(), records)
			}
			for _, r := range []api.Errno{s.Flip(), s.Feed(1), s.Cancel()} {
				if r != api.ErrIdle {
					t.Errorf("behind Cancel: %d", r)
				}
			}
			st.Crash("")
			s = opened(t, st)
			if s.Seen() != want || len(st.Keys(key(2, 1, 0)[:9])) != 0 {
				t.Errorf("opened: %+v", tells(s))
			}
			same(t, s, append(numbered(0, 9), "more"))
		}
	})
}

// TestByChance_18_15: scripts of calls, refused ones among them, in stores that are full now and then, against the chapter's words; cut and opened anew, in some of them with a slot lost.
func TestByChance_18_15(t *testing.T) {
	t.Parallel()
	for seed := range int64(200) {
		r := rand.New(rand.NewSource(seed))
		loses := seed%4 == 3
		first := chanceOpts(r, 1+r.Intn(32))
		b := pairOf(t, []int{100000, 1500, 3000, 6000, 1000}[seed%5], first)
		for range 120 {
			if r.Intn(15) == 0 {
				at := r.Intn(9)
				b.stores(func(st *store.Store) { st.Arm(at) })
			}
			if b.do(chanceStep(r, first.Width, b.s.Size())) != api.ErrDown && r.Intn(40) > 0 {
				continue
			}
			b.chanceCut(r)
			if loses && r.Intn(3) == 0 {
				slot := r.Intn(2)
				b.stores(func(st *store.Store) { loseSlot(st, slot) })
			}
			if r.Intn(3) == 0 {
				at := 1 + r.Intn(6)
				b.stores(func(st *store.Store) { st.Arm(at) })
			}
			if b.open() == api.ErrDown {
				b.chanceCut(r)
				b.open()
			}
		}
		b.stores(func(st *store.Store) { st.Arm(0) })
		if !loses && b.open() == api.OK {
			same(t, b.s, seatLeaves(t, b.s))
		}
	}
}

func chanceOpts(r *rand.Rand, width int) api.Opts {
	return api.Opts{Engine: 1 + r.Intn(3), Width: width, Bundle: 1 + r.Intn(9), Height: 1 + r.Intn(4), Cache: r.Intn(5), Bits: r.Intn(4)}
}

func chanceStep(r *rand.Rand, width, size int) step {
	switch r.Intn(11) {
	case 0, 1, 2:
		var list []string
		for range r.Intn(7) {
			list = append(list, strings.Repeat(string(rune('a'+r.Intn(26))), r.Intn(40)))
		}
		return doAppend(list...)
	case 3:
		return doSync()
	case 4:
		if r.Intn(12) == 0 {
			width = r.Intn(34)
		}
		return doPlan(chanceOpts(r, width))
	case 5:
		return doFeed(r.Intn(12) - 1)
	case 6:
		return doFeed(1024)
	case 7, 8:
		return doFlip()
	case 9:
		if r.Intn(3) == 0 {
			return doCancel()
		}
		return doRoot(r.Intn(size + 2))
	}
	return doNode(r.Intn(4), r.Intn(9))
}

// chanceCut cuts the power of both stores, and keeps some writes.
func (b *pair) chanceCut(r *rand.Rand) {
	keep := make([]byte, r.Intn(12))
	r.Read(keep)
	b.stores(func(st *store.Store) { st.Crash(string(keep)) })
}

// loseSlot takes a slot out, unless it is the last one.
func loseSlot(st *store.Store, slot int) {
	if _, r := st.Get(key(0, 1, 1-slot)); r == api.OK {
		st.Cut(key(0, 1, slot))
		st.Sync()
	}
}

// history is what is known of a script that the power ends.
type history struct {
	durable, accepted, perhaps []string
	opts                       []api.Opts // the engines that may have the list then
}

// played plays a script up to its end, or to where the power goes. What is durable grows when the store's image does: by a Sync, wherever it is done.
func played(st *store.Store, s *Seat, script []step, lists map[string][]string) history {
	var h history
	for _, x := range script {
		list := lists[x.name]
		image, before, seen := st.Image(), slices.Clone(h.accepted), s.Seen()
		idle := st.Pending() == 0
		r := x.seat(s)
		h.opts = []api.Opts{s.Seen().Opts}
		if r == api.OK {
			h.accepted = append(h.accepted, list...)
		}
		if idle || st.Image() != image {
			h.durable = before
		}
		h.perhaps = h.accepted
		if r == api.ErrDown {
			h.perhaps = append(slices.Clone(h.accepted), list...)
			if seen.Moving {
				h.opts = append(h.opts, seen.To)
			}
			return h
		}
	}
	return h
}

// keeps are texts that say of so many pending writes which survive: all of them, if they are few.
func keeps(pending int, r *rand.Rand) []string {
	if pending == 0 {
		return []string{""}
	}
	var list []string
	if pending <= 6 {
		for choice := range 1 << pending {
			keep := make([]byte, pending)
			for i := range keep {
				keep[i] = byte(choice >> i & 1)
			}
			list = append(list, string(keep))
		}
		return list
	}
	list = append(list, "", "\x01", "\x00\x01", "\x01\x00")
	for range 20 {
		keep := make([]byte, pending)
		for i := range keep {
			keep[i] = byte(r.Intn(2))
		}
		list = append(list, string(keep))
	}
	return list
}

// recovered looks whether a seat was found behind a cut as 18.16 says, and goes on with it.
func recovered(t *testing.T, st *store.Store, h history, where string) *Seat {
	t.Helper()
	s := opened(t, st)
	found := seatLeaves(t, s)
	if !isBeginning(found, h.durable) || !isBeginning(h.perhaps, found) {
		t.Fatalf("%s: %q stand of %q, durable were %q", where, found, h.perhaps, h.durable)
	}
	if !slices.Contains(h.opts, s.Seen().Opts) {
		t.Fatalf("%s: the engine is %v, of %v", where, s.Seen().Opts, h.opts)
	}
	if !isBeginning(found, found[:s.Fed()]) {
		t.Fatalf("%s: Fed %d of %d", where, s.Fed(), len(found))
	}
	for _, space := range spaces(st) {
		if m := s.Seen(); space != 0 && space != m.Space && !(m.Moving && space == m.Target) {
			t.Fatalf("%s: space %d is left", where, space)
		}
	}
	if st.Pending() != 0 {
		t.Fatalf("%s: pending %d", where, st.Pending())
	}
	quiet(t, st, func() {
		if again := opened(t, st); tells(again) != tells(s) {
			t.Fatalf("%s: opened again it is %+v, was %+v", where, tells(again), tells(s))
		}
	})
	return s
}

// TestRecovery_18_16: the power goes at each write of each script, and all choices of what survives, or many; the seat is found, goes on, and moves to where it was to go.
func TestRecovery_18_16(t *testing.T) {
	t.Parallel()
	r := rand.New(rand.NewSource(1816))
	movesOf(func(from, to api.Opts) {
		for number, script := range scripts(from, to) {
			for at := 1; ; at++ {
				play := func() (*store.Store, *Seat, history) {
					st := store.New(100000)
					s := made(t, st, from)
					st.Arm(at)
					return st, s, played(st, s, script, appends())
				}
				st, _, _ := play()
				if !st.Down() {
					break
				}
				for i, keep := range keeps(st.Pending(), r) {
					where := fmt.Sprintf("%d to %d, script %d, power at %d, kept %q", from.Engine, to.Engine, number, at, keep)
					st, s, h := play()
					before := tells(s)
					st.Crash(keep)
					if i == 0 {
						givenUp(t, st, s, before)
					}
					image := st.Image()
					s = recovered(t, st, h, where)
					if i%8 == 0 {
						cutAgain(t, image, h, where)
					}
					goOn(t, st, s, to)
				}
			}
		}
	})
}

// appends are the leaves of the Appends of all scripts, by the steps' names.
func appends() map[string][]string {
	lists := map[string][]string{}
	for _, list := range [][]string{{"a", "b", "c"}, {"d", "e"}, {"f"}, {"g", "h"}, {"a", "b", "c", "d", "e"}, {"g"}, {"h"}, {"a", "b", "c", "d", "e", "f", "g", "h", "i"}} {
		lists[doAppend(list...).name] = list
	}
	return lists
}

// cutAgain opens what an image holds with the power going at each write of Open, and keeping some of them.
func cutAgain(t *testing.T, image string, h history, where string) {
	t.Helper()
	for at := 1; ; at++ {
		for _, keep := range []string{"", "1", "10", "01"} {
			st, _ := store.Open(image, 100000)
			st.Arm(at)
			s, r := Open(st)
			if r == api.OK {
				return
			}
			if s != nil || r != api.ErrDown {
				t.Fatalf("%s: the power goes at %d of Open: %d", where, at, r)
			}
			st.Crash(keep)
			recovered(t, st, h, where+", and in Open")
		}
	}
}

// goOn appends to a seat that was found, and moves it to where it was to go.
func goOn(t *testing.T, st *store.Store, s *Seat, to api.Opts) {
	t.Helper()
	leaves := append(seatLeaves(t, s), "x", "y")
	target := s.Seen().Target
	ok(t, s.Append([]string{"x", "y"}))
	if s.Seen().Moving {
		to = s.Seen().To
	} else if s.Seen().Opts != to {
		ok(t, s.Plan(to))
		if s.Seen().Target <= target {
			t.Fatalf("space %d was used before", s.Seen().Target)
		}
	}
	if s.Seen().Moving {
		ok(t, s.Feed(1024), s.Flip())
	}
	if s.Seen().Opts != to {
		t.Fatalf("the engine is %v, want %v", s.Seen().Opts, to)
	}
	st.Crash("1")
	ok(t, func() api.Errno { s, _ = Open(st); return s.Sync() }())
	if !slices.Equal(seatLeaves(t, s), leaves) || s.Seen().Opts != to {
		t.Fatalf("%q, want %q", seatLeaves(t, s), leaves)
	}
	if got, want := got(s.Root(len(leaves))), (answer{rootOf(32, len(leaves), levels(32, leaves)), 0}); got != want {
		t.Fatalf("Root = %v, want %v", got, want)
	}
}

// TestLongRecovery_18_16: longer lists and many cuts, one behind the other.
func TestLongRecovery_18_16(t *testing.T) {
	t.Parallel()
	for seed := range int64(60) {
		r := rand.New(rand.NewSource(seed))
		st := store.New(1 << 20)
		first := allOpts[r.Intn(3)]
		s := made(t, st, first)
		used := map[int]api.Opts{1: first}
		var before []string
		for round := range 12 {
			var script []step
			lists := map[string][]string{}
			for i := range 12 {
				switch r.Intn(7) {
				case 0, 1:
					list := numbered(int(seed)*1000+round*100+i*10, 1+r.Intn(9))
					script = append(script, doAppend(list...))
					lists[doAppend(list...).name] = list
				case 2:
					script = append(script, doSync())
				case 3:
					script = append(script, doPlan(allOpts[r.Intn(3)]))
				case 4:
					script = append(script, doFeed(r.Intn(30)))
				case 5:
					script = append(script, doFeed(1024), doFlip())
				case 6:
					if r.Intn(3) == 0 {
						script = append(script, doCancel())
					}
				}
			}
			if r.Intn(4) > 0 {
				st.Arm(1 + r.Intn(60))
			}
			h := played(st, s, script, lists)
			h.durable, h.perhaps = append(slices.Clone(before), h.durable...), append(slices.Clone(before), h.perhaps...)
			if m := s.Seen(); m.Moving {
				h.opts = append(h.opts, m.To)
			}
			keep := make([]byte, r.Intn(40))
			r.Read(keep)
			st.Crash(string(keep))
			s = recovered(t, st, h, fmt.Sprint("seed ", seed, ", round ", round))
			before = seatLeaves(t, s)
			same(t, s, before)
			m := s.Seen()
			if o, there := used[m.Space]; there && o != m.Opts {
				t.Fatalf("space %d was %v's", m.Space, o)
			}
			used[m.Space] = m.Opts
		}
	}
}

// TestSpaces_18_17: each target's space is a greater one than all that were used, whichever way the move before it ended, and behind power cuts.
func TestSpaces_18_17(t *testing.T) {
	r := rand.New(rand.NewSource(1817))
	st := store.New(100000)
	s := made(t, st, loneOpts)
	ok(t, s.Append(numbered(0, 5)))
	last := 1
	for range 200 {
		to := allOpts[r.Intn(3)]
		if to == s.Seen().Opts {
			continue
		}
		ok(t, s.Plan(to))
		m := s.Seen()
		if m.Target <= last || m.Target > last+1 {
			t.Fatalf("behind space %d: %+v", last, m)
		}
		last = m.Target
		ok(t, s.Feed(r.Intn(6)))
		if r.Intn(3) == 0 {
			st.Crash([]string{"", "1", "01"}[r.Intn(3)])
			s = opened(t, st)
			if s.Seen() != m {
				t.Fatalf("Seen = %+v, was %+v", s.Seen(), m)
			}
		}
		if r.Intn(2) == 0 {
			ok(t, s.Cancel())
		} else {
			ok(t, s.Feed(9), s.Flip())
		}
		if s.Seen().Target != last {
			t.Fatalf("Seen = %+v", s.Seen())
		}
		if r.Intn(3) == 0 {
			st.Crash([]string{"", "1", "01"}[r.Intn(3)])
			s = opened(t, st)
		}
	}
	same(t, s, numbered(0, 5))
}

func TestNone(t *testing.T) {
	for _, s := range []*Seat{nil, {}} {
		for call, a := range asks(s) {
			if a != (answer{"", api.ErrDown}) {
				t.Errorf("no seat, and %s = %v", call, a)
			}
		}
		if tells(s) != (told{}) {
			t.Errorf("no seat tells %+v", tells(s))
		}
	}
}

// TestMemory_R4: what is handed in is neither changed nor kept.
func TestMemory_R4(t *testing.T) {
	movesOf(func(from, to api.Opts) {
		st := store.New(10000)
		s := made(t, st, from)
		bytes := []byte("abcdef")
		list := []string{unsafe.String(&bytes[0], 2), unsafe.String(&bytes[2], 2), unsafe.String(&bytes[4], 2), "spare", "room"}
		ok(t, s.Append(list[:3]))
		if list[3] != "spare" || list[4] != "room" || string(bytes) != "abcdef" {
			t.Errorf("Append changed its list: %q", list)
		}
		copy(bytes, "XXXXXX")
		list[0], list[1] = "other", "leaves"
		ok(t, s.Append([]string{"gh"}))
		want := []string{"ab", "cd", "ef", "gh"}
		same(t, s, want)
		ok(t, s.Plan(to), s.Feed(9), s.Flip())
		same(t, s, want)
	})
}

// TestOthersSpaces_18_5: who writes in spaces from 2 to the 40 on, or under other keys, is not touched by anything that a seat does.
func TestOthersSpaces_18_5(t *testing.T) {
	movesOf(func(from, to api.Opts) {
		st := store.New(100000)
		s := made(t, st, from)
		others := map[string]string{}
		for _, k := range []string{key(1<<40, 1, 0), key(1<<41, 4, 7), key(1<<42, 1, 0), key(math.MaxInt, 255, 1), "queue", "B"} {
			others[k] = "of " + k
			st.Put(k, others[k])
		}
		for _, script := range scripts(from, to) {
			for _, x := range script {
				x.seat(s)
			}
			st.Crash("1")
			s = opened(t, st)
			for k, want := range others {
				if data, r := st.Get(k); data != want || r != api.OK {
					t.Fatalf("%q is %q, %d", k, data, r)
				}
			}
		}
	})
}

func ExampleSeat() {
	st := store.New(100000)
	s, _ := Make(st, api.Opts{Engine: api.Lone, Width: 32})
	s.Append([]string{"a", "b", "c"})
	s.Plan(api.Opts{Engine: api.Shard, Width: 32, Bits: 4})
	s.Feed(100)
	s.Flip()
	st.Crash("")
	s, _ = Open(st)
	fmt.Println(s.Seen().Engine, s.Seen().Space, s.Size())
	// Output: 3 2 3
}
