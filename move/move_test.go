package move

import (
	"fmt"
	"math"
	"math/rand"
	"slices"
	"strings"
	"testing"

	"annals/api"
	"annals/book"
	"annals/mth"
	"annals/seat"
	"annals/store"
)

// TestExamples: the chapter's table, line by line.
func TestExamples(t *testing.T) {
	_, s := made(t, 100000, loneOpts, letters("abc"))
	step := func(most int, done bool, want api.Errno) {
		t.Helper()
		if got, r := Step(s, most); got != done || r != want {
			t.Errorf("Step(%d) = %v, %d, want %v, %d", most, got, r, done, want)
		}
	}
	answer := func(r, want api.Errno) {
		t.Helper()
		if r != want {
			t.Errorf("answered %d, want %d", r, want)
		}
	}
	fed := func(want int) {
		t.Helper()
		if s.Fed() != want {
			t.Errorf("Fed = %d, want %d", s.Fed(), want)
		}
	}
	step(9, false, api.ErrIdle)
	answer(Begin(s, tileOpts), api.OK)
	step(2, false, api.OK)
	fed(2)
	answer(s.Append(letters("d")), api.OK)
	step(1, false, api.OK)
	fed(3)
	answer(Run(s, shardOpts), api.ErrBusy)
	answer(Run(s, api.Opts{Engine: 2, Width: 32, Bundle: 4, Height: 2, Cache: 3, Bits: 9}), api.OK)
	if m := s.Seen(); m != (api.Manifest{Serial: 4, Opts: tileOpts, Space: 2, Target: 2}) {
		t.Errorf("Seen = %+v", m)
	}
	answer(Run(s, tileOpts), api.ErrSame)
	answer(Run(s, loneOpts), api.OK)
	answer(Run(s, tileOpts), api.OK)
	is(t, s, letters("abcd"))
	answer(Begin(s, loneOpts), api.OK)
	step(2, false, api.OK)
	answer(s.Cancel(), api.OK)
	step(1, false, api.ErrIdle)
	is(t, s, letters("abcd"))

	_, s = made(t, 100000, loneOpts, nil)
	answer(Begin(s, shardOpts), api.OK)
	step(0, true, api.OK)
	if m := s.Seen(); m.Opts != shardOpts || m.Moving {
		t.Errorf("an empty list: Seen = %+v", m)
	}

	_, s = made(t, 360+3*53+50, loneOpts, letters("abc"))
	answer(Run(s, tileOpts), api.ErrFull)
	is(t, s, letters("abc"))
	if m := s.Seen(); m.Opts != loneOpts || m.Moving {
		t.Errorf("no room: Seen = %+v", m)
	}
}

// wanted are options that go and such as do not.
func wanted() []api.Opts {
	list := append([]api.Opts{}, allOpts...)
	for _, o := range allOpts {
		for _, v := range []int{-1, 0, 5, 9, 31, 33, math.MaxInt} {
			for _, field := range []func(o *api.Opts) *int{
				func(o *api.Opts) *int { return &o.Engine }, func(o *api.Opts) *int { return &o.Width }, func(o *api.Opts) *int { return &o.Bundle },
				func(o *api.Opts) *int { return &o.Height }, func(o *api.Opts) *int { return &o.Cache }, func(o *api.Opts) *int { return &o.Bits },
			} {
				x := o
				*field(&x) = v
				list = append(list, x)
			}
		}
	}
	return append(list, api.Opts{})
}

// states are what may have been done to a seat ahead of a call.
func states() map[string]func(b *twins) {
	begun := func(b *twins) { b.do(doBegin(tileOpts)) }
	goes := func(st *store.Store) { st.Arm(1); st.Sync() }
	return map[string]func(b *twins){
		"as it was made":          func(b *twins) {},
		"a move is begun":         begun,
		"a move is on its way":    func(b *twins) { begun(b); b.do(doStep(2)) },
		"all is fed":              func(b *twins) { begun(b); b.do(ofSeat("Feed", func(s *seat.Seat) api.Errno { return s.Feed(9) })) },
		"a move is done":          func(b *twins) { b.do(doRun(tileOpts)) },
		"a move is called off":    func(b *twins) { begun(b); b.do(doStep(2)); b.do(doCancel()) },
		"the power is off":        func(b *twins) { b.stores(goes) },
		"the power went":          func(b *twins) { b.stores(func(st *store.Store) { st.Crash("1") }) },
		"moving, the power off":   func(b *twins) { begun(b); b.do(doStep(2)); b.stores(goes) },
		"moving, the power went":  func(b *twins) { begun(b); b.do(doStep(2)); b.stores(func(st *store.Store) { st.Crash("1") }) },
		"all fed, the power off":  func(b *twins) { begun(b); b.do(doStep(4)); b.stores(goes) },
		"the power goes at 1":     func(b *twins) { b.stores(func(st *store.Store) { st.Arm(1) }) },
		"the power goes at 2":     func(b *twins) { b.stores(func(st *store.Store) { st.Arm(2) }) },
		"moving, power goes at 1": func(b *twins) { begun(b); b.stores(func(st *store.Store) { st.Arm(1) }) },
		"moving, power goes at 3": func(b *twins) { begun(b); b.stores(func(st *store.Store) { st.Arm(3) }) },
	}
}

// TestBegin_19_1: Begin is Plan, whatever it is given and however the seat stands.
func TestBegin_19_1(t *testing.T) {
	for name, state := range states() {
		t.Run(name, func(t *testing.T) {
			for _, to := range wanted() {
				b := twinsOf(t, 10000, loneOpts, letters("abcde"))
				state(b)
				b.do(doBegin(to))
			}
		})
	}
	_, s := made(t, 10000, loneOpts, letters("abc"))
	for _, c := range []struct {
		to   api.Opts
		want api.Errno
	}{
		{api.Opts{}, api.ErrOpts}, {api.Opts{Engine: 4, Width: 32}, api.ErrOpts}, {api.Opts{Engine: 3, Width: 31}, api.ErrOpts},
		{loneOpts, api.ErrSame}, {api.Opts{Engine: 1, Width: 32, Bits: 4}, api.ErrSame}, {tileOpts, api.OK}, {shardOpts, api.ErrBusy}, {tileOpts, api.ErrBusy},
	} {
		if r := Begin(s, c.to); r != c.want {
			t.Errorf("Begin(%v) = %d, want %d", c.to, r, c.want)
		}
	}
	if m := s.Seen(); m != (api.Manifest{Serial: 3, Opts: loneOpts, Space: 1, Moving: true, To: tileOpts, Target: 2}) {
		t.Errorf("Seen = %+v", m)
	}
}

// TestStep_19_2: however the seat stands, with numbers of leaves of every kind.
func TestStep_19_2(t *testing.T) {
	for name, state := range states() {
		t.Run(name, func(t *testing.T) {
			for _, most := range []int{math.MinInt, -1, 0, 1, 2, 3, 4, 5, 6, 1024, 1025, math.MaxInt} {
				b := twinsOf(t, 10000, loneOpts, letters("abcde"))
				state(b)
				for range 7 {
					done, r := b.do(doStep(most))
					if done && (r != api.OK || b.s.Seen().Moving || b.s.Seen().Opts != tileOpts) {
						t.Fatalf("Step(%d) is done: %d, %+v", most, r, b.s.Seen())
					}
				}
			}
		})
	}
	movesOf(func(from, to api.Opts) {
		for most := 1; most <= 8; most++ {
			_, s := made(t, room, from, letters("abcdefg"))
			ok(t, Begin(s, to))
			for n := 1; n*most < 7; n++ {
				if done, r := Step(s, most); done || r != api.OK || s.Fed() != n*most || !s.Seen().Moving {
					t.Fatalf("from %v to %v: Step(%d) no. %d = %v, %d, Fed %d", from, to, most, n, done, r, s.Fed())
				}
			}
			if done, r := Step(s, most); !done || r != api.OK || s.Fed() != 0 || s.Seen().Moving || s.Seen().Opts != to {
				t.Fatalf("from %v to %v: the last Step(%d) = %v, %d, %+v", from, to, most, done, r, s.Seen())
			}
			if done, r := Step(s, most); done || r != api.ErrIdle {
				t.Fatalf("behind the last Step(%d) = %v, %d", most, done, r)
			}
			is(t, s, letters("abcdefg"))
		}
	})
}

// TestStepOfNothing_19_2: with most below 1 nothing is fed, and the move is done if all was fed already.
func TestStepOfNothing_19_2(t *testing.T) {
	movesOf(func(from, to api.Opts) {
		for _, most := range []int{0, -1, math.MinInt} {
			st, s := made(t, room, from, letters("abc"))
			ok(t, Begin(s, to))
			was := all(st)
			if done, r := Step(s, most); done || r != api.OK || s.Fed() != 0 || all(st) != was {
				t.Fatalf("Step(%d) = %v, %d, Fed %d", most, done, r, s.Fed())
			}
			ok(t, s.Feed(3))
			if done, r := Step(s, most); !done || r != api.OK || s.Seen().Opts != to || s.Seen().Moving {
				t.Fatalf("all fed: Step(%d) = %v, %d, %+v", most, done, r, s.Seen())
			}
			is(t, s, letters("abc"))
			_, s = made(t, room, from, nil)
			ok(t, Begin(s, to))
			if done, r := Step(s, most); !done || r != api.OK || s.Seen().Opts != to || s.Seen().Moving {
				t.Fatalf("an empty list: Step(%d) = %v, %d, %+v", most, done, r, s.Seen())
			}
			is(t, s, nil)
		}
	})
}

// TestStepOfABatch_19_2: no Step feeds more than a batch.
func TestStepOfABatch_19_2(t *testing.T) {
	leaves := numbered(0, 2050)
	for _, most := range []int{1024, 1025, 2050, math.MaxInt} {
		_, s := made(t, room, tileOpts, leaves)
		ok(t, Begin(s, bigShard))
		for _, want := range []int{1024, 2048} {
			if done, r := Step(s, most); done || r != api.OK || s.Fed() != want {
				t.Fatalf("Step(%d) = %v, %d, Fed %d, want %d", most, done, r, s.Fed(), want)
			}
		}
		if done, r := Step(s, most); !done || r != api.OK {
			t.Fatalf("the last Step(%d) = %v, %d", most, done, r)
		}
		is(t, s, leaves)
	}
}

// TestFlipRefused_19_2_19_3: one slot was lost, and there is no room for it: Flip's ErrFull comes through, of a Step and of a Run.
func TestFlipRefused_19_2_19_3(t *testing.T) {
	movesOf(func(from, to api.Opts) {
		st, s := made(t, room, from, letters("abcde"))
		ok(t, Begin(s, to), s.Feed(5), s.Sync())
		st = oneSlot(t, st, s.Seen().Serial)
		for _, c := range []call{doStep(0), doStep(9), doRun(to)} {
			b := twinsIn(t, st)
			if b.s.Fed() != 5 {
				t.Fatalf("Fed = %d", b.s.Fed())
			}
			if done, r := b.do(c); done || r != api.ErrFull || !b.s.Seen().Moving || b.s.Fed() != 5 {
				t.Fatalf("from %v to %v: %s = %v, %d, %+v", from, to, c.name, done, r, b.s.Seen())
			}
			is(t, b.s, letters("abcde"))
		}
	})
}

// TestOneSlot_19_1_19_2_19_3: where one slot was lost and there is no room, a plan is refused; and so is a Feed, the move being under way as it was.
func TestOneSlot_19_1_19_2_19_3(t *testing.T) {
	movesOf(func(from, to api.Opts) {
		st, s := made(t, room, from, letters("abcde"))
		ok(t, s.Sync())
		lost := oneSlot(t, st, s.Seen().Serial)
		for _, c := range []call{doBegin(to), doRun(to)} {
			b := twinsIn(t, lost)
			if _, r := b.do(c); r != api.ErrFull || b.s.Seen() != s.Seen() {
				t.Fatalf("%s = %d, %+v", c.name, r, b.s.Seen())
			}
		}
		ok(t, Begin(s, to))
		lost = oneSlot(t, st, s.Seen().Serial)
		for _, c := range []call{doStep(2), doRun(to)} {
			b := twinsIn(t, lost)
			if done, r := b.do(c); done || r != api.ErrFull || !b.s.Seen().Moving {
				t.Fatalf("%s = %v, %d, %+v", c.name, done, r, b.s.Seen())
			}
			is(t, b.s, letters("abcde"))
		}
	})
}

// TestRun_19_3: however the seat stands, whatever is wanted.
func TestRun_19_3(t *testing.T) {
	for name, state := range states() {
		t.Run(name, func(t *testing.T) {
			for _, to := range wanted() {
				b := twinsOf(t, 10000, loneOpts, letters("abcde"))
				state(b)
				b.do(doRun(to))
				b.do(doRun(to))
			}
		})
	}
}

// TestBusy_19_3: a move under way goes on if it is to what is wanted, the fields let go that are not named; with any other field it is ErrBusy, with the power off too, and of a seat that is given up.
func TestBusy_19_3(t *testing.T) {
	powers := map[string]func(st *store.Store){
		"on":   func(st *store.Store) {},
		"off":  func(st *store.Store) { st.Arm(1); st.Sync() },
		"went": func(st *store.Store) { st.Crash("1") },
		"back": func(st *store.Store) { st.Arm(1); st.Sync(); st.Crash("") },
	}
	movesOf(func(from, to api.Opts) {
		for power, goes := range powers {
			for _, other := range wanted() {
				st, s := made(t, 10000, from, letters("abc"))
				ok(t, Begin(s, to))
				if _, r := Step(s, 2); r != api.OK {
					t.Fatalf("Step = %d", r)
				}
				goes(st)
				want, told, was := api.OK, tells(s), all(st)
				switch {
				case wordsOpts(other) != to:
					want = api.ErrBusy
				case power != "on":
					want = api.ErrDown
				}
				if r := Run(s, other); r != want {
					t.Fatalf("power %s, moving to %v: Run(%v) = %d, want %d", power, to, other, r, want)
				}
				if want != api.OK && (tells(s) != told || all(st) != was) {
					t.Fatalf("power %s: Run(%v) = %d has done something: %s, was %s", power, other, want, tells(s), told)
				}
				if want == api.OK {
					is(t, s, letters("abc"))
				}
			}
		}
	})
}

// TestNotMoving_19_3: where no move is under way the power is looked at first, as Plan does; of a Step and a Begin too.
func TestNotMoving_19_3(t *testing.T) {
	for _, goes := range []func(st *store.Store){
		func(st *store.Store) { st.Arm(1); st.Sync() },
		func(st *store.Store) { st.Crash("1") },
	} {
		for _, to := range wanted() {
			st, s := made(t, 10000, loneOpts, letters("abc"))
			goes(st)
			told, was := tells(s), all(st)
			done, r := Step(s, 1)
			if done || r != api.ErrDown || Begin(s, to) != api.ErrDown || Run(s, to) != api.ErrDown {
				t.Fatalf("given up: Step = %v, %d, Begin and Run to %v %d, %d", done, r, to, Begin(s, to), Run(s, to))
			}
			if tells(s) != told || all(st) != was {
				t.Fatalf("given up, and something was done")
			}
		}
	}
}

// writesOf is how many writes and Syncs a call makes: the power that is armed for the next one does not go.
func writesOf(t *testing.T, ready func() (*store.Store, *seat.Seat), do func(s *seat.Seat) api.Errno) int {
	t.Helper()
	for n := 1; ; n++ {
		st, s := ready()
		st.Arm(n)
		r := do(s)
		if st.Down() != (r == api.ErrDown) {
			t.Fatalf("the power goes at %d: %d, Down %v", n, r, st.Down())
		}
		if !st.Down() {
			ok(t, r)
			return n - 1
		}
	}
}

// TestGoesOn_19_3: a move that was under way goes on from where it stood: what was fed is not written again.
func TestGoesOn_19_3(t *testing.T) {
	leaves := numbered(0, 12)
	for _, from := range []api.Opts{tileOpts, shardOpts, smallTile, bigShard} {
		for fed := 0; fed <= len(leaves); fed++ {
			var old []string
			writes := writesOf(t, func() (*store.Store, *seat.Seat) {
				st, s := made(t, room, from, leaves)
				ok(t, Begin(s, loneOpts), s.Feed(fed), s.Sync())
				st = reopened(t, st, room)
				first, _ := book.Key(1, 1, 0)
				old = st.Keys(first[:9])
				s = opened(t, st)
				if s.Fed() != fed {
					t.Fatalf("Fed = %d, want %d", s.Fed(), fed)
				}
				return st, s
			}, func(s *seat.Seat) api.Errno { return Run(s, loneOpts) })
			// a record for each leaf that is missing, a Sync, the manifest, its Sync, a Cut for each old record
			if want := len(leaves) - fed + 3 + len(old); writes != want {
				t.Errorf("from %v, %d fed: %d writes, want %d", from, fed, writes, want)
			}
		}
	}
}

// TestLong_19_3: more leaves than one Step takes, from the beginning and from where a move stood.
func TestLong_19_3(t *testing.T) {
	leaves := numbered(0, 3000)
	for i, from := range []api.Opts{tileOpts, shardOpts, bigShard} {
		to := []api.Opts{bigShard, loneOpts, tileOpts}[i]
		for _, fed := range []int{-1, 0, 1, 1000, 1024, 2999} {
			b := twinsOf(t, room, from, leaves)
			if fed >= 0 {
				b.do(doBegin(to))
				for b.s.Fed() < fed {
					b.do(doStep(min(1024, fed-b.s.Fed())))
				}
			}
			if _, r := b.do(doRun(to)); r != api.OK || b.s.Seen().Opts != to || b.s.Seen().Moving {
				t.Fatalf("Run = %d, %+v", r, b.s.Seen())
			}
			is(t, b.s, leaves)
		}
	}
}

// TestBatches_19_3: a Run feeds in batches of MaxBatch. A batch of so many leaves is sixteen whole records of shard's; a smaller one would part a record, and write it twice.
func TestBatches_19_3(t *testing.T) {
	leaves := numbered(0, 3000)
	for records, fed := range map[int]int{1: 64, 16: 1024, 17: 1088, 32: 2048, 47: 3000} {
		b := twinsOf(t, room, tileOpts, leaves)
		b.stores(func(st *store.Store) { st.Arm(2 + records) }) // behind the manifest and its Sync
		if _, r := b.do(doRun(bigShard)); r != api.ErrDown {
			t.Fatalf("the power goes at record %d: Run = %d", records, r)
		}
		b.stores(func(st *store.Store) { st.Crash("1") })
		if s := opened(t, b.st); s.Fed() != fed {
			t.Errorf("the power goes at record %d: Fed = %d, want %d", records, s.Fed(), fed)
		}
	}
}

// scripts are calls in which all that a move can be is there, with Appends and Syncs between.
func scripts(from, to api.Opts) [][]call {
	return [][]call{
		{doAppend("f"), doBegin(to), doStep(2), doAppend("g", "h"), doSync(), doStep(3), doAppend("i"), doStep(0), doRun(to), doAppend("j"), doSync(), doRun(from)},
		{doBegin(to), doAppend("f", "g", "h"), doStep(7), doCancel(), doAppend("i"), doRun(to), doAppend("j", "k"), doRun(from), doStep(1), doAppend("l")},
		{doRun(to), doAppend("f"), doBegin(from), doStep(5), doSync(), doStep(1), doAppend("g"), doSync(), doRun(to), doRun(to)},
	}
}

// TestInOrder_19_1_to_19_3: every call writes what its words say, in their order: the power goes at each write and Sync, and what is told, durable and pending is what it is by the words.
func TestInOrder_19_1_to_19_3(t *testing.T) {
	t.Parallel()
	movesOf(func(from, to api.Opts) {
		for _, script := range scripts(from, to) {
			for at := 0; ; at++ {
				b := twinsOf(t, 100000, from, letters("abcde"))
				b.stores(func(st *store.Store) { st.Arm(at) })
				for _, c := range script {
					b.do(c)
				}
				if at > 0 && !b.st.Down() {
					break
				}
			}
		}
	})
}

// TestNotSeen_19_4: two seats are given the same Appends and asked the same, good and wrong; only one of them moves.
func TestNotSeen_19_4(t *testing.T) {
	t.Parallel()
	for seed := range 120 {
		r := rand.New(rand.NewSource(int64(seed)))
		width := []int{32, 32, 1, 20}[r.Intn(4)]
		pick := func() api.Opts {
			o := allOpts[r.Intn(len(allOpts))]
			o.Width = width
			return o
		}
		o := pick()
		_, still := made(t, room, o, nil)
		_, s := made(t, room, o, nil)
		var leaves []string
		for range 40 {
			switch r.Intn(7) {
			case 0, 1:
				batch := numbered(len(leaves), r.Intn(5))
				if r.Intn(6) == 0 {
					batch = append(batch, strings.Repeat("x", 4095+r.Intn(3)))
				}
				e, want := s.Append(batch), still.Append(batch)
				if e != want {
					t.Fatalf("seed %d: Append(%.80q) = %d, want %d", seed, batch, e, want)
				}
				if e == api.OK {
					leaves = append(leaves, batch...)
				}
			case 2:
				Begin(s, pick())
			case 3, 4:
				Step(s, r.Intn(7)-1)
			case 5:
				Run(s, pick())
			case 6:
				if r.Intn(3) == 0 {
					s.Cancel()
				}
			}
			if answers(s) != answers(still) {
				t.Fatalf("seed %d: a move is seen: %+v", seed, s.Seen())
			}
			if root, e := s.Root(len(leaves)); e != api.OK || root != mth.Root(width, leaves) {
				t.Fatalf("seed %d: Root = %x, %d", seed, root, e)
			}
		}
	}
}

// TestChains_19_5: behind each Run of a chain the options are those that were wanted, and the list is the one from before.
func TestChains_19_5(t *testing.T) {
	junk := func(o api.Opts) api.Opts {
		if o.Engine != 2 {
			o.Bundle, o.Height, o.Cache = -7, 99, math.MaxInt
		}
		if o.Engine != 3 {
			o.Bits = -1
		}
		return o
	}
	for seed := range 60 {
		r := rand.New(rand.NewSource(int64(seed)))
		at := allOpts[r.Intn(len(allOpts))]
		leaves := numbered(0, r.Intn(20))
		st, s := made(t, room, at, leaves)
		space := 1
		for range 12 {
			to, want := allOpts[r.Intn(len(allOpts))], api.OK
			if to == at {
				want = api.ErrSame
			} else {
				space++
			}
			if e := Run(s, junk(to)); e != want {
				t.Fatalf("seed %d: Run(%v) = %d, want %d", seed, junk(to), e, want)
			}
			at = to
			if m := s.Seen(); m.Opts != to || m.Moving || m.To != (api.Opts{}) || m.Space != space || s.Fed() != 0 {
				t.Fatalf("seed %d: behind Run(%v): %+v", seed, to, m)
			}
			is(t, s, leaves)
			if used := book.Spaces(st); slices.ContainsFunc(used, func(x int) bool { return x != 0 && x != space }) {
				t.Fatalf("seed %d: spaces %v are used, and the list stands in %d", seed, used, space)
			}
			if r.Intn(2) == 0 {
				more := numbered(len(leaves), 1+r.Intn(4))
				ok(t, s.Append(more))
				leaves = append(leaves, more...)
			}
		}
		ok(t, s.Sync())
		is(t, opened(t, reopened(t, st, room)), leaves)
	}
}

// stayed looks whether a seat is where it was, no move under way, and nothing of a move is in the store, durable or not.
func stayed(t *testing.T, st *store.Store, s *seat.Seat, from api.Opts, leaves []string, was string) {
	t.Helper()
	m := s.Seen()
	if m.Opts != from || m.Space != 1 || m.Moving || m.To != (api.Opts{}) || s.Fed() != 0 {
		t.Fatalf("no room: Seen %+v, Fed %d", m, s.Fed())
	}
	if without(st) != was {
		t.Fatalf("no room: the store is %.300s, was %.300s", without(st), was)
	}
	for _, x := range []*store.Store{st, reopened(t, st, room)} {
		if used := book.Spaces(x); slices.ContainsFunc(used, func(space int) bool { return space > 1 }) {
			t.Fatalf("no room: spaces %v", used)
		}
	}
	is(t, s, leaves)
	if done, r := Step(s, 1); done || r != api.ErrIdle {
		t.Fatalf("no room: Step = %v, %d", done, r)
	}
}

// TestNoRoom_19_6: in stores of many capacities, from one without any room to one with enough, by Run and by Steps: all is there, or nothing has moved.
func TestNoRoom_19_6(t *testing.T) {
	t.Parallel()
	leaves := letters("abcdefghi")
	movesOf(func(from, to api.Opts) {
		probe, _ := made(t, room, from, leaves)
		full, moved := 0, 0
		for spare := 0; spare <= 900; spare += 7 {
			for _, most := range []int{0, 1, 2, 4, 9} {
				st, s := made(t, probe.Used()+spare, from, leaves)
				was, used := without(st), st.Used()
				var r api.Errno
				if most == 0 {
					r = Run(s, to)
				} else {
					ok(t, Begin(s, to))
					for done := false; !done && r == api.OK; {
						done, r = Step(s, most)
					}
				}
				switch r {
				case api.ErrFull:
					full++
					stayed(t, st, s, from, leaves, was)
					if st.Used() != used {
						t.Fatalf("no room: Used %d, was %d", st.Used(), used)
					}
				case api.OK:
					moved++
					if m := s.Seen(); m.Opts != to || m.Moving {
						t.Fatalf("Seen %+v", m)
					}
					is(t, s, leaves)
				default:
					t.Fatalf("from %v to %v with %d to spare: %d", from, to, spare, r)
				}
			}
		}
		if full == 0 || moved == 0 {
			t.Errorf("from %v to %v: %d without room, %d moved", from, to, full, moved)
		}
	})
}

// TestNoRoomAgain_19_6: with no room left by an Append amid the move; with what was fed by earlier Steps and batches; of a move that goes on behind an Open; and there is a move when there is room again.
func TestNoRoomAgain_19_6(t *testing.T) {
	leaves := numbered(0, 1500)
	probe, s := made(t, room, tileOpts, leaves)
	ok(t, s.Sync())
	st, s := made(t, probe.Used()+1200*61, tileOpts, leaves)
	ok(t, s.Sync())
	was := without(st)
	for range 2 {
		if r := Run(s, loneOpts); r != api.ErrFull {
			t.Fatalf("Run = %d", r)
		}
		stayed(t, st, s, tileOpts, leaves, was)
		ok(t, Begin(s, loneOpts))
		if done, r := Step(s, 1024); done || r != api.OK || s.Fed() != 1024 {
			t.Fatalf("Step = %v, %d, Fed %d", done, r, s.Fed())
		}
		ok(t, s.Sync())
		if done, r := Step(s, 1024); done || r != api.ErrFull {
			t.Fatalf("Step = %v, %d", done, r)
		}
		stayed(t, st, s, tileOpts, leaves, was)
	}
	if r := Run(s, bigShard); r != api.OK || s.Seen().Opts != bigShard {
		t.Fatalf("Run where there is room = %d", r)
	}
	is(t, s, leaves)

	st, s = made(t, 360+5*53*2+100, loneOpts, letters("abcde"))
	ok(t, Begin(s, shardOpts))
	if done, r := Step(s, 4); done || r != api.OK {
		t.Fatalf("Step = %v, %d", done, r)
	}
	ok(t, s.Append([]string{strings.Repeat("x", st.Room()-st.Used()-52)}), s.Sync())
	s = opened(t, st)
	if r := Run(s, shardOpts); s.Fed() != 0 || r != api.ErrFull {
		t.Fatalf("Run behind an Open = %d, Fed %d", r, s.Fed())
	}
	stayed(t, st, s, loneOpts, leavesOf(t, s), without(st))
	if s.Size() != 6 {
		t.Errorf("Size = %d", s.Size())
	}
}

// cuts are choices of what survives.
var cuts = []string{"", "\x01", "\x00\x01", "\x01\x00", "\x01\x00\x00", "\x00\x01\x01", "\x00\x00\x00\x01", "\x01\x01\x01\x00\x01\x00\x00"}

// history is what was done to a seat: what its list may be behind a power cut, and where.
type history struct {
	durable  int      // so many leaves are durable
	accepted []string // all leaves whose Append answered OK
	during   []string // those of the Append during which the power went
	homes    []api.Opts
}

// played does calls to a seat until the power goes.
func played(st *store.Store, s *seat.Seat, script []call, accepted []string, batches map[string][]string) history {
	h := history{durable: len(accepted), accepted: accepted, homes: homesOf(s.Seen())}
	for _, c := range script {
		before, image := s.Seen(), st.Image()
		_, r := c.do(s)
		if r == api.OK && batches[c.name] != nil {
			h.accepted = append(slices.Clone(h.accepted), batches[c.name]...)
		}
		if st.Image() != image { // a Sync was done: what was accepted ahead of it is durable, also if the power went later in the call
			h.durable = len(h.accepted)
		}
		if r == api.ErrDown {
			h.during, h.homes = batches[c.name], homesOf(before)
			if o := wantedBy(c); o.Engine > 0 && !before.Moving {
				h.homes = append(h.homes, o)
			}
			return h
		}
		h.homes = homesOf(s.Seen())
	}
	return h
}

// homesOf are the options with which a list may be found behind a power cut, by a manifest; the last ones are those that are wanted.
func homesOf(m api.Manifest) []api.Opts {
	if m.Moving {
		return []api.Opts{m.Opts, m.To}
	}
	return []api.Opts{m.Opts}
}

// wantedBy are the options that a Begin or a Run is to, by its name; none, of another call.
func wantedBy(c call) api.Opts {
	for _, o := range allOpts {
		if strings.HasSuffix(c.name, fmt.Sprint(" ", o)) {
			return o
		}
	}
	return api.Opts{}
}

// recovered opens a store behind a power cut, and holds what is there against what was done.
func recovered(t *testing.T, st *store.Store, h history) *seat.Seat {
	t.Helper()
	s := opened(t, st)
	list := leavesOf(t, s)
	if !isBeginning(append(slices.Clone(h.accepted), h.during...), list) || len(list) < h.durable {
		t.Fatalf("behind a cut: the list is %q, of %q and %q, %d durable", list, h.accepted, h.during, h.durable)
	}
	is(t, s, list)
	m := s.Seen()
	if !slices.Contains(h.homes, m.Opts) || m.Moving && !slices.Contains(h.homes, m.To) {
		t.Fatalf("behind a cut: Seen %+v, and the engine is one of %v", m, h.homes)
	}
	image, told := st.Image(), fmt.Sprint(s.Size(), s.Fed(), s.Seen())
	again := opened(t, st)
	if st.Image() != image || st.Pending() != 0 || fmt.Sprint(again.Size(), again.Fed(), again.Seen()) != told {
		t.Fatalf("opened again: %+v, was %s", again.Seen(), told)
	}
	is(t, again, list)
	return again
}

// finished moves a list that was found to where it was to go.
func finished(t *testing.T, s *seat.Seat, to api.Opts) {
	t.Helper()
	list, m, want := leavesOf(t, s), s.Seen(), api.OK
	if m.Opts == to && !m.Moving {
		want = api.ErrSame
	}
	if r := Run(s, to); r != want {
		t.Fatalf("found %+v: Run(%v) = %d, want %d", m, to, r, want)
	}
	if m := s.Seen(); m.Opts != to || m.Moving {
		t.Fatalf("behind Run(%v): %+v", to, m)
	}
	is(t, s, list)
}

// batchesOf are the leaves of a script's Appends, by the calls' names.
func batchesOf(texts ...string) map[string][]string {
	all := map[string][]string{}
	for _, text := range texts {
		all[doAppend(letters(text)...).name] = letters(text)
	}
	return all
}

// TestPowerCuts_19_7: the power goes at each write and Sync of a script, and any of the pending writes survive.
func TestPowerCuts_19_7(t *testing.T) {
	movesOf(func(from, to api.Opts) {
		t.Run(fmt.Sprint(from, to), func(t *testing.T) {
			t.Parallel()
			for _, script := range scripts(from, to) {
				for at := 1; cutAt(t, from, script, at); at++ {
				}
			}
		})
	})
}

// cutAt plays a script with the power going at a write, for each choice of what survives; it tells whether the power went.
func cutAt(t *testing.T, from api.Opts, script []call, at int) bool {
	t.Helper()
	batches := batchesOf("f", "g", "h", "i", "j", "k", "l", "gh", "fgh", "jk")
	went := false
	for _, keep := range cuts {
		st, s := made(t, 100000, from, letters("abcde"))
		ok(t, s.Sync())
		st.Arm(at)
		h := played(st, s, script, letters("abcde"), batches)
		went = st.Down()
		st.Crash(keep)
		finished(t, recovered(t, st, h), h.homes[len(h.homes)-1])
	}
	return went
}

// TestCutAgain_19_7: moves that are cut time and again, opened and run again, and cut in that too.
func TestCutAgain_19_7(t *testing.T) {
	t.Parallel()
	for seed := range 300 {
		r := rand.New(rand.NewSource(int64(seed)))
		accepted := numbered(0, r.Intn(12))
		from, to := allOpts[r.Intn(len(allOpts))], allOpts[r.Intn(len(allOpts))]
		st, s := made(t, room, from, accepted)
		ok(t, s.Sync())
		for range 12 {
			batch := letters("pqrs")[:1+r.Intn(4)]
			batches := map[string][]string{doAppend(batch...).name: batch}
			script := []call{doAppend(batch...), doRun(to), doStep(r.Intn(4)), doSync()}
			if from == to || r.Intn(3) == 0 {
				to = allOpts[r.Intn(len(allOpts))]
				script = append(script, doBegin(to), doStep(r.Intn(9)))
			}
			r.Shuffle(len(script), func(i, j int) { script[i], script[j] = script[j], script[i] })
			st.Arm(1 + r.Intn(30))
			h := played(st, s, script, accepted, batches)
			keep := make([]byte, r.Intn(9))
			r.Read(keep)
			st.Crash(string(keep))
			s = recovered(t, st, h)
			accepted, from = leavesOf(t, s), s.Seen().Opts
		}
		if m := s.Seen(); m.Moving {
			finished(t, s, m.To)
		}
		finished(t, s, loneOpts)
	}
}

// TestNoSeat_R1: nothing panics without a seat, either.
func TestNoSeat_R1(t *testing.T) {
	done, r := Step(nil, 1)
	if done || r != api.ErrDown || Begin(nil, tileOpts) != api.ErrDown || Run(nil, tileOpts) != api.ErrDown {
		t.Errorf("Step = %v, %d", done, r)
	}
}
