package shard

import (
	"fmt"
	"maps"
	"math"
	"math/rand"
	"slices"
	"strings"
	"testing"
	"unsafe"

	"annals/api"
	"annals/store"
)

var opts = withBits(1)

func withBits(n int) api.Opts { return api.Opts{Engine: 3, Width: 32, Bits: n} }

// counting is what records count in a store.
func counting(records map[string]string) int {
	sum := 0
	for k, data := range records {
		sum += len(k) + len(data) + 16
	}
	return sum
}

// TestExamples: the chapter's table, line by line.
func TestExamples(t *testing.T) {
	st := store.New(100000)
	for _, o := range []api.Opts{withBits(11), withBits(-1), {Engine: 3, Width: 33, Bits: 1}, {Engine: 1, Width: 32, Bits: 1}} {
		if e, r := Make(st, o, 1); e != nil || r != api.ErrOpts {
			t.Errorf("Make(%v) = %d", o, r)
		}
	}
	e := made(t, st, opts, 1)
	counts := func(where string, nodes int) {
		t.Helper()
		if c := e.Counts(); c != (api.Counts{Nodes: nodes}) {
			t.Errorf("%s: %v, want %d", where, c, nodes)
		}
	}
	node := func(level, index int, want string) {
		t.Helper()
		if a := got(e.Node(api.Addr{Level: level, Index: index})); a != (answer{want, 0}) {
			t.Errorf("Node({%d, %d}) = %v", level, index, a)
		}
	}
	appended(t, e, "A", "B", "C")
	holds(t, st, map[string]string{key(1, 4, 0): frame(4, 0, partBytes("A", "B")), key(1, 4, 2): frame(4, 2, partBytes("C"))})
	counts("three leaves", 0)
	m := modelOf(opts, letters(4)...)
	for i := range 2 {
		if a := got(e.Root(3)); a != m.root(3) {
			t.Errorf("Root(3) = %v", a)
		}
		counts("Root(3)", 2+i)
	}
	appended(t, e, "D")
	node(2, 0, m.levels[2][0])
	counts("a spine node", 5)
	node(2, 0, m.levels[2][0])
	node(1, 1, cut(32, "\x01", cut(32, "\x00C"), cut(32, "\x00D")))
	node(0, 3, cut(32, "\x00D"))
	counts("what is there", 5)
	flushed(t, e)
	if st.Pending() != 5 {
		t.Errorf("pending %d", st.Pending())
	}
	holds(t, st, map[string]string{
		key(1, 4, 0): frame(4, 0, partBytes("A", "B")), key(1, 4, 2): frame(4, 2, partBytes("C", "D")),
		key(1, 5, 0): frame(5, 0, "\x02"+m.levels[1][0]), key(1, 5, 1): frame(5, 1, "\x02"+m.levels[1][1]),
	})
	appended(t, e, "E")
	flushed(t, e)
	if data, _ := st.Get(key(1, 5, 2)); data != frame(5, 2, "\x01"+cut(32, "\x00E")) {
		t.Errorf("the root of shard 2 is %q", data)
	}
	st.Sync()
	appended(t, e, "F")
	st.Crash("")
	e = opened(t, st, opts, 1, 0)
	m = modelOf(opts, letters(5)...)
	m.flush()
	if !slices.Equal(leavesOf(t, e), letters(5)) || e.Size() != 5 || st.Pending() != 0 {
		t.Errorf("behind a cut: Size %d, pending %d", e.Size(), st.Pending())
	}
	holds(t, st, m.records(1))
	st.Put(key(1, 5, 0), frame(5, 0, "x"))
	e = opened(t, st, opts, 1, 5)
	if _, r := st.Get(key(1, 5, 0)); r != api.ErrNone {
		t.Errorf("a wrong root stands: %d", r)
	}
	flushed(t, e)
	holds(t, st, m.records(1))
	st.Put(key(1, 4, 0), "spoilt")
	quiet(t, st, func() {
		if e, r := Open(st, opts, 1, 1); e != nil || r != api.ErrLost {
			t.Errorf("Open where part 0 is spoilt, with least 1: %d", r)
		}
	})
	if e := opened(t, st, opts, 1, 0); e.Size() != 0 || len(st.Keys("")) != 0 {
		t.Errorf("Open where part 0 is spoilt: Size %d, records %q", e.Size(), st.Keys(""))
	}
	appended(t, made(t, st, withBits(10), 1), numbered(0, 100)...)
	if keys := st.Keys(""); !slices.Equal(keys, []string{key(1, 4, 0), key(1, 4, 64)}) {
		t.Errorf("100 leaves of a great shard stand in %q", keys)
	}
}

func TestOptions_15_1_17_1(t *testing.T) {
	edges := []int{math.MinInt, -1, 0, 1, 2, 3, 4, 9, 10, 11, 31, 32, 33, 64, 256, 257, 259, 1 << 32, 1<<32 + 3, math.MaxInt}
	bounds := []struct {
		set         func(o *api.Opts, v int)
		least, most int
	}{
		{func(o *api.Opts, v int) { o.Engine = v }, 3, 3},
		{func(o *api.Opts, v int) { o.Width = v }, 1, 32},
		{func(o *api.Opts, v int) { o.Bits = v }, 0, 10},
		{func(o *api.Opts, v int) { o.Bundle, o.Height, o.Cache = v, v, v }, math.MinInt, math.MaxInt},
	}
	for i, one := range bounds {
		for _, two := range bounds[i+1:] {
			for _, v := range edges {
				for _, u := range edges {
					o := opts
					one.set(&o, v)
					two.set(&o, u)
					want := api.ErrOpts
					if one.least <= v && v <= one.most && two.least <= u && u <= two.most {
						want = api.OK
					}
					st := store.New(0)
					if e, r := Make(st, o, 1); r != want || (e != nil) != (r == api.OK) {
						t.Fatalf("Make(%v) = %d, want %d", o, r, want)
					}
					if e, r := Open(st, o, 1, 0); r != want || (e != nil) != (r == api.OK) {
						t.Fatalf("Open(%v) = %d, want %d", o, r, want)
					}
				}
			}
		}
	}
}

// TestRefusalsInOrder_15_3_15_4: whichever refusals apply together, the first one counts, and nothing is written.
func TestRefusalsInOrder_15_3_15_4(t *testing.T) {
	wrong := withBits(11)
	for _, o := range []api.Opts{opts, wrong} {
		for _, space := range []int{0, 1, math.MaxInt, -1, math.MinInt} {
			for _, down := range []bool{false, true} {
				for _, least := range []int{0, 5, 6, math.MaxInt, math.MinInt} {
					st := store.New(10000)
					for k, data := range modelOf(opts, letters(5)...).records(max(space, 0)) {
						st.Put(k, data)
					}
					if down {
						st.Arm(1)
					}
					st.Sync()
					want := api.OK
					switch {
					case o == wrong:
						want = api.ErrOpts
					case space < 0:
						want = api.ErrRange
					case down:
						want = api.ErrDown
					case least > 5:
						want = api.ErrLost
					}
					quiet(t, st, func() {
						if e, r := Open(st, o, space, least); r != want || (e != nil) != (r == api.OK) {
							t.Errorf("Open(%v, %d, %d) with the power off %v: %d, want %d", o, space, least, down, r, want)
						}
					})
					if want == api.ErrLost {
						want = api.OK
					}
					was := all(st)
					e, r := Make(st, o, space)
					if r != want || (e != nil) != (r == api.OK) || r != api.OK && all(st) != was {
						t.Errorf("Make(%v, %d) with the power off %v: %d, want %d", o, space, down, r, want)
					}
				}
			}
		}
	}
	for _, take := range []func() (*Engine, api.Errno){
		func() (*Engine, api.Errno) { return Make(nil, opts, 1) },
		func() (*Engine, api.Errno) { return Open(nil, opts, 1, 0) },
	} {
		if e, r := take(); e != nil || r != api.ErrDown {
			t.Errorf("without a store: %v, %d", e, r)
		}
	}
}

func TestMake_15_3(t *testing.T) {
	fill := func() *store.Store {
		st := store.New(10000)
		for _, k := range []string{key(4, 4, 0), key(5, 4, 0), key(5, 5, 3), key(5, 255, 9), key(5, 4, 0) + "x", key(6, 4, 0), "other"} {
			st.Put(k, frame(4, 0, partBytes("A")))
		}
		st.Sync()
		return st
	}
	st := fill()
	e := made(t, st, opts, 5)
	if !slices.Equal(st.Keys(""), []string{key(4, 4, 0), key(6, 4, 0), "other"}) || st.Pending() != 4 {
		t.Errorf("behind Make: %q, pending %d", st.Keys(""), st.Pending())
	}
	same(t, e, modelOf(opts))
	for n := 1; n <= 5; n++ {
		st := fill()
		st.Arm(n)
		want := api.ErrDown
		if n == 5 {
			want = api.OK
		}
		if e, r := Make(st, opts, 5); r != want || (e == nil) != (n < 5) || st.Pending() != min(n, 4) {
			t.Errorf("the power goes at write %d: Make = %d, pending %d", n, r, st.Pending())
		}
	}
	// two engines in two spaces know nothing of one another
	narrow := api.Opts{Engine: 3, Width: 5, Bits: 0}
	a, b := made(t, st, opts, 0), made(t, st, narrow, math.MaxInt)
	appended(t, a, letters(9)...)
	appended(t, b, "x", "y", "z")
	flushed(t, a)
	flushed(t, b)
	other := modelOf(narrow, "x", "y", "z")
	other.flush()
	other.open()
	made(t, st, opts, 0)
	same(t, opened(t, st, narrow, math.MaxInt, 3), other)
	same(t, opened(t, st, opts, 0, 0), modelOf(opts))
}

// asks are all calls that answer an Errno, with inputs that go and such as are refused.
func asks(e *Engine) map[string]answer {
	long := strings.Repeat("x", 4097)
	return map[string]answer{
		"Append":        got("", e.Append([]string{"new"})),
		"Append none":   got("", e.Append(nil)),
		"Append many":   got("", e.Append(make([]string, 1025))),
		"Append big":    got("", e.Append([]string{long})),
		"Leaf(0)":       got(e.Leaf(0)),
		"Leaf(-1)":      got(e.Leaf(-1)),
		"Leaf(1000)":    got(e.Leaf(1000)),
		"Node({0, 0})":  got(e.Node(api.Addr{})),
		"Node({1, 0})":  got(e.Node(api.Addr{Level: 1})),
		"Node({2, 0})":  got(e.Node(api.Addr{Level: 2})),
		"Node({-1, 0})": got(e.Node(api.Addr{Level: -1})),
		"Node({9, 9})":  got(e.Node(api.Addr{Level: 9, Index: 9})),
		"Root(0)":       got(e.Root(0)),
		"Root(3)":       got(e.Root(3)),
		"Root(-1)":      got(e.Root(-1)),
		"Flush":         got("", e.Flush()),
	}
}

// givenUp looks whether an engine is given up, and tells what it told.
func givenUp(t *testing.T, st *store.Store, e *Engine, size int, counts api.Counts) {
	t.Helper()
	quiet(t, st, func() {
		for call, a := range asks(e) {
			if a != (answer{"", api.ErrDown}) {
				t.Errorf("given up, and %s = %v", call, a)
			}
		}
	})
	if e.Size() != size || e.Counts() != counts {
		t.Errorf("given up: Size %d, Counts %v, want %d, %v", e.Size(), e.Counts(), size, counts)
	}
}

// TestGivenUp_15_2_17_10: in whichever way the power goes, asked for ahead of that or not. What is told then is what a twin tells to which the same was done, but for the power: the hashes of a Flush that answered ErrDown are not counted.
func TestGivenUp_15_2_17_10(t *testing.T) {
	ways := map[string]func(st *store.Store, e *Engine){
		"a cut with the power on": func(st *store.Store, e *Engine) { st.Crash("1") },
		"two cuts":                func(st *store.Store, e *Engine) { st.Crash("1"); st.Crash("") },
		"a Sync":                  func(st *store.Store, e *Engine) { st.Arm(1); st.Sync() },
		"another's write":         func(st *store.Store, e *Engine) { st.Arm(1); st.Put("other", "") },
		"a Sync, then a cut":      func(st *store.Store, e *Engine) { st.Arm(1); st.Sync(); st.Crash("1") },
		"an Append":               func(st *store.Store, e *Engine) { st.Arm(1); e.Append(letters(9)) },
		"an Append's last write":  func(st *store.Store, e *Engine) { st.Arm(3); e.Append(letters(9)) },
		"an Append, then a cut":   func(st *store.Store, e *Engine) { st.Arm(1); e.Append(letters(9)); st.Crash("1") },
		"a Flush":                 func(st *store.Store, e *Engine) { st.Arm(1); e.Flush() },
		"a Flush's last write":    func(st *store.Store, e *Engine) { st.Arm(2); e.Flush() },
		"a Flush, then a cut":     func(st *store.Store, e *Engine) { st.Arm(2); e.Flush(); st.Crash("1") },
		"a Root, then a cut":      func(st *store.Store, e *Engine) { st.Arm(1); st.Sync(); e.Root(4); st.Crash("") },
	}
	o := withBits(2)
	for way, goes := range ways {
		for _, asked := range []bool{false, true} {
			ahead := func() (*store.Store, *Engine) {
				st := store.New(100000)
				st.Crash("")
				e := made(t, st, o, 1)
				appended(t, e, letters(4)...)
				if asked {
					asks(e) // appends a fifth leaf, and flushes
					asks(e)
				}
				appended(t, e, letters(7)...)
				if asked {
					e.Root(9)
					e.Size()
					e.Counts()
				}
				return st, e
			}
			_, twin := ahead()
			size, counts := twin.Size(), twin.Counts()
			if asked != (counts.Nodes > 0) {
				t.Fatalf("asked %v: %v", asked, counts)
			}
			t.Run(way, func(t *testing.T) {
				st, e := ahead()
				goes(st, e)
				givenUp(t, st, e, size, counts)
				givenUp(t, st, e, size, counts)
				st.Crash("1")
				givenUp(t, st, e, size, counts)
				again := opened(t, st, o, 1, 0)
				st.Sync()
				givenUp(t, st, e, size, counts)
				appended(t, again, "w")
				givenUp(t, st, e, size, counts)
			})
		}
	}
}

// TestOthersStand_15_2: what another engine, or a refusal other than ErrDown, does gives nothing up and counts nothing.
func TestOthersStand_15_2(t *testing.T) {
	st := store.New(5000)
	e := made(t, st, opts, 1)
	m := modelOf(opts)
	appended(t, e, letters(5)...)
	m.append(letters(5))
	st.Arm(100)
	for range 3 {
		for _, list := range [][]string{nil, make([]string, 1025), {strings.Repeat("x", 4097)}, {strings.Repeat("x", 4096), strings.Repeat("x", 4096)}} {
			if r := e.Append(list); r == api.OK {
				t.Errorf("Append of %d leaves = %d", len(list), r)
			}
		}
		e.Leaf(5)
		e.Node(api.Addr{Level: 70})
		e.Node(api.Addr{Level: 3})
		e.Node(api.Addr{Level: 1, Index: 2})
		e.Root(6)
		counted(t, e, m)
	}
	st.Sync()
	made(t, st, opts, 2)
	Open(st, opts, 3, 9)
	same(t, e, m)
	appended(t, e, "F")
	m.append([]string{"F"})
	same(t, e, m)
}

func TestNone(t *testing.T) {
	for _, e := range []*Engine{nil, {}} {
		for call, a := range asks(e) {
			if a != (answer{"", api.ErrDown}) {
				t.Errorf("no engine, and %s = %v", call, a)
			}
		}
		if e.Size() != 0 || e.Counts() != (api.Counts{}) {
			t.Error("no engine tells of leaves")
		}
	}
}

// TestAppendRefusalsInOrder_15_5: whichever apply together, the first one counts, and all is as it was.
func TestAppendRefusalsInOrder_15_5(t *testing.T) {
	o := withBits(2)
	begun := counting(modelOf(o, "A", "B").records(1))
	for _, down := range []bool{false, true} {
		for _, count := range []int{0, 1, 2, 1024, 1025, 3000} {
			for _, length := range []int{0, 4096, 4097, 100000} {
				for _, room := range []int{0, 60, 1 << 24} {
					st := store.New(begun + room)
					e := made(t, st, o, 1)
					appended(t, e, "A", "B")
					e.Root(2)
					counts := e.Counts()
					if down {
						st.Arm(1)
						st.Sync()
					}
					list := make([]string, count)
					if count > 0 {
						list[count/2] = strings.Repeat("x", length)
					}
					grown := modelOf(o, slices.Concat(letters(2), list)...).records(1)
					want := api.OK
					switch {
					case down:
						want = api.ErrDown
					case count == 0:
						want = api.ErrEmpty
					case count > 1024:
						want = api.ErrMany
					case length > 4096:
						want = api.ErrBig
					case counting(grown) > begun+room:
						want = api.ErrFull
					}
					was := all(st)
					r := e.Append(list)
					if r != want {
						t.Errorf("power off %v, %d leaves, one of %d bytes, room for %d: Append = %d, want %d", down, count, length, room, r, want)
					}
					if want == api.OK {
						holds(t, st, grown)
						continue
					}
					if all(st) != was || e.Size() != 2 || e.Counts() != counts {
						t.Errorf("Append = %d, and not all is as it was", r)
					}
					if down {
						continue
					}
					if !slices.Equal(leavesOf(t, e), letters(2)) {
						t.Error("other leaves")
					}
					if e.Node(api.Addr{Level: 1}); e.Counts() != counts {
						t.Errorf("Append = %d, and a shard is dirty", r)
					}
				}
			}
		}
	}
}

// TestFull_15_5_17_3: just what fits is taken, all of a batch or nothing: a part that grows makes room for itself.
func TestFull_15_5_17_3(t *testing.T) {
	o := withBits(2)
	for _, before := range []int{0, 1, 3, 4, 5, 8} {
		for _, lengths := range [][]int{{0}, {1}, {5, 0, 7}, {4096}, {100, 4096, 3}, {0, 0, 0, 0, 0, 0}, {127, 128, 129, 1, 2, 3, 4, 5, 6}} {
			var list []string
			for i, n := range lengths {
				list = append(list, strings.Repeat(string(rune('a'+i)), n))
			}
			grown := modelOf(o, slices.Concat(letters(before), list)...)
			begun := counting(modelOf(o, letters(before)...).records(7))
			need := counting(grown.records(7))
			for slack := begun - need; slack <= 3; slack += 1 + (need-begun)/97*min(1, max(0, -3-slack)) {
				st := store.New(need + 100 + slack)
				st.Put("other", strings.Repeat("o", 100-21))
				e := made(t, st, o, 7)
				if before > 0 {
					appended(t, e, letters(before)...)
				}
				was := all(st)
				r := e.Append(list)
				if slack < 0 {
					if r != api.ErrFull || all(st) != was || e.Size() != before {
						t.Fatalf("%v behind %d with %d to spare: Append = %d, Size %d", lengths, before, slack, r, e.Size())
					}
					continue
				}
				if r != api.OK || st.Used() != 100+need || e.Size() != before+len(list) {
					t.Fatalf("%v behind %d with %d to spare: Append = %d, Used %d", lengths, before, slack, r, st.Used())
				}
			}
		}
	}
}

// TestFullBehindACut_15_5: a store may be above its room; nothing goes then, and what is there is told.
func TestFullBehindACut_15_5(t *testing.T) {
	for _, written := range []bool{false, true} {
		st := store.New(10000)
		e := made(t, st, opts, 1)
		m := modelOf(opts, letters(9)...)
		appended(t, e, letters(9)...)
		if written {
			flushed(t, e)
			m.flush()
		}
		st.Sync()
		small, _ := store.Open(st.Image(), 100)
		e = opened(t, small, opts, 1, 9)
		m.open()
		quiet(t, small, func() {
			if r := e.Append([]string{""}); r != api.ErrFull {
				t.Errorf("a store above its room: Append = %d", r)
			}
			flushed(t, e)
			same(t, e, m)
		})
	}
}

// TestRecords_17_2_17_3: of lists of all lengths, in shards of all sizes, appended and flushed in all rhythms.
func TestRecords_17_2_17_3(t *testing.T) {
	r := rand.New(rand.NewSource(172))
	for _, space := range []int{0, 1, 300, 1 << 40, math.MaxInt} {
		for b := 0; b <= 10; b++ {
			o := api.Opts{Engine: 3, Width: 1 + r.Intn(32), Bits: b}
			st := store.New(1 << 22)
			e := made(t, st, o, space)
			m := modelOf(o)
			for _, list := range [][]string{{"", "a"}, {"\x00"}, {"\xa5", "a", partBytes("a"), frame(4, 0, "a")}, {strings.Repeat("\xff", 4096)}, numbered(0, r.Intn(500)+1), numbered(7, r.Intn(70)+1), numbered(5, 1024)} {
				appended(t, e, list...)
				m.append(list)
				if r.Intn(2) == 0 {
					flushed(t, e)
					m.flush()
				}
				holds(t, st, m.records(space))
			}
			if st.Used() != counting(m.records(space)) {
				t.Errorf("Used %d, want %d", st.Used(), counting(m.records(space)))
			}
			counted(t, e, m)
		}
	}
}

// TestLongestPart_17_2: 64 of the longest leaves stand in one record.
func TestLongestPart_17_2(t *testing.T) {
	leaves := slices.Repeat([]string{strings.Repeat("x", 4096)}, 65)
	for _, b := range []int{6, 7, 10} {
		st := store.New(1 << 20)
		e := made(t, st, withBits(b), 1)
		appended(t, e, leaves[:63]...)
		appended(t, e, leaves[63:]...)
		if keys := st.Keys(""); !slices.Equal(keys, []string{key(1, 4, 0), key(1, 4, 64)}) {
			t.Errorf("bits %d: %q", b, keys)
		}
		if again := opened(t, st, withBits(b), 1, 65); !slices.Equal(leavesOf(t, again), leaves) {
			t.Errorf("bits %d: other leaves", b)
		}
	}
}

// TestAppendInOrder_17_3: each part in which a new leaf stands is put once, the numbers rising: the power goes at each of them, and a beginning is written.
func TestAppendInOrder_17_3(t *testing.T) {
	for _, c := range []struct{ bits, scale int }{{0, 1}, {1, 1}, {2, 1}, {7, 29}, {10, 40}} {
		o := withBits(c.bits)
		part := modelOf(o).part()
		for i := range 7 {
			for j := 1; j < 11; j++ {
				before, count := i*c.scale, j*c.scale
				list := numbered(0, count)
				whole := slices.Concat(numbered(7000, before), list)
				puts := (before+count+part-1)/part - before/part
				for n := 1; n <= puts+1; n++ {
					st := store.New(1 << 20)
					e := made(t, st, o, 1)
					if before > 0 {
						appended(t, e, numbered(7000, before)...)
					}
					st.Sync()
					st.Arm(n)
					r := e.Append(list)
					if n > puts {
						if r != api.OK || e.Size() != before+count || st.Pending() != puts {
							t.Errorf("Append = %d, pending %d", r, st.Pending())
						}
						continue
					}
					if r != api.ErrDown || e.Size() != before || st.Pending() != n {
						t.Errorf("the power goes at write %d: Append = %d, Size %d, pending %d", n, r, e.Size(), st.Pending())
					}
					st.Crash("1")
					stand := whole[:min((before/part+n)*part, len(whole))]
					holds(t, st, modelOf(o, stand...).records(1))
					e = opened(t, st, o, 1, len(stand))
					if l := leavesOf(t, e); !slices.Equal(l, stand) || st.Pending() != 0 {
						t.Errorf("the power goes at write %d: %q stand", n, l)
					}
				}
			}
		}
	}
}

func TestEdges_15_6(t *testing.T) {
	for _, o := range []api.Opts{opts, {Engine: 3, Width: 3, Bits: 0}, {Engine: 3, Width: 1, Bits: 10}} {
		st := store.New(10000)
		e := made(t, st, o, 1)
		m := modelOf(o)
		ints := []int{math.MinInt, math.MinInt + 1, -1 << 62, -1 << 32, -1, 0, 1, 2, 3, 4, 5, 6, 9, 10, 11, 61, 62, 63, 64, 65, 1 << 32, 1 << 48, 1<<61 - 1, 1 << 61, 1<<62 - 1, 1 << 62, math.MaxInt - 1, math.MaxInt}
		for _, more := range [][]string{nil, {"a"}, {"b", "c", "d", "e"}} {
			if more != nil {
				appended(t, e, more...)
				m.append(more)
			}
			for _, x := range ints {
				if a, want := got(e.Leaf(x)), m.leaf(x); a != want {
					t.Errorf("Leaf(%d) = %v, want %v", x, a, want)
				}
				if a, want := got(e.Root(x)), m.root(x); a != want {
					t.Errorf("Root(%d) = %v, want %v", x, a, want)
				}
				for _, y := range ints {
					at := api.Addr{Level: x, Index: y}
					if a, want := got(e.Node(at)), m.node(at); a != want {
						t.Errorf("Node(%v) = %v, want %v", at, a, want)
					}
				}
			}
			counted(t, e, m)
			flushed(t, e)
			m.flush()
		}
	}
}

// standing is the model of a list that stands in space 1 of a store and was opened, with the roots that belong to it.
func standing(st *store.Store, o api.Opts, leaves []string) *model {
	m := modelOf(o, leaves...)
	for j := range m.unwritten {
		if data, _ := st.Get(key(1, 5, j)); data == frame(5, j, m.rootOf(j)) {
			m.roots[j] = m.rootOf(j)
		}
	}
	m.open()
	return m
}

// TestStandingList_17_4: each way in which a part may end the list, at each place.
func TestStandingList_17_4(t *testing.T) {
	o := withBits(2)
	leaves := letters(18)
	long := strings.Repeat("x", 4097)
	for part := range 5 {
		at := 4 * part
		k := key(1, 4, at)
		put := func(payload string) func(st *store.Store) {
			return func(st *store.Store) { st.Put(k, frame(4, at, payload)) }
		}
		good := partBytes("w", "x", "y", "z")
		for name, c := range map[string]struct {
			spoil func(st *store.Store)
			stand []string // the part's leaves that stand
		}{
			"not there":             {func(st *store.Store) { st.Cut(k) }, nil},
			"empty":                 {func(st *store.Store) { st.Put(k, "") }, nil},
			"rags":                  {func(st *store.Store) { st.Put(k, "rags") }, nil},
			"no frame":              {func(st *store.Store) { st.Put(k, good) }, nil},
			"a bit turned":          {func(st *store.Store) { st.Put(k, strings.Replace(frame(4, at, good), "x", "y", 1)) }, nil},
			"cut short":             {func(st *store.Store) { st.Put(k, frame(4, at, good)[:20]) }, nil},
			"another number":        {func(st *store.Store) { st.Put(k, frame(4, part+1, good)) }, nil},
			"another kind":          {func(st *store.Store) { st.Put(k, frame(5, at, good)) }, nil},
			"no bytes":              {put(""), nil},
			"another thing's bytes": {put("H\x01\x04wxyz"), nil},
			"bytes behind":          {put(good + "x"), nil},
			"bytes missing":         {put(good[:len(good)-1]), nil},
			"another spelling":      {put("L\x84\x00\x01w\x01x\x01y\x01z"), nil},
			"too long a leaf":       {put(partBytes("w", "x", long, "z")), nil},
			"no leaf":               {put(partBytes()), nil},
			"a leaf too many":       {put(partBytes("v", "w", "x", "y", "z")), nil},
			"many too many":         {put(partBytes(make([]string, 64)...)), nil},
			"one leaf":              {put(partBytes("x")), []string{"x"}},
			"an empty leaf":         {put(partBytes("")), []string{""}},
			"three leaves":          {put(partBytes("x", long[1:], "")), []string{"x", long[1:], ""}},
			"other leaves":          {put(good), []string{"w", "x", "y", "z"}},
			"as it was":             {func(st *store.Store) {}, leaves[at:min(at+4, 18)]},
		} {
			st := store.New(1 << 20)
			e := made(t, st, o, 1)
			appended(t, e, leaves...)
			flushed(t, e)
			st.Put(key(0, 4, at), frame(4, at, good))
			st.Put(key(2, 4, at), frame(4, at, good))
			c.spoil(st)
			st.Sync()
			want := slices.Concat(leaves[:at], c.stand)
			if len(c.stand) == 4 {
				want = slices.Concat(want, leaves[min(at+4, 18):])
			}
			quiet(t, st, func() {
				for _, least := range []int{len(want) + 1, 21, math.MaxInt} {
					if e, r := Open(st, o, 1, least); e != nil || r != api.ErrLost {
						t.Fatalf("%s at %d: Open(.., %d) = %d", name, at, least, r)
					}
				}
			})
			was := len(st.Keys(""))
			m := standing(st, o, want)
			for _, least := range []int{len(want), 0, -1, math.MinInt} {
				m.open()
				same(t, opened(t, st, o, 1, least), m)
			}
			left := m.records(1)
			if st.Pending() != was-len(left)-2 {
				t.Errorf("%s at %d: pending %d", name, at, st.Pending())
			}
			left[key(0, 4, at)], left[key(2, 4, at)] = frame(4, at, good), frame(4, at, good)
			holds(t, st, left)
		}
	}
}

// TestPartsOfGreatShards_17_4: a shard may have several parts; one that is not full, or is not there, ends the list within the shard.
func TestPartsOfGreatShards_17_4(t *testing.T) {
	for _, b := range []int{7, 8, 10} {
		o := withBits(b)
		leaves := numbered(0, 300)
		for part := range 5 {
			for _, stay := range []int{0, 1, 63} {
				st := store.New(1 << 20)
				e := made(t, st, o, 1)
				appended(t, e, leaves...)
				flushed(t, e)
				at := 64 * part
				stand := leaves[:min(at+stay, 300)]
				if len(stand) == at {
					st.Cut(key(1, 4, at))
				} else {
					st.Put(key(1, 4, at), frame(4, at, partBytes(stand[at:]...)))
				}
				st.Sync()
				m := standing(st, o, stand)
				e = opened(t, st, o, 1, len(stand))
				holds(t, st, m.records(1))
				if !slices.Equal(leavesOf(t, e), stand) {
					t.Fatalf("bits %d, part %d: %d leaves stand, want %d", b, part, e.Size(), len(stand))
				}
				appended(t, e, "x", "y")
				m.append([]string{"x", "y"})
				flushed(t, e)
				m.flush()
				holds(t, st, m.records(1))
				counted(t, e, m)
			}
		}
	}
}

// TestRootsThatBelong_17_5: a root's record stands just if the bytes are those of the shard as it is; else it is taken out, and the shard is unwritten.
func TestRootsThatBelong_17_5(t *testing.T) {
	for _, o := range []api.Opts{withBits(1), withBits(0), {Engine: 3, Width: 5, Bits: 2}, withBits(10)} {
		leaves := numbered(0, 11)
		full := modelOf(o, leaves...)
		for j := 0; j*full.shard() < 11; j++ {
			good := full.rootOf(j)
			count := full.count(j)
			root := good[1:]
			k := key(1, 5, j)
			for name, data := range map[string]string{
				"not there": "", "rags": "rags", "no frame": good,
				"no bytes": frame(5, j, ""), "other bytes": frame(5, j, "x"), "bytes behind": frame(5, j, good+"x"), "bytes missing": frame(5, j, good[:len(good)-1]),
				"another number": frame(5, j+1, good), "another kind": frame(4, j, good), "leaves": frame(5, j, partBytes(root)),
				"a leaf fewer": frame(5, j, rootBytes(count-1, root)), "a leaf more": frame(5, j, rootBytes(count+1, root)),
				"another root": frame(5, j, good[:len(good)-1]+string(good[len(good)-1]^1)), "no root": frame(5, j, rootBytes(count, "")),
				"another spelling": frame(5, j, string([]byte{byte(count) | 0x80, 0})+root),
				"the first leaf's": frame(5, j, rootBytes(1, cut(o.Width, "\x00other"))), "the wider root": frame(5, j, good+root),
			} {
				st := store.New(1 << 20)
				e := made(t, st, o, 1)
				appended(t, e, leaves...)
				flushed(t, e)
				st.Cut(k)
				cuts := 0
				if name != "not there" {
					st.Put(k, data)
					cuts = 1
				}
				st.Sync()
				m := standing(st, o, leaves)
				e = opened(t, st, o, 1, 11)
				holds(t, st, m.records(1))
				if st.Pending() != cuts || !m.unwritten[j] {
					t.Fatalf("%v, %s at shard %d: pending %d", o, name, j, st.Pending())
				}
				same(t, e, m)
				st.Sync()
				flushed(t, e)
				if fresh := m.flush(); !slices.Equal(fresh, []int{j}) || st.Pending() != 1 {
					t.Fatalf("%v, %s at shard %d: Flush writes %d", o, name, j, st.Pending())
				}
				holds(t, st, m.records(1))
				same(t, e, m)
			}
		}
	}
}

// TestOtherRecords_17_5: what is no part of the list and no root of a shard of it goes, the kinds and numbers rising; what is no book key, or another space's, stays.
func TestOtherRecords_17_5(t *testing.T) {
	o := api.Opts{Engine: 3, Width: 2, Bits: 2}
	m := modelOf(o, numbered(0, 18)...)
	m.flush()
	want := m.records(1)
	for _, k := range []string{key(0, 4, 9), key(2, 5, 9), key(1, 0, 0), key(1, 4, math.MinInt), key(1, 5, -1), key(1, 4, 0) + "x", key(1, 5, 0)[:17], "other"} {
		want[k] = "data of " + k
	}
	goes := []string{}
	for kind := 1; kind < 256; kind++ {
		numbers := []int{0, 1, 4, math.MaxInt}
		switch kind {
		case 4: // places at which no part begins, ones that are beyond
			numbers = []int{1, 2, 3, 5, 15, 17, 18, 19, 20, 24, 1 << 32, math.MaxInt - 3, math.MaxInt}
		case 5: // shards that are beyond, one so far that its place would wrap
			numbers = []int{5, 6, 16, 1 << 32, 1 << 60, 1 << 61, 1<<62 + 4, math.MaxInt}
		}
		for _, n := range numbers {
			goes = append(goes, key(1, kind, n))
		}
	}
	number := func(k string) int {
		n := 0
		for i := range 8 {
			n = n<<8 | int(k[10+i])
		}
		return n
	}
	data := func(k string) string {
		if k[9] == 5 {
			return frame(5, number(k), m.rootOf(0))
		}
		return frame(int(k[9]), number(k), partBytes(m.leaves[:4]...))
	}
	fill := func() *store.Store {
		st := store.New(1 << 20)
		for k, data := range want {
			st.Put(k, data)
		}
		for _, k := range goes {
			st.Put(k, data(k))
		}
		st.Sync()
		return st
	}
	st := fill()
	e := opened(t, st, o, 1, 18)
	if st.Pending() != len(goes) {
		t.Fatalf("pending %d of %d", st.Pending(), len(goes))
	}
	holds(t, st, want)
	m.open()
	same(t, e, m)
	for n := 1; n <= len(goes); n += 1 + n/8 {
		st := fill()
		st.Arm(n)
		if e, r := Open(st, o, 1, 18); e != nil || r != api.ErrDown || st.Pending() != n {
			t.Fatalf("the power goes at write %d: Open = %d", n, r)
		}
		st.Crash("1")
		rest := maps.Clone(want)
		for _, k := range goes[n:] {
			rest[k] = data(k)
		}
		holds(t, st, rest)
	}
}

// TestGrown_17_5: the record of a shard that has grown since it was written stands until the next Flush, and is taken out by an Open ahead of that.
func TestGrown_17_5(t *testing.T) {
	o := withBits(2)
	for size := 1; size < 20; size++ {
		for more := 1; more < 6; more++ {
			st := store.New(1 << 20)
			e := made(t, st, o, 1)
			m := modelOf(o)
			appended(t, e, numbered(0, size)...)
			m.append(numbered(0, size))
			flushed(t, e)
			m.flush()
			appended(t, e, numbered(size, more)...)
			m.append(numbered(size, more))
			holds(t, st, m.records(1))
			st.Sync()
			cuts := 0
			if size%4 > 0 {
				cuts = 1
			}
			e = opened(t, st, o, 1, size+more)
			m.open()
			if st.Pending() != cuts {
				t.Fatalf("%d leaves and %d: Open writes %d", size, more, st.Pending())
			}
			holds(t, st, m.records(1))
			counted(t, e, m)
			flushed(t, e)
			m.flush()
			holds(t, st, m.records(1))
			same(t, e, m)
		}
	}
}

// TestOpenedOtherwise_17_5: parts are read by the options that Open is given; roots of other widths are taken out.
func TestOpenedOtherwise_17_5(t *testing.T) {
	st := store.New(1 << 20)
	e := made(t, st, withBits(6), 1)
	appended(t, e, numbered(0, 200)...)
	flushed(t, e)
	for _, o := range []api.Opts{{Engine: 3, Width: 7, Bits: 6}, {Engine: 3, Width: 7, Bits: 8}, withBits(10), withBits(7), withBits(6)} { // all of them in parts of 64
		m := standing(st, o, numbered(0, 200))
		e := opened(t, st, o, 1, 200)
		holds(t, st, m.records(1))
		same(t, e, m)
		flushed(t, e)
		m.flush()
		holds(t, st, m.records(1))
	}
	// a part of 64 is too many for 32
	if e := opened(t, st, withBits(5), 1, 0); e.Size() != 0 || len(st.Keys("")) != 0 {
		t.Errorf("opened with parts of 32: Size %d", e.Size())
	}
	// and one of 32 ends a list in parts of 64
	appended(t, made(t, st, withBits(5), 1), numbered(0, 200)...)
	if e := opened(t, st, withBits(6), 1, 0); e.Size() != 32 || !slices.Equal(st.Keys(""), []string{key(1, 4, 0)}) {
		t.Errorf("opened with parts of 64: Size %d", e.Size())
	}
}

// TestRehash_17_6_17_7: whatever node of a dirty shard is asked for, all of the shard is made anew, once; other shards stay dirty.
func TestRehash_17_6_17_7(t *testing.T) {
	for b := 0; b <= 10; b++ {
		size := 2<<b + 1<<b/2 + 1 // two full shards, and one with some leaves
		for _, at := range []api.Addr{{Level: 0, Index: 0}, {Level: 0, Index: size - 1}, {Level: b, Index: 1}, {Level: b / 2, Index: 1<<(b-b/2) - 1}} {
			e := made(t, store.New(1<<22), withBits(b), 1)
			m := modelOf(withBits(b))
			for lo := 0; lo < size; lo += 1024 {
				list := numbered(lo, min(1024, size-lo))
				appended(t, e, list...)
				m.append(list)
			}
			counted(t, e, m)
			number := at.Index << at.Level >> b
			c := min(1<<b, size-number<<b)
			for range 3 {
				if a, want := got(e.Node(at)), m.node(at); a != want {
					t.Fatalf("bits %d: Node(%v) = %v, want %v", b, at, a, want)
				}
				if n := e.Counts().Nodes; n != c-ones(c) || n != m.nodes {
					t.Fatalf("bits %d: Node(%v) made %d, want %d", b, at, n, c-ones(c))
				}
			}
			// one leaf more: the last shard alone is dirty again, and made anew from below
			appended(t, e, "one more")
			m.append([]string{"one more"})
			counted(t, e, m)
			for _, index := range []int{0, size - 1, size, 1 << b} {
				at := api.Addr{Level: 0, Index: index}
				if a, want := got(e.Node(at)), m.node(at); a != want {
					t.Fatalf("bits %d: Node(%v) = %v, want %v", b, at, a, want)
				}
				counted(t, e, m)
			}
		}
	}
}

// TestSpine_17_7_17_12: a spine node is made of its halves when it is asked for, once; however a list grows and is asked, the spine has no more than n / S nodes.
func TestSpine_17_7_17_12(t *testing.T) {
	r := rand.New(rand.NewSource(1712))
	for b := range 4 {
		o := withBits(b)
		e := made(t, store.New(1<<22), o, 1)
		m := modelOf(o)
		for len(m.leaves) < 200 {
			list := numbered(len(m.leaves), 1+r.Intn(9))
			appended(t, e, list...)
			m.append(list)
			n := len(m.leaves)
			for range 6 {
				at := api.Addr{Level: b + 1 + r.Intn(6)}
				at.Index = r.Intn(n>>at.Level + 1)
				if a, want := got(e.Node(at)), m.node(at); a != want {
					t.Fatalf("%v: Node(%v) = %v, want %v", o, at, a, want)
				}
				counted(t, e, m)
				was := e.Counts()
				if e.Node(at); e.Counts() != was {
					t.Fatalf("%v: Node(%v) was made again", o, at)
				}
			}
			if len(e.spine) != len(m.spine) || len(e.spine) > n>>b {
				t.Fatalf("%v: a spine of %d nodes for %d leaves", o, len(e.spine), n)
			}
		}
		// all there is, once: what a tree of so many leaves has, less what lies within shards
		n := len(m.leaves)
		for level := range 9 {
			for i := range n >> level {
				at := api.Addr{Level: level, Index: i}
				if a, want := got(e.Node(at)), m.node(at); a != want {
					t.Fatalf("%v: Node(%v) = %v, want %v", o, at, a, want)
				}
			}
		}
		counted(t, e, m)
		if shards := n >> b; len(e.spine) != shards-ones(shards) {
			t.Errorf("%v: a spine of %d nodes above %d shards", o, len(e.spine), shards)
		}
	}
}

// TestSpineInOrder_17_7: a spine node that is asked for first has all dirty shards below it rehashed, and each node below it made.
func TestSpineInOrder_17_7(t *testing.T) {
	e := made(t, store.New(1<<20), withBits(2), 1)
	appended(t, e, numbered(0, 40)...)
	e.Node(api.Addr{Level: 3, Index: 1})                          // shards 2 and 3, and one
	if e.Node(api.Addr{Level: 0, Index: 1}); e.nodes != 3+3+1+3 { // shard 0
		t.Errorf("%d nodes", e.nodes)
	}
	if e.Node(api.Addr{Level: 5}); e.nodes != 10+5*3+6 { // the other five of its eight shards, six of its seven nodes
		t.Errorf("%d nodes", e.nodes)
	}
	if _, dirty := e.dirty[9]; !dirty || len(e.dirty) != 2 {
		t.Errorf("dirty are %v", e.dirty)
	}
}

// TestFlushInOrder_17_9: the numbers rise, whatever order a map has: the power goes at each write.
func TestFlushInOrder_17_9(t *testing.T) {
	o := api.Opts{Engine: 3, Width: 4, Bits: 1}
	m := modelOf(o)
	m.append(numbered(0, 45))
	numbers := m.flush()
	want := m.records(1)
	for n := 1; n <= len(numbers)+1; n++ {
		st := store.New(1 << 20)
		e := made(t, st, o, 1)
		appended(t, e, numbered(0, 45)...)
		st.Sync()
		st.Arm(n)
		r := e.Flush()
		if n > len(numbers) {
			if r != api.OK || st.Pending() != len(numbers) {
				t.Errorf("Flush = %d, pending %d", r, st.Pending())
			}
			holds(t, st, want)
			counted(t, e, m)
			continue
		}
		if r != api.ErrDown || st.Pending() != n {
			t.Fatalf("the power goes at write %d: Flush = %d, pending %d", n, r, st.Pending())
		}
		givenUp(t, st, e, 45, api.Counts{})
		st.Crash("1")
		part := maps.Clone(want)
		for _, number := range numbers[n:] {
			delete(part, key(1, 5, number))
		}
		holds(t, st, part)
		e = opened(t, st, o, 1, 45)
		flushed(t, e)
		if st.Pending() != len(numbers)-n {
			t.Errorf("opened behind write %d: Flush writes %d", n, st.Pending())
		}
		holds(t, st, want)
	}
}

// TestFlushes_17_9: each Flush writes the shards to which leaves were put since the last one, and those alone; what it makes is counted, of a shard that is not full too.
func TestFlushes_17_9(t *testing.T) {
	for b := range 5 {
		for step := 1; step < 8; step++ {
			st := store.New(1 << 20)
			e := made(t, st, withBits(b), 1)
			m := modelOf(withBits(b))
			quiet(t, st, func() { flushed(t, e) })
			for n := 0; n < 70; n += step {
				list := numbered(n, step)
				appended(t, e, list...)
				m.append(list)
				holds(t, st, m.records(1))
				if n%3 == 0 {
					e.Root(n)
					m.root(n)
				}
				st.Sync()
				flushed(t, e)
				if fresh := m.flush(); st.Pending() != len(fresh) {
					t.Fatalf("%d leaves: Flush writes %d, want %v", n+step, st.Pending(), fresh)
				}
				holds(t, st, m.records(1))
				quiet(t, st, func() { flushed(t, e) })
				counted(t, e, m)
			}
		}
	}
}

// TestFlushWithoutRoom_17_9: all unwritten roots fit, or none is written and nothing is hashed, and they stay unwritten.
func TestFlushWithoutRoom_17_9(t *testing.T) {
	for _, o := range []api.Opts{withBits(0), withBits(2), withBits(5), {Engine: 3, Width: 1, Bits: 3}, {Engine: 3, Width: 17, Bits: 8}} {
		leaves := numbered(0, 150)
		m := modelOf(o, leaves...)
		begun := counting(m.records(1))
		m.flush()
		need := counting(m.records(1)) - begun
		for slack := -need; slack <= 2; slack += 1 + min(150, max(0, -slack-3)) {
			st := store.New(begun + need + slack)
			e := made(t, st, o, 1)
			appended(t, e, leaves...)
			m := modelOf(o)
			m.append(leaves)
			if slack >= 0 {
				m.flush()
			}
			for range 2 {
				flushed(t, e)
				holds(t, st, m.records(1))
				counted(t, e, m)
			}
			same(t, e, m)
		}
		// there is room later on: those of then and those of before are written
		st := store.New(begun + need + 1000)
		st.Put("other", strings.Repeat("o", 1000))
		e := made(t, st, o, 1)
		appended(t, e, leaves...)
		m = modelOf(o)
		m.append(leaves)
		flushed(t, e)
		if len(st.Keys("")) != len(m.records(1))+1 {
			t.Error("Flush wrote what does not fit")
		}
		counted(t, e, m)
		st.Cut("other")
		appended(t, e, "x", "y", "z", "a")
		m.append([]string{"x", "y", "z", "a"})
		flushed(t, e)
		m.flush()
		holds(t, st, m.records(1))
		same(t, e, m)
	}
}

// TestFlushInPlace_17_9: a root that is written anew stands in the place of the older one: it wants no room, or one byte, where its number of leaves takes one more.
func TestFlushInPlace_17_9(t *testing.T) {
	o := withBits(8)
	for _, c := range []struct{ before, more, grows int }{{1, 1, 0}, {5, 100, 0}, {126, 1, 0}, {127, 1, 1}, {127, 129, 1}, {128, 3, 0}} {
		leaves := numbered(0, c.before+c.more)
		whole := modelOf(o, leaves...)
		whole.flush()
		need := counting(whole.records(1))
		for spare := range c.grows + 2 {
			st := store.New(need - c.grows + 100 + spare)
			e := made(t, st, o, 1)
			m := modelOf(o)
			for _, list := range [][]string{leaves[:c.before], leaves[c.before:]} {
				appended(t, e, list...)
				m.append(list)
				if len(m.roots) == 0 {
					flushed(t, e)
					m.flush()
				}
			}
			if r := st.Put("other", strings.Repeat("o", 100-21)); r != api.OK || st.Room()-st.Used() != spare {
				t.Fatalf("%v: Put = %d, there is room for %d", c, r, st.Room()-st.Used())
			}
			flushed(t, e)
			if spare >= c.grows {
				m.flush()
			}
			want := m.records(1)
			want["other"] = strings.Repeat("o", 100-21)
			holds(t, st, want)
			counted(t, e, m)
		}
	}
}

// TestFlushBehindADrop_17_9: the record of a root that has grown may be taken out by others, as damage: the next Flush writes it all the same.
func TestFlushBehindADrop_17_9(t *testing.T) {
	st := store.New(10000)
	e := made(t, st, withBits(2), 1)
	m := modelOf(withBits(2))
	for _, list := range [][]string{letters(3), letters(3)} {
		appended(t, e, list...)
		m.append(list)
		st.Cut(key(1, 5, 0))
		flushed(t, e)
		m.flush()
		holds(t, st, m.records(1))
	}
}

// TestAnswers_17_7_17_8_17_10: lists of every length, asked for all there is, with what was counted behind each call; flushed never, always, and now and then.
func TestAnswers_17_7_17_8_17_10(t *testing.T) {
	for _, o := range []api.Opts{withBits(0), withBits(1), {Engine: 3, Width: 1, Bits: 2}, {Engine: 3, Width: 20, Bits: 3}, withBits(4), {Engine: 3, Width: 2, Bits: 10}} {
		for rhythm := range 4 {
			st := store.New(1 << 20)
			e := made(t, st, o, 1)
			m := modelOf(o)
			for n := range 38 {
				quiet(t, st, func() { same(t, e, m) })
				leaf := fmt.Sprint("leaf ", n*n%7)
				appended(t, e, leaf)
				m.append([]string{leaf})
				if rhythm == 1 || rhythm > 1 && n%rhythm == 0 {
					flushed(t, e)
					m.flush()
				}
				counted(t, e, m)
			}
		}
	}
}

// TestGreatShards_17_8: shards of the greatest sizes, several of them, asked for by chance.
func TestGreatShards_17_8(t *testing.T) {
	for _, o := range []api.Opts{{Engine: 3, Width: 8, Bits: 10}, {Engine: 3, Width: 8, Bits: 6}, {Engine: 3, Width: 8, Bits: 7}} {
		st := store.New(1 << 22)
		e := made(t, st, o, 1)
		m := modelOf(o)
		r := rand.New(rand.NewSource(178))
		for _, n := range []int{63, 1, 700, 260, 1024, 300, 1000} {
			list := numbered(n, n)
			appended(t, e, list...)
			m.append(list)
			for range 50 {
				at := api.Addr{Level: r.Intn(13)}
				at.Index = r.Intn(len(m.leaves)>>at.Level + 1)
				if a, want := got(e.Node(at)), m.node(at); a != want {
					t.Fatalf("%v: Node(%v) = %v, want %v", o, at, a, want)
				}
				counted(t, e, m)
				size := r.Intn(len(m.leaves) + 1)
				if a, want := got(e.Root(size)), m.root(size); a != want {
					t.Fatalf("%v: Root(%d) = %v, want %v", o, size, a, want)
				}
				counted(t, e, m)
			}
			if r.Intn(2) == 0 {
				flushed(t, e)
				m.flush()
				counted(t, e, m)
			}
			holds(t, st, m.records(1))
		}
	}
}

// TestOpenCounts_15_8_17_5: what Open makes is not counted, no shard is dirty behind it, and the spine is empty.
func TestOpenCounts_15_8_17_5(t *testing.T) {
	for _, written := range []bool{false, true} {
		st := store.New(1 << 20)
		e := made(t, st, opts, 1)
		m := modelOf(opts, numbered(0, 50)...)
		appended(t, e, numbered(0, 50)...)
		if written {
			flushed(t, e)
			m.flush()
		}
		e.Root(49)
		st.Sync()
		e = opened(t, st, opts, 1, 50)
		m.open()
		counted(t, e, m)
		for i := range 25 {
			at := api.Addr{Level: 1, Index: i}
			if a := got(e.Node(at)); a != m.node(at) || e.Counts() != (api.Counts{}) {
				t.Fatalf("Node(%v) = %v, Counts %v", at, a, e.Counts())
			}
		}
		if e.Node(api.Addr{Level: 5}); e.Counts().Nodes != 15 {
			t.Errorf("a spine node behind Open: %v", e.Counts())
		}
		m.node(api.Addr{Level: 5})
		flushed(t, e)
		m.flush()
		same(t, e, m)
	}
}

// TestAlike_15_9_17_11: answers do not hang on the options but the width, nor on when Flush was called.
func TestAlike_15_9_17_11(t *testing.T) {
	r := rand.New(rand.NewSource(1711))
	for range 12 {
		width := 1 + r.Intn(32)
		var engines []*Engine
		for b := range 11 {
			o := api.Opts{Engine: 3, Width: width, Bundle: r.Intn(99), Height: r.Intn(99), Cache: r.Intn(99), Bits: b}
			engines = append(engines, made(t, store.New(1<<22), o, r.Intn(9)))
		}
		m := modelOf(api.Opts{Engine: 3, Width: width})
		for range 25 {
			list := numbered(r.Intn(1000), r.Intn(40))
			at := api.Addr{Level: r.Intn(10) - 1, Index: r.Intn(len(m.leaves) + 2)}
			size, place := r.Intn(len(m.leaves)+3)-1, r.Intn(len(m.leaves)+3)-1
			node, root, leaf := m.node(at), m.root(size), m.leaf(place)
			for _, e := range engines {
				if a := got(e.Node(at)); a != node {
					t.Fatalf("%v: Node(%v) = %v, want %v", e.opts, at, a, node)
				}
				if a := got(e.Root(size)); a != root {
					t.Fatalf("%v: Root(%d) = %v, want %v", e.opts, size, a, root)
				}
				if a := got(e.Leaf(place)); a != leaf {
					t.Fatalf("%v: Leaf(%d) = %v, want %v", e.opts, place, a, leaf)
				}
				if a := e.Append(list); (a == api.OK) != (len(list) > 0) || e.Size() != len(m.leaves)+len(list) {
					t.Fatalf("%v: Append of %d = %d", e.opts, len(list), a)
				}
				if r.Intn(3) == 0 {
					flushed(t, e)
				}
			}
			m.put(list)
		}
	}
}

// TestLazy_17_10_17_12: Appends make no node hash, in whatever batches, behind a Flush, a Root and an Open too.
func TestLazy_17_10_17_12(t *testing.T) {
	r := rand.New(rand.NewSource(1712))
	for b := range 11 {
		st := store.New(1 << 24)
		e := made(t, st, withBits(b), 1)
		for round := range 12 {
			was := e.Counts()
			for range 3 {
				appended(t, e, numbered(0, 1+r.Intn(200))...)
			}
			if c := e.Counts(); c != was || c.Hits != 0 || c.Misses != 0 || c.Most != 0 {
				t.Fatalf("bits %d: Counts %v, were %v", b, c, was)
			}
			switch round % 4 {
			case 1:
				e.Root(e.Size())
			case 2:
				flushed(t, e)
			case 3:
				e = opened(t, st, withBits(b), 1, e.Size())
			}
		}
	}
}

// TestByChance_15_9: scripts of calls, among them refused ones, flushes, syncs and openings anew, against the model.
func TestByChance_15_9(t *testing.T) {
	for seed := range int64(80) {
		r := rand.New(rand.NewSource(seed))
		o := api.Opts{Engine: 3, Width: 1 + r.Intn(32), Bits: r.Intn(6)}
		st := store.New(1 << 22)
		space := r.Intn(3)
		e := made(t, st, o, space)
		m := modelOf(o)
		for range 120 {
			n := len(m.leaves)
			switch r.Intn(9) {
			case 0, 1:
				var list []string
				for range r.Intn(12) {
					list = append(list, strings.Repeat(string(rune(r.Intn(256))), r.Intn(40)))
				}
				want := api.OK
				if len(list) == 0 {
					want = api.ErrEmpty
				} else if r.Intn(9) == 0 {
					list[r.Intn(len(list))] = strings.Repeat("x", 4097)
					want = api.ErrBig
				}
				if a := e.Append(list); a != want {
					t.Fatalf("seed %d: Append = %d, want %d", seed, a, want)
				}
				if want == api.OK {
					m.append(list)
				}
			case 2:
				i := r.Intn(n+3) - 1
				if a, want := got(e.Leaf(i)), m.leaf(i); a != want {
					t.Fatalf("seed %d: Leaf(%d) = %v, want %v", seed, i, a, want)
				}
			case 3, 4:
				i := r.Intn(n+3) - 1
				if a, want := got(e.Root(i)), m.root(i); a != want {
					t.Fatalf("seed %d: Root(%d) = %v, want %v", seed, i, a, want)
				}
			case 5, 6:
				level := r.Intn(9) - 1
				at := api.Addr{Level: level, Index: r.Intn(n>>max(level, 0)+2) - 1}
				if a, want := got(e.Node(at)), m.node(at); a != want {
					t.Fatalf("seed %d: Node(%v) = %v, want %v", seed, at, a, want)
				}
			case 7:
				flushed(t, e)
				m.flush()
				st.Sync()
			case 8:
				if r.Intn(4) == 0 {
					e = opened(t, st, o, space, n)
					m.open()
				}
			}
			if e.Size() != len(m.leaves) {
				t.Fatalf("seed %d: Size = %d, want %d", seed, e.Size(), len(m.leaves))
			}
			counted(t, e, m)
		}
		holds(t, st, m.records(space))
	}
}

// played is a script on a store: batches of leaves, with a Flush and a Sync behind those of which bit i of flushes and syncs is set. It ends where the power goes.
func played(st *store.Store, e *Engine, batches [][]string, flushes, syncs int) (synced, accepted, perhaps []string) {
	for i, list := range batches {
		if e.Append(list) != api.OK {
			return synced, accepted, append(slices.Clone(accepted), list...)
		}
		accepted = append(accepted, list...)
		if flushes>>i&1 == 1 && e.Flush() != api.OK {
			return synced, accepted, accepted
		}
		if syncs>>i&1 == 1 {
			if st.Sync() != api.OK {
				return synced, accepted, accepted
			}
			synced = slices.Clone(accepted)
		}
	}
	return synced, accepted, accepted
}

func begins(long, short []string) bool {
	return len(short) <= len(long) && slices.Equal(long[:len(short)], short)
}

// choices are all texts that say of so many pending writes which of them survive.
func choices(pending int) []string {
	var list []string
	for choice := range 1 << pending {
		keep := make([]byte, pending)
		for i := range keep {
			keep[i] = byte(choice >> i & 1)
		}
		list = append(list, string(keep))
	}
	return list
}

// TestABeginningSurvives_15_10: the power goes at each write, or behind all of them, with every choice of what survives; then once more while it is opened.
func TestABeginningSurvives_15_10(t *testing.T) {
	o := withBits(1)
	batches := [][]string{{"a"}, {"b", "c"}, {"d", "e"}}
	begun := func(at, flushes, syncs int) (*store.Store, *Engine, []string, []string, []string) {
		st := store.New(10000)
		st.Put(key(1, 4, 0), frame(4, 0, partBytes("older", "leaves")))
		st.Put(key(1, 4, 2), frame(4, 2, partBytes("too")))
		e := made(t, st, o, 1)
		st.Sync()
		st.Arm(at)
		synced, accepted, perhaps := played(st, e, batches, flushes, syncs)
		return st, e, synced, accepted, perhaps
	}
	for _, flushes := range []int{0, 2, 4, 7} {
		for syncs := range 8 {
			for at := range 14 {
				st, _, _, _, _ := begun(at, flushes, syncs)
				for _, keep := range choices(st.Pending()) {
					st, e, synced, accepted, perhaps := begun(at, flushes, syncs)
					counts := e.Counts()
					st.Crash(keep)
					givenUp(t, st, e, len(accepted), counts)
					was := st.Image()
					e = opened(t, st, o, 1, len(synced))
					found := leavesOf(t, e)
					if !begins(found, synced) || !begins(perhaps, found) {
						t.Fatalf("flushes %b, syncs %b, power at %d, kept %q: %q stand of %q, synced were %q", flushes, syncs, at, keep, found, perhaps, synced)
					}
					cutAgain(t, was, o, found)
					if st.Sync() != api.OK {
						t.Fatal("Sync")
					}
					quiet(t, st, func() {
						if l := leavesOf(t, opened(t, st, o, 1, 0)); !slices.Equal(l, found) {
							t.Fatalf("opened once more: %q, were %q", l, found)
						}
					})
					appended(t, e, "x")
					flushed(t, e)
					st.Crash("1")
					m := modelOf(o, append(found, "x")...)
					m.flush()
					holds(t, st, m.records(1))
				}
			}
		}
	}
}

// cutAgain opens what an image holds with the power going at each write of Open, and keeping some of them: the list is found all the same.
func cutAgain(t *testing.T, image string, o api.Opts, want []string) {
	t.Helper()
	for at := 1; ; at++ {
		for _, keep := range []string{"", "1", "10", "01"} {
			st, _ := store.Open(image, 10000)
			st.Arm(at)
			e, r := Open(st, o, 1, len(want))
			if r == api.OK {
				return
			}
			if r != api.ErrDown || e != nil {
				t.Fatalf("the power goes at write %d of Open: %d", at, r)
			}
			st.Crash(keep)
			if l := leavesOf(t, opened(t, st, o, 1, 0)); !slices.Equal(l, want) {
				t.Fatalf("the power went at write %d of Open: %q stand, were %q", at, l, want)
			}
		}
	}
}

// TestByChance_15_10: longer scripts, cut, opened and gone on with.
func TestByChance_15_10(t *testing.T) {
	for seed := range int64(200) {
		r := rand.New(rand.NewSource(seed))
		o := api.Opts{Engine: 3, Width: 1 + r.Intn(32), Bits: r.Intn(5)}
		st := store.New(1 << 20)
		e := made(t, st, o, 1)
		st.Sync()
		var before []string
		for range 6 {
			var batches [][]string
			for range r.Intn(8) {
				var list []string
				for range 1 + r.Intn(6) {
					list = append(list, fmt.Sprint(seed, r.Intn(1000)))
				}
				batches = append(batches, list)
			}
			if r.Intn(3) > 0 {
				st.Arm(1 + r.Intn(30))
			}
			synced, _, perhaps := played(st, e, batches, r.Intn(256), r.Intn(256))
			keep := make([]byte, r.Intn(20))
			r.Read(keep)
			st.Crash(string(keep))
			e = opened(t, st, o, 1, len(before)+len(synced))
			found := leavesOf(t, e)
			if !begins(found, append(slices.Clone(before), synced...)) || !begins(append(slices.Clone(before), perhaps...), found) {
				t.Fatalf("seed %d: %q stand of %q, behind %q", seed, found, perhaps, before)
			}
			m := standing(st, o, found)
			holds(t, st, m.records(1))
			st.Sync()
			same(t, e, m)
			before = found
		}
	}
}

// TestAnotherFuture_17_5: the root of leaves that were lost does not stand for the leaves that came in their place.
func TestAnotherFuture_17_5(t *testing.T) {
	o := withBits(2)
	st := store.New(10000)
	e := made(t, st, o, 1)
	appended(t, e, letters(3)...)
	st.Sync()
	appended(t, e, "lost")
	flushed(t, e)
	st.Crash("\x00\x01") // the root survives, the leaf does not
	if _, r := st.Get(key(1, 5, 0)); r != api.OK {
		t.Fatal("no root")
	}
	e = opened(t, st, o, 1, 3) // not synced: the Cut of the root may be lost yet
	appended(t, e, "D")
	st.Crash("\x00\x01")
	if _, r := st.Get(key(1, 5, 0)); r != api.OK {
		t.Fatal("no root")
	}
	e = opened(t, st, o, 1, 4)
	m := modelOf(o, letters(4)...)
	holds(t, st, m.records(1))
	same(t, e, m)
	flushed(t, e)
	m.flush()
	holds(t, st, m.records(1))
}

// TestMemory_R4: what is handed in is neither changed nor kept.
func TestMemory_R4(t *testing.T) {
	o := withBits(2)
	st := store.New(10000)
	e := made(t, st, o, 1)
	bytes := []byte("abcdef")
	list := []string{unsafe.String(&bytes[0], 2), unsafe.String(&bytes[2], 2), unsafe.String(&bytes[4], 2), "spare", "room"}
	appended(t, e, list[:3]...)
	if list[3] != "spare" || list[4] != "room" || string(bytes) != "abcdef" {
		t.Errorf("Append changed its list: %q", list)
	}
	copy(bytes, "XXXXXX")
	list[0], list[1] = "other", "leaves"
	appended(t, e, "gh") // the part is written anew
	m := modelOf(o)
	m.append([]string{"ab", "cd", "ef", "gh"})
	same(t, e, m)
	flushed(t, e)
	m.flush()
	holds(t, st, m.records(1))
}

// TestGoesOnBehindAWipe: an engine whose records were taken out tells the leaves that it told and goes on behind the last one, as a move that found no room asks for.
func TestGoesOnBehindAWipe(t *testing.T) {
	o := withBits(2)
	for _, written := range []bool{false, true} {
		st := store.New(10000)
		e := made(t, st, o, 1)
		m := modelOf(o)
		appended(t, e, letters(6)...)
		m.append(letters(6))
		if written {
			flushed(t, e)
			m.flush()
		}
		for _, k := range st.Keys("") {
			st.Cut(k)
		}
		same(t, e, m)
		appended(t, e, "G")
		m.append([]string{"G"})
		same(t, e, m)
		flushed(t, e)
		m.flush()
		counted(t, e, m)
		if data, _ := st.Get(key(1, 4, 4)); data != frame(4, 4, partBytes("E", "F", "G")) {
			t.Errorf("part 1 is %q", data)
		}
		if data, _ := st.Get(key(1, 5, 1)); data != frame(5, 1, m.roots[1]) {
			t.Errorf("the root of shard 1 is %q", data)
		}
	}
}

// TestLongLists: so many leaves that a look at all of them for each one that is appended would be seen.
func TestLongLists(t *testing.T) {
	for _, o := range []api.Opts{withBits(10), withBits(0), withBits(6)} {
		st := store.New(1 << 27)
		e := made(t, st, o, 1)
		for b := range 20 {
			appended(t, e, numbered(1024*b, 1024)...)
			flushed(t, e)
		}
		m := modelOf(o, numbered(0, 20480)...)
		st.Sync()
		again := opened(t, st, o, 1, 20480)
		if st.Pending() != 0 {
			t.Errorf("Open wrote %d", st.Pending())
		}
		for _, n := range []int{20480, 20479, 12345, 1} {
			want := m.root(n)
			for _, x := range []*Engine{e, again} {
				if a := got(x.Root(n)); a != want {
					t.Errorf("Root(%d) = %v", n, a)
				}
				if a := got(x.Leaf(n - 1)); a != m.leaf(n-1) {
					t.Errorf("Leaf(%d) = %v", n-1, a)
				}
			}
		}
	}
}
