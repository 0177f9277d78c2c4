package tiled

import (
	"fmt"
	"maps"
	"math"
	"math/rand"
	"slices"
	"strings"
	"testing"
	"unsafe"

	"annals/api"
	"annals/store"
)

var opts = api.Opts{Engine: 2, Width: 32, Bundle: 4, Height: 2, Cache: 1}

// counting is what records count in a store.
func counting(records map[string]string) int {
	sum := 0
	for k, data := range records {
		sum += len(k) + len(data) + 16
	}
	return sum
}

// TestExamples: the chapter's table, line by line.
func TestExamples(t *testing.T) {
	st := store.New(100000)
	for _, o := range []api.Opts{{Engine: 2, Width: 32, Bundle: 65, Height: 2, Cache: 1}, {Engine: 2, Width: 32, Bundle: 4, Height: 9, Cache: 1}, {Engine: 2, Width: 32, Bundle: 4, Height: 2, Cache: 4097}, {Engine: 1, Width: 32, Bundle: 4, Height: 2, Cache: 1}} {
		if e, r := Make(st, o, 1); e != nil || r != api.ErrOpts {
			t.Errorf("Make(%v) = %d", o, r)
		}
	}
	e := made(t, st, opts, 1)
	appended(t, e, "A", "B", "C")
	appended(t, e, "D", "E")
	holds(t, st, map[string]string{key(1, 2, 0): frame(2, 0, bundleBytes("A", "B", "C", "D")), key(1, 2, 1): frame(2, 1, bundleBytes("E"))})
	counts := func(where string, nodes, hits, misses, most int) {
		t.Helper()
		if c := e.Counts(); c != (api.Counts{Nodes: nodes, Hits: hits, Misses: misses, Most: most}) {
			t.Errorf("%s: %v, want %d, %d, %d, %d", where, c, nodes, hits, misses, most)
		}
	}
	m := modelOf(opts, letters(5)...)
	counts("five leaves", 3, 0, 0, 0)
	if a := got(e.Root(5)); a != m.root(5) {
		t.Errorf("Root(5) = %v", a)
	}
	counts("Root(5)", 4, 0, 0, 0)
	node := func(level, index int, want string) {
		t.Helper()
		if a := got(e.Node(api.Addr{Level: level, Index: index})); a != (answer{want, 0}) {
			t.Errorf("Node({%d, %d}) = %v", level, index, a)
		}
	}
	node(0, 1, cut(32, "\x00B"))
	node(1, 0, cut(32, "\x01", cut(32, "\x00A"), cut(32, "\x00B")))
	node(2, 0, m.levels[2][0])
	counts("rows in memory", 5, 0, 0, 0)
	was := st.Pending()
	flushed(t, e)
	if data, _ := st.Get(key(1, 3, 0)); st.Pending() != was+1 || data != frame(3, 0, rowBytes(32, m.levels[0][:4]...)) {
		t.Errorf("behind Flush: pending %d, tile 0 is %q", st.Pending()-was, data)
	}
	node(0, 1, m.levels[0][1])
	node(0, 2, m.levels[0][2])
	node(1, 1, m.levels[1][1])
	counts("a written tile", 6, 2, 1, 1)
	if a := got(e.Root(4)); a != m.root(4) {
		t.Errorf("Root(4) = %v", a)
	}
	counts("Root(4)", 6, 2, 1, 1)
	appended(t, e, "F", "G", "H")
	flushed(t, e)
	m = modelOf(opts, letters(8)...)
	node(0, 4, m.levels[0][4])
	node(0, 0, m.levels[0][0])
	counts("a cache of one", 6+3-1+2, 2, 3, 1)
	st.Sync()
	appended(t, e, "I")
	st.Crash("")
	e = opened(t, st, opts, 1, 0)
	m.flush()
	if e.Size() != 8 || st.Pending() != 0 {
		t.Errorf("behind a cut: Size %d, pending %d", e.Size(), st.Pending())
	}
	holds(t, st, m.records(1))
	st.Put(key(1, 3, 0), frame(3, 0, "x"))
	e = opened(t, st, opts, 1, 8)
	if _, r := st.Get(key(1, 3, 0)); r != api.ErrNone {
		t.Errorf("a spoilt tile stands: %d", r)
	}
	flushed(t, e)
	holds(t, st, m.records(1))
	st.Put(key(1, 2, 0), "spoilt")
	quiet(t, st, func() {
		if e, r := Open(st, opts, 1, 1); e != nil || r != api.ErrLost {
			t.Errorf("Open where bundle 0 is spoilt, with least 1: %d", r)
		}
	})
	if e := opened(t, st, opts, 1, 0); e.Size() != 0 || len(st.Keys("")) != 0 {
		t.Errorf("Open where bundle 0 is spoilt: Size %d, records %q", e.Size(), st.Keys(""))
	}
}

func TestOptions_15_1_16_1(t *testing.T) {
	edges := []int{math.MinInt, -1, 0, 1, 2, 3, 7, 8, 9, 31, 32, 33, 63, 64, 65, 256, 257, 4095, 4096, 4097, 1 << 32, 1<<32 + 2, math.MaxInt}
	bounds := []struct {
		set         func(o *api.Opts, v int)
		least, most int
	}{
		{func(o *api.Opts, v int) { o.Engine = v }, 2, 2},
		{func(o *api.Opts, v int) { o.Width = v }, 1, 32},
		{func(o *api.Opts, v int) { o.Bundle = v }, 1, 64},
		{func(o *api.Opts, v int) { o.Height = v }, 1, 8},
		{func(o *api.Opts, v int) { o.Cache = v }, 0, 4096},
		{func(o *api.Opts, v int) { o.Bits = v }, math.MinInt, math.MaxInt},
	}
	for i, one := range bounds {
		for _, two := range bounds[i:] {
			for _, v := range edges {
				for _, u := range edges {
					o := opts
					one.set(&o, v)
					two.set(&o, u)
					want := api.ErrOpts
					if one.least == two.least && one.most == two.most { // one field alone: the second value counts
						if two.least <= u && u <= two.most {
							want = api.OK
						}
					} else if one.least <= v && v <= one.most && two.least <= u && u <= two.most {
						want = api.OK
					}
					st := store.New(0)
					if e, r := Make(st, o, 1); r != want || (e != nil) != (r == api.OK) {
						t.Fatalf("Make(%v) = %d, want %d", o, r, want)
					}
					if e, r := Open(st, o, 1, 0); r != want || (e != nil) != (r == api.OK) {
						t.Fatalf("Open(%v) = %d, want %d", o, r, want)
					}
				}
			}
		}
	}
}

// TestRefusalsInOrder_15_3_15_4: whichever refusals apply together, the first one counts, and nothing is written.
func TestRefusalsInOrder_15_3_15_4(t *testing.T) {
	wrong := api.Opts{Engine: 2, Width: 32, Bundle: 4, Height: 0, Cache: 1}
	for _, o := range []api.Opts{opts, wrong} {
		for _, space := range []int{0, 1, math.MaxInt, -1, math.MinInt} {
			for _, down := range []bool{false, true} {
				for _, least := range []int{0, 5, 6, math.MaxInt, math.MinInt} {
					st := store.New(10000)
					for k, data := range modelOf(opts, letters(5)...).records(max(space, 0)) {
						st.Put(k, data)
					}
					if down {
						st.Arm(1)
					}
					st.Sync()
					want := api.OK
					switch {
					case o == wrong:
						want = api.ErrOpts
					case space < 0:
						want = api.ErrRange
					case down:
						want = api.ErrDown
					case least > 5:
						want = api.ErrLost
					}
					quiet(t, st, func() {
						if e, r := Open(st, o, space, least); r != want || (e != nil) != (r == api.OK) {
							t.Errorf("Open(%v, %d, %d) with the power off %v: %d, want %d", o, space, least, down, r, want)
						}
					})
					if want == api.ErrLost {
						want = api.OK
					}
					was := all(st)
					e, r := Make(st, o, space)
					if r != want || (e != nil) != (r == api.OK) || r != api.OK && all(st) != was {
						t.Errorf("Make(%v, %d) with the power off %v: %d, want %d", o, space, down, r, want)
					}
				}
			}
		}
	}
	for _, take := range []func() (*Engine, api.Errno){
		func() (*Engine, api.Errno) { return Make(nil, opts, 1) },
		func() (*Engine, api.Errno) { return Open(nil, opts, 1, 0) },
	} {
		if e, r := take(); e != nil || r != api.ErrDown {
			t.Errorf("without a store: %v, %d", e, r)
		}
	}
}

func TestMake_15_3(t *testing.T) {
	fill := func() *store.Store {
		st := store.New(10000)
		for _, k := range []string{key(4, 2, 0), key(5, 2, 0), key(5, 3, 3), key(5, 255, 9), key(5, 2, 0) + "x", key(6, 2, 0), "other"} {
			st.Put(k, frame(2, 0, bundleBytes("A")))
		}
		st.Sync()
		return st
	}
	st := fill()
	e := made(t, st, opts, 5)
	if !slices.Equal(st.Keys(""), []string{key(4, 2, 0), key(6, 2, 0), "other"}) || st.Pending() != 4 {
		t.Errorf("behind Make: %q, pending %d", st.Keys(""), st.Pending())
	}
	same(t, e, modelOf(opts))
	for n := 1; n <= 5; n++ {
		st := fill()
		st.Arm(n)
		want := api.ErrDown
		if n == 5 {
			want = api.OK
		}
		if e, r := Make(st, opts, 5); r != want || (e == nil) != (n < 5) || st.Pending() != min(n, 4) {
			t.Errorf("the power goes at write %d: Make = %d, pending %d", n, r, st.Pending())
		}
	}
	// two engines in two spaces know nothing of one another
	narrow := api.Opts{Engine: 2, Width: 5, Bundle: 1, Height: 1}
	a, b := made(t, st, opts, 0), made(t, st, narrow, math.MaxInt)
	appended(t, a, letters(9)...)
	appended(t, b, "x", "y", "z")
	flushed(t, a)
	flushed(t, b)
	other := modelOf(narrow, "x", "y", "z")
	other.flush()
	made(t, st, opts, 0)
	same(t, opened(t, st, narrow, math.MaxInt, 3), other)
	same(t, opened(t, st, opts, 0, 0), modelOf(opts))
}

// asks are all calls that answer an Errno, with inputs that go and such as are refused.
func asks(e *Engine) map[string]answer {
	long := strings.Repeat("x", 4097)
	return map[string]answer{
		"Append":        got("", e.Append([]string{"new"})),
		"Append none":   got("", e.Append(nil)),
		"Append many":   got("", e.Append(make([]string, 1025))),
		"Append big":    got("", e.Append([]string{long})),
		"Leaf(0)":       got(e.Leaf(0)),
		"Leaf(-1)":      got(e.Leaf(-1)),
		"Leaf(1000)":    got(e.Leaf(1000)),
		"Node({0, 0})":  got(e.Node(api.Addr{})),
		"Node({1, 0})":  got(e.Node(api.Addr{Level: 1})),
		"Node({-1, 0})": got(e.Node(api.Addr{Level: -1})),
		"Node({9, 9})":  got(e.Node(api.Addr{Level: 9, Index: 9})),
		"Root(0)":       got(e.Root(0)),
		"Root(3)":       got(e.Root(3)),
		"Root(-1)":      got(e.Root(-1)),
		"Flush":         got("", e.Flush()),
	}
}

// givenUp looks whether an engine is given up, and tells what it told.
func givenUp(t *testing.T, st *store.Store, e *Engine, size int, counts api.Counts) {
	t.Helper()
	quiet(t, st, func() {
		for call, a := range asks(e) {
			if a != (answer{"", api.ErrDown}) {
				t.Errorf("given up, and %s = %v", call, a)
			}
		}
	})
	if e.Size() != size || e.Counts() != counts {
		t.Errorf("given up: Size %d, Counts %v, want %d, %v", e.Size(), e.Counts(), size, counts)
	}
}

// TestGivenUp_15_2: in whichever way the power goes, asked for ahead of that or not. What is told then is what a twin tells to which the same was done, but for the power.
func TestGivenUp_15_2(t *testing.T) {
	ways := map[string]func(st *store.Store, e *Engine){
		"a cut with the power on": func(st *store.Store, e *Engine) { st.Crash("1") },
		"two cuts":                func(st *store.Store, e *Engine) { st.Crash("1"); st.Crash("") },
		"a Sync":                  func(st *store.Store, e *Engine) { st.Arm(1); st.Sync() },
		"another's write":         func(st *store.Store, e *Engine) { st.Arm(1); st.Put("other", "") },
		"a Sync, then a cut":      func(st *store.Store, e *Engine) { st.Arm(1); st.Sync(); st.Crash("1") },
		"an Append":               func(st *store.Store, e *Engine) { st.Arm(1); e.Append(letters(9)) },
		"an Append's last write":  func(st *store.Store, e *Engine) { st.Arm(3); e.Append(letters(9)) },
		"an Append, then a cut":   func(st *store.Store, e *Engine) { st.Arm(1); e.Append(letters(9)); st.Crash("1") },
		"a Flush":                 func(st *store.Store, e *Engine) { st.Arm(1); e.Flush() },
		"a Flush's last write":    func(st *store.Store, e *Engine) { st.Arm(5); e.Flush() },
		"a Flush, then a cut":     func(st *store.Store, e *Engine) { st.Arm(2); e.Flush(); st.Crash("1") },
		"a Leaf, then a cut":      func(st *store.Store, e *Engine) { st.Arm(1); st.Sync(); e.Leaf(0); st.Crash("") },
	}
	o := api.Opts{Engine: 2, Width: 32, Bundle: 4, Height: 1, Cache: 2}
	for way, goes := range ways {
		for _, asked := range []bool{false, true} {
			ahead := func() (*store.Store, *Engine) {
				st := store.New(100000)
				st.Crash("")
				e := made(t, st, o, 1)
				appended(t, e, letters(4)...)
				if asked {
					asks(e) // appends a fifth leaf, and flushes
					asks(e) // a sixth; now tiles are asked of the cache
				}
				appended(t, e, letters(7)...)
				if asked {
					e.Root(9)
					e.Size()
					e.Counts()
				}
				return st, e
			}
			_, twin := ahead()
			size, counts := twin.Size(), twin.Counts()
			if asked != (counts.Hits > 0) {
				t.Fatalf("asked %v: %v", asked, counts)
			}
			t.Run(way, func(t *testing.T) {
				st, e := ahead()
				goes(st, e)
				givenUp(t, st, e, size, counts)
				givenUp(t, st, e, size, counts)
				st.Crash("1")
				givenUp(t, st, e, size, counts)
				again := opened(t, st, o, 1, 0)
				st.Sync()
				givenUp(t, st, e, size, counts)
				appended(t, again, "w")
				givenUp(t, st, e, size, counts)
			})
		}
	}
}

// TestOthersStand_15_2: what another engine, or a refusal other than ErrDown, does gives nothing up.
func TestOthersStand_15_2(t *testing.T) {
	st := store.New(5000)
	e := made(t, st, opts, 1)
	m := modelOf(opts)
	appended(t, e, letters(5)...)
	m.append(letters(5))
	st.Arm(100)
	for range 3 {
		for _, list := range [][]string{nil, make([]string, 1025), {strings.Repeat("x", 4097)}, {strings.Repeat("x", 4096), strings.Repeat("x", 4096)}} {
			if r := e.Append(list); r == api.OK {
				t.Errorf("Append of %d leaves = %d", len(list), r)
			}
		}
		e.Leaf(5)
		e.Node(api.Addr{Level: 70})
		e.Node(api.Addr{Level: 3})
		e.Root(6)
	}
	st.Sync()
	made(t, st, opts, 2)
	Open(st, opts, 3, 9)
	same(t, e, m)
	appended(t, e, "F")
	m.append([]string{"F"})
	same(t, e, m)
}

func TestNone(t *testing.T) {
	for _, e := range []*Engine{nil, {}} {
		for call, a := range asks(e) {
			if a != (answer{"", api.ErrDown}) {
				t.Errorf("no engine, and %s = %v", call, a)
			}
		}
		if e.Size() != 0 || e.Counts() != (api.Counts{}) {
			t.Error("no engine tells of leaves")
		}
	}
}

// TestAppendRefusalsInOrder_15_5: whichever apply together, the first one counts, and all is as it was.
func TestAppendRefusalsInOrder_15_5(t *testing.T) {
	begun := counting(modelOf(opts, "A", "B").records(1))
	for _, down := range []bool{false, true} {
		for _, count := range []int{0, 1, 2, 1024, 1025, 3000} {
			for _, length := range []int{0, 4096, 4097, 100000} {
				for _, room := range []int{0, 60, 1 << 24} {
					st := store.New(begun + room)
					e := made(t, st, opts, 1)
					appended(t, e, "A", "B")
					counts := e.Counts()
					if down {
						st.Arm(1)
						st.Sync()
					}
					list := make([]string, count)
					if count > 0 {
						list[count/2] = strings.Repeat("x", length)
					}
					grown := modelOf(opts, slices.Concat(letters(2), list)...).records(1)
					want := api.OK
					switch {
					case down:
						want = api.ErrDown
					case count == 0:
						want = api.ErrEmpty
					case count > 1024:
						want = api.ErrMany
					case length > 4096:
						want = api.ErrBig
					case counting(grown) > begun+room:
						want = api.ErrFull
					}
					was := all(st)
					r := e.Append(list)
					if r != want {
						t.Errorf("power off %v, %d leaves, one of %d bytes, room for %d: Append = %d, want %d", down, count, length, room, r, want)
					}
					if want == api.OK {
						holds(t, st, grown)
						continue
					}
					if all(st) != was || e.Size() != 2 || e.Counts() != counts {
						t.Errorf("Append = %d, and not all is as it was", r)
					}
					if !down && !slices.Equal(leavesOf(t, e), letters(2)) {
						t.Error("other leaves")
					}
				}
			}
		}
	}
}

// TestFull_15_5_16_3: just what fits is taken, all of a batch or nothing: a bundle that grows makes room for itself.
func TestFull_15_5_16_3(t *testing.T) {
	for _, before := range []int{0, 1, 3, 4, 5, 8} {
		for _, lengths := range [][]int{{0}, {1}, {5, 0, 7}, {4096}, {100, 4096, 3}, {0, 0, 0, 0, 0, 0}, {127, 128, 129, 1, 2, 3, 4, 5, 6}} {
			var list []string
			for i, n := range lengths {
				list = append(list, strings.Repeat(string(rune('a'+i)), n))
			}
			grown := modelOf(opts, slices.Concat(letters(before), list)...)
			begun := counting(modelOf(opts, letters(before)...).records(7))
			need := counting(grown.records(7))
			for slack := begun - need; slack <= 3; slack += 1 + (need-begun)/97*min(1, max(0, -3-slack)) {
				st := store.New(need + 100 + slack)
				st.Put("other", strings.Repeat("o", 100-21))
				e := made(t, st, opts, 7)
				if before > 0 {
					appended(t, e, letters(before)...)
				}
				was := all(st)
				r := e.Append(list)
				if slack < 0 {
					if r != api.ErrFull || all(st) != was || e.Size() != before {
						t.Fatalf("%v behind %d with %d to spare: Append = %d, Size %d", lengths, before, slack, r, e.Size())
					}
					continue
				}
				if r != api.OK || st.Used() != 100+need || e.Size() != before+len(list) {
					t.Fatalf("%v behind %d with %d to spare: Append = %d, Used %d", lengths, before, slack, r, st.Used())
				}
			}
		}
	}
}

// TestFullBehindACut_15_5: a store may be above its room; nothing goes then, and what is there is told.
func TestFullBehindACut_15_5(t *testing.T) {
	st := store.New(10000)
	e := made(t, st, opts, 1)
	appended(t, e, letters(9)...)
	flushed(t, e)
	st.Sync()
	small, _ := store.Open(st.Image(), 100)
	e = opened(t, small, opts, 1, 9)
	quiet(t, small, func() {
		if r := e.Append([]string{""}); r != api.ErrFull {
			t.Errorf("a store above its room: Append = %d", r)
		}
		flushed(t, e)
		m := modelOf(opts, letters(9)...)
		m.flush()
		same(t, e, m)
	})
}

// TestRecords_16_2: of lists of all lengths, in bundles and tiles of all kinds, appended and flushed in all rhythms.
func TestRecords_16_2(t *testing.T) {
	r := rand.New(rand.NewSource(162))
	for _, space := range []int{0, 1, 300, 1 << 40, math.MaxInt} {
		for _, bundle := range []int{1, 2, 3, 5, 16, 63, 64} {
			for height := 1; height <= 8; height++ {
				o := api.Opts{Engine: 2, Width: 1 + r.Intn(32), Bundle: bundle, Height: height, Cache: r.Intn(5)}
				st := store.New(1 << 20)
				e := made(t, st, o, space)
				m := modelOf(o)
				for _, list := range [][]string{{"", "a"}, {"\x00"}, {"\xa5", "a", bundleBytes("a"), frame(2, 0, "a")}, {strings.Repeat("\xff", 4096)}, numbered(0, r.Intn(500)+1), numbered(7, r.Intn(70)+1)} {
					appended(t, e, list...)
					m.append(list)
					if r.Intn(2) == 0 {
						flushed(t, e)
						m.flush()
					}
					holds(t, st, m.records(space))
				}
				if st.Used() != counting(m.records(space)) {
					t.Errorf("Used %d, want %d", st.Used(), counting(m.records(space)))
				}
				counted(t, e, m)
			}
		}
	}
}

// TestAppendInOrder_16_3: each bundle in which a new leaf stands is put once, the numbers rising: the power goes at each of them, and a beginning is written.
func TestAppendInOrder_16_3(t *testing.T) {
	o := api.Opts{Engine: 2, Width: 32, Bundle: 3, Height: 1, Cache: 1}
	for before := range 7 {
		for count := 1; count < 11; count++ {
			list := numbered(0, count)
			whole := slices.Concat(letters(before), list)
			puts := (before+count+2)/3 - before/3
			for n := 1; n <= puts+1; n++ {
				st := store.New(10000)
				e := made(t, st, o, 1)
				if before > 0 {
					appended(t, e, letters(before)...)
				}
				st.Sync()
				st.Arm(n)
				r := e.Append(list)
				if n > puts {
					if r != api.OK || e.Size() != before+count || st.Pending() != puts {
						t.Errorf("Append = %d, pending %d", r, st.Pending())
					}
					continue
				}
				if r != api.ErrDown || e.Size() != before || st.Pending() != n {
					t.Errorf("the power goes at write %d: Append = %d, Size %d, pending %d", n, r, e.Size(), st.Pending())
				}
				st.Crash("1")
				stand := whole[:min((before/3+n)*3, len(whole))]
				holds(t, st, modelOf(o, stand...).records(1))
				e = opened(t, st, o, 1, len(stand))
				if l := leavesOf(t, e); !slices.Equal(l, stand) || st.Pending() != 0 {
					t.Errorf("the power goes at write %d: %q stand", n, l)
				}
			}
		}
	}
}

func TestEdges_15_6(t *testing.T) {
	for _, o := range []api.Opts{opts, {Engine: 2, Width: 3, Bundle: 1, Height: 8, Cache: 0}, {Engine: 2, Width: 1, Bundle: 64, Height: 1, Cache: 4096}} {
		st := store.New(10000)
		e := made(t, st, o, 1)
		m := modelOf(o)
		ints := []int{math.MinInt, math.MinInt + 1, -1 << 62, -1 << 32, -1, 0, 1, 2, 3, 4, 5, 6, 61, 62, 63, 64, 65, 1 << 32, 1 << 48, 1<<61 - 1, 1 << 61, 1<<62 - 1, 1 << 62, math.MaxInt - 1, math.MaxInt}
		for _, more := range [][]string{nil, {"a"}, {"b", "c", "d", "e"}} {
			if more != nil {
				appended(t, e, more...)
				m.append(more)
			}
			for _, x := range ints {
				if a, want := got(e.Leaf(x)), m.leaf(x); a != want {
					t.Errorf("Leaf(%d) = %v, want %v", x, a, want)
				}
				if a, want := got(e.Root(x)), m.root(x); a != want {
					t.Errorf("Root(%d) = %v, want %v", x, a, want)
				}
				for _, y := range ints {
					at := api.Addr{Level: x, Index: y}
					if a, want := got(e.Node(at)), m.node(at); a != want {
						t.Errorf("Node(%v) = %v, want %v", at, a, want)
					}
				}
			}
			counted(t, e, m)
			flushed(t, e)
			m.flush()
		}
	}
}

// TestStandingList_16_4: each way in which a bundle may end the list, at each place.
func TestStandingList_16_4(t *testing.T) {
	o := api.Opts{Engine: 2, Width: 32, Bundle: 3, Height: 1, Cache: 2}
	leaves := letters(14)
	long := strings.Repeat("x", 4097)
	for at := range 5 {
		k := key(1, 2, at)
		put := func(payload string) func(st *store.Store) {
			return func(st *store.Store) { st.Put(k, frame(2, at, payload)) }
		}
		good := bundleBytes("x", "y", "z")
		for name, c := range map[string]struct {
			spoil func(st *store.Store)
			stand []string // the bundle's leaves that stand
		}{
			"not there":             {func(st *store.Store) { st.Cut(k) }, nil},
			"empty":                 {func(st *store.Store) { st.Put(k, "") }, nil},
			"rags":                  {func(st *store.Store) { st.Put(k, "rags") }, nil},
			"no frame":              {func(st *store.Store) { st.Put(k, good) }, nil},
			"a bit turned":          {func(st *store.Store) { st.Put(k, strings.Replace(frame(2, at, good), "x", "y", 1)) }, nil},
			"cut short":             {func(st *store.Store) { st.Put(k, frame(2, at, good)[:20]) }, nil},
			"another number":        {func(st *store.Store) { st.Put(k, frame(2, at+1, good)) }, nil},
			"another kind":          {func(st *store.Store) { st.Put(k, frame(3, at, good)) }, nil},
			"no bytes":              {put(""), nil},
			"another thing's bytes": {put(rowBytes(1, "x", "y", "z")), nil},
			"bytes behind":          {put(good + "x"), nil},
			"bytes missing":         {put(good[:len(good)-1]), nil},
			"another spelling":      {put("L\x83\x00\x01x\x01y\x01z"), nil},
			"too long a leaf":       {put(bundleBytes("x", long, "z")), nil},
			"no leaf":               {put(bundleBytes()), nil},
			"a leaf too many":       {put(bundleBytes("w", "x", "y", "z")), nil},
			"many too many":         {put(bundleBytes(make([]string, 64)...)), nil},
			"one leaf":              {put(bundleBytes("x")), []string{"x"}},
			"an empty leaf":         {put(bundleBytes("")), []string{""}},
			"two leaves":            {put(bundleBytes("x", long[1:])), []string{"x", long[1:]}},
			"other leaves":          {put(good), []string{"x", "y", "z"}},
			"as it was":             {func(st *store.Store) {}, leaves[3*at : min(3*at+3, 14)]},
		} {
			st := store.New(1 << 20)
			e := made(t, st, o, 1)
			appended(t, e, leaves...)
			flushed(t, e)
			st.Put(key(0, 2, at), frame(2, at, good))
			st.Put(key(2, 2, at), frame(2, at, good))
			c.spoil(st)
			st.Sync()
			want := slices.Concat(leaves[:3*at], c.stand)
			if len(c.stand) == 3 {
				want = slices.Concat(want, leaves[min(3*at+3, 14):])
			}
			quiet(t, st, func() {
				for _, least := range []int{len(want) + 1, 16, math.MaxInt} {
					if e, r := Open(st, o, 1, least); e != nil || r != api.ErrLost {
						t.Fatalf("%s at %d: Open(.., %d) = %d", name, at, least, r)
					}
				}
			})
			was := len(st.Keys(""))
			m := standing(st, o, want)
			for _, least := range []int{len(want), 0, -1, math.MinInt} {
				m.open()
				same(t, opened(t, st, o, 1, least), m)
			}
			left := m.records(1)
			if st.Pending() != was-len(left)-2 {
				t.Errorf("%s at %d: pending %d", name, at, st.Pending())
			}
			left[key(0, 2, at)], left[key(2, 2, at)] = frame(2, at, good), frame(2, at, good)
			holds(t, st, left)
		}
	}
}

// standing is the model of a list that stands in space 1 of a store, with the tiles that belong to it.
func standing(st *store.Store, o api.Opts, leaves []string) *model {
	m := modelOf(o, leaves...)
	numbers, rows := m.tiles()
	for _, n := range numbers {
		data, _ := st.Get(key(1, 3, n))
		if data == frame(3, n, rowBytes(o.Width, rows[n]...)) {
			m.written[n] = true
		}
	}
	return m
}

// TestTilesThatBelong_16_5: a tile's record stands just if the tile is whole and the bytes are its row's; else it is taken out, and unwritten if it is whole.
func TestTilesThatBelong_16_5(t *testing.T) {
	for _, o := range []api.Opts{{Engine: 2, Width: 32, Bundle: 4, Height: 1, Cache: 2}, {Engine: 2, Width: 5, Bundle: 3, Height: 2, Cache: 2}} {
		leaves := numbered(0, 43)
		numbers, rows := modelOf(o, leaves...).tiles()
		for _, n := range numbers {
			row := rows[n]
			good := rowBytes(o.Width, row...)
			turned := slices.Clone(row)
			turned[0], turned[1] = turned[1], turned[0]
			k := key(1, 3, n)
			for name, data := range map[string]string{
				"not there": "", "rags": "rags", "no frame": good,
				"no bytes": frame(3, n, ""), "other bytes": frame(3, n, "x"), "bytes behind": frame(3, n, good+"x"), "bytes missing": frame(3, n, good[:len(good)-1]),
				"another number": frame(3, n+1, good), "another kind": frame(2, n, good), "leaves": frame(3, n, bundleBytes(row...)),
				"a hash too few": frame(3, n, rowBytes(o.Width, row[1:]...)), "a hash too many": frame(3, n, rowBytes(o.Width, append(slices.Clone(row), row[0])...)),
				"another order": frame(3, n, rowBytes(o.Width, turned...)), "another hash": frame(3, n, good[:len(good)-1]+string(good[len(good)-1]^1)),
				"another width": frame(3, n, strings.Replace(good, string(rune(o.Width)), string(rune(o.Width-1)), 1)),
			} {
				st := store.New(1 << 20)
				e := made(t, st, o, 1)
				appended(t, e, leaves...)
				flushed(t, e)
				st.Cut(k)
				cuts := 0
				if name != "not there" {
					st.Put(k, data)
					cuts = 1
				}
				st.Sync()
				m := standing(st, o, leaves)
				e = opened(t, st, o, 1, 43)
				holds(t, st, m.records(1))
				if st.Pending() != cuts || m.written[n] {
					t.Fatalf("%v, %s at tile %d: pending %d", o, name, n, st.Pending())
				}
				same(t, e, m) // its row is reckoned and in memory
				st.Sync()
				flushed(t, e)
				if fresh := m.flush(); !slices.Equal(fresh, []int{n}) || st.Pending() != 1 {
					t.Fatalf("%v, %s at tile %d: Flush writes %d", o, name, n, st.Pending())
				}
				holds(t, st, m.records(1))
				same(t, e, m)
			}
		}
	}
}

// TestOtherRecords_16_5: what is no bundle of the list and no whole tile goes, the kinds and numbers rising; what is no book key, or another space's, stays.
func TestOtherRecords_16_5(t *testing.T) {
	o := api.Opts{Engine: 2, Width: 2, Bundle: 4, Height: 2, Cache: 2}
	m := modelOf(o, numbered(0, 18)...)
	m.flush()
	want := m.records(1)
	for _, k := range []string{key(0, 2, 9), key(2, 3, 9), key(1, 0, 0), key(1, 2, math.MinInt), key(1, 3, -1), key(1, 2, 0) + "x", key(1, 3, 0)[:17], "other"} {
		want[k] = "data of " + k
	}
	row := rowBytes(2, m.levels[0][:4]...)
	goes := []string{}
	for kind := 1; kind < 256; kind++ {
		switch kind {
		case 2:
			for _, n := range []int{5, 6, 1 << 32, math.MaxInt - 3, math.MaxInt} {
				goes = append(goes, key(1, kind, n))
			}
		case 3: // tiles that are not whole: partial ones, ones beyond, levels so high that a span would wrap
			for _, n := range []int{4, 5, 1<<48 - 1, 1<<48 + 1, 1<<48 + 2, 2 << 48, 2<<48 + 1, 3 << 48, 15 << 48, 30 << 48, 31 << 48, 31<<48 + 1, 32 << 48, 63 << 48, 127 << 48, 1 << 62, math.MaxInt >> 48 << 48, math.MaxInt} {
				goes = append(goes, key(1, kind, n))
			}
		default:
			goes = append(goes, key(1, kind, 0))
			if kind%50 == 0 {
				goes = append(goes, key(1, kind, 1), key(1, kind, 1<<48))
			}
		}
	}
	number := func(k string) int {
		n := 0
		for i := range 8 {
			n = n<<8 | int(k[10+i])
		}
		return n
	}
	fill := func() *store.Store {
		st := store.New(1 << 20)
		for k, data := range want {
			st.Put(k, data)
		}
		for _, k := range goes {
			st.Put(k, frame(int(k[9]), number(k), row))
		}
		st.Sync()
		return st
	}
	st := fill()
	e := opened(t, st, o, 1, 18)
	if st.Pending() != len(goes) {
		t.Fatalf("pending %d of %d", st.Pending(), len(goes))
	}
	holds(t, st, want)
	same(t, e, m)
	for n := 1; n <= len(goes); n += 1 + n/8 {
		st := fill()
		st.Arm(n)
		if e, r := Open(st, o, 1, 18); e != nil || r != api.ErrDown || st.Pending() != n {
			t.Fatalf("the power goes at write %d: Open = %d", n, r)
		}
		st.Crash("1")
		rest := maps.Clone(want)
		for _, k := range goes[n:] {
			rest[k] = frame(int(k[9]), number(k), row)
		}
		holds(t, st, rest)
	}
}

// TestRowsThatGrow_16_5: a record that holds the beginning of a row is taken out, be it right; the row goes on in memory.
func TestRowsThatGrow_16_5(t *testing.T) {
	for size := range 40 {
		st := store.New(1 << 20)
		m := modelOf(opts, numbered(0, size)...)
		for k, data := range m.records(1) {
			st.Put(k, data)
		}
		partial := 0
		for l := 0; l*2 < len(m.levels); l++ {
			level := m.levels[l*2]
			if row := level[len(level)/4*4:]; len(row) > 0 {
				n := l<<48 + len(level)/4
				st.Put(key(1, 3, n), frame(3, n, rowBytes(32, row...)))
				partial++
			}
		}
		st.Sync()
		e := opened(t, st, opts, 1, size)
		if st.Pending() != partial {
			t.Fatalf("%d leaves: pending %d, want %d", size, st.Pending(), partial)
		}
		holds(t, st, m.records(1))
		same(t, e, m)
		appended(t, e, letters(16)...)
		m.append(letters(16))
		flushed(t, e)
		m.flush()
		holds(t, st, m.records(1))
		same(t, e, m)
	}
}

// TestOpenedOtherwise_16_5: bundles are read by the width, height and cache that Open is given; tiles of others are taken out.
func TestOpenedOtherwise_16_5(t *testing.T) {
	st := store.New(1 << 20)
	e := made(t, st, opts, 1)
	appended(t, e, numbered(0, 37)...)
	flushed(t, e)
	for _, o := range []api.Opts{{Engine: 2, Width: 32, Bundle: 4, Height: 1, Cache: 3}, {Engine: 2, Width: 7, Bundle: 4, Height: 1, Cache: 3}, {Engine: 2, Width: 7, Bundle: 4, Height: 8, Cache: 0}, opts} {
		m := standing(st, o, numbered(0, 37))
		e := opened(t, st, o, 1, 37)
		holds(t, st, m.records(1))
		same(t, e, m)
		flushed(t, e)
		m.flush()
		holds(t, st, m.records(1))
		same(t, e, m)
	}
	// a bundle of four is too many for three, and one that is not full for five
	three, five := opts, opts
	three.Bundle, five.Bundle = 3, 5
	if e := opened(t, st, five, 1, 0); e.Size() != 4 || len(st.Keys(key(1, 2, 0)[:10])) != 1 {
		t.Errorf("opened with bundles of five: Size %d", e.Size())
	}
	if e := opened(t, st, three, 1, 0); e.Size() != 0 || len(st.Keys("")) != 0 {
		t.Errorf("opened with bundles of three: Size %d", e.Size())
	}
}

// TestFlushInOrder_16_6: the numbers rise, whatever order a map has: the power goes at each write.
func TestFlushInOrder_16_6(t *testing.T) {
	o := api.Opts{Engine: 2, Width: 4, Bundle: 8, Height: 1, Cache: 2}
	m := modelOf(o, numbered(0, 45)...)
	numbers := m.flush()
	want := m.records(1)
	for n := 1; n <= len(numbers)+1; n++ {
		st := store.New(1 << 20)
		e := made(t, st, o, 1)
		appended(t, e, numbered(0, 45)...)
		st.Sync()
		counts := e.Counts()
		st.Arm(n)
		r := e.Flush()
		if n > len(numbers) {
			if r != api.OK || st.Pending() != len(numbers) || e.Counts() != counts {
				t.Errorf("Flush = %d, pending %d", r, st.Pending())
			}
			holds(t, st, want)
			continue
		}
		if r != api.ErrDown || st.Pending() != n {
			t.Fatalf("the power goes at write %d: Flush = %d, pending %d", n, r, st.Pending())
		}
		givenUp(t, st, e, 45, counts)
		st.Crash("1")
		part := maps.Clone(want)
		for _, number := range numbers[n:] {
			delete(part, key(1, 3, number))
		}
		holds(t, st, part)
		e = opened(t, st, o, 1, 45)
		flushed(t, e)
		if st.Pending() != len(numbers)-n {
			t.Errorf("opened behind write %d: Flush writes %d", n, st.Pending())
		}
		holds(t, st, want)
	}
}

// TestFlushOnce_16_6: each tile is written one time, at the first Flush behind the Append by which it became whole.
func TestFlushOnce_16_6(t *testing.T) {
	st := store.New(1 << 20)
	e := made(t, st, opts, 1)
	m := modelOf(opts)
	quiet(t, st, func() { flushed(t, e) })
	for n := range 70 {
		appended(t, e, fmt.Sprint(n))
		m.append([]string{fmt.Sprint(n)})
		holds(t, st, m.records(1))
		st.Sync()
		flushed(t, e)
		if fresh := m.flush(); st.Pending() != len(fresh) {
			t.Fatalf("%d leaves: Flush writes %d, want %v", n+1, st.Pending(), fresh)
		}
		holds(t, st, m.records(1))
		quiet(t, st, func() { flushed(t, e) })
		counted(t, e, m)
	}
}

// TestFlushWithoutRoom_16_6: all unwritten tiles fit, or none is written and they stay unwritten.
func TestFlushWithoutRoom_16_6(t *testing.T) {
	leaves := numbered(0, 40)
	m := modelOf(opts, leaves...)
	begun := counting(m.records(1))
	m.flush()
	need := counting(m.records(1)) - begun
	for slack := -need; slack <= 2; slack += 1 + min(20, max(0, -slack-3)) {
		st := store.New(begun + need + slack)
		e := made(t, st, opts, 1)
		appended(t, e, leaves...)
		m := modelOf(opts)
		m.append(leaves)
		if slack >= 0 {
			m.flush()
		}
		for range 2 {
			flushed(t, e)
			holds(t, st, m.records(1))
			same(t, e, m)
		}
	}
	// there is room later on: those of then and those of before are written
	st := store.New(begun + need + 1000)
	st.Put("other", strings.Repeat("o", 1000))
	e := made(t, st, opts, 1)
	appended(t, e, leaves...)
	m = modelOf(opts)
	m.append(leaves)
	flushed(t, e)
	if len(st.Keys("")) != len(m.records(1))+1 {
		t.Error("Flush wrote what does not fit")
	}
	st.Cut("other")
	appended(t, e, "x", "y", "z", "a")
	m.append([]string{"x", "y", "z", "a"})
	flushed(t, e)
	m.flush()
	holds(t, st, m.records(1))
	same(t, e, m)
}

// TestAnswers_16_7_16_8_16_9: lists of every length, asked for all there is, with what was counted behind each call; flushed never, always, and now and then.
func TestAnswers_16_7_16_8_16_9(t *testing.T) {
	for _, o := range []api.Opts{
		{Engine: 2, Width: 32, Bundle: 4, Height: 2, Cache: 1}, {Engine: 2, Width: 32, Bundle: 1, Height: 1, Cache: 0}, {Engine: 2, Width: 1, Bundle: 64, Height: 1, Cache: 3},
		{Engine: 2, Width: 20, Bundle: 7, Height: 3, Cache: 2}, {Engine: 2, Width: 32, Bundle: 5, Height: 8, Cache: 4096}, {Engine: 2, Width: 2, Bundle: 3, Height: 5, Cache: 1},
	} {
		for rhythm := range 4 {
			st := store.New(1 << 20)
			e := made(t, st, o, 1)
			m := modelOf(o)
			for n := range 38 {
				quiet(t, st, func() { same(t, e, m) })
				leaf := fmt.Sprint("leaf ", n*n%7)
				appended(t, e, leaf)
				m.append([]string{leaf})
				if rhythm == 1 || rhythm > 1 && n%rhythm == 0 {
					flushed(t, e)
					m.flush()
				}
			}
		}
	}
}

// TestTallTiles_16_7: tiles of the greatest height, whole ones of two levels, and a cache that they do not all fit in.
func TestTallTiles_16_7(t *testing.T) {
	for _, o := range []api.Opts{{Engine: 2, Width: 8, Bundle: 64, Height: 8, Cache: 2}, {Engine: 2, Width: 8, Bundle: 50, Height: 4, Cache: 7}, {Engine: 2, Width: 8, Bundle: 50, Height: 3, Cache: 0}} {
		st := store.New(1 << 22)
		e := made(t, st, o, 1)
		m := modelOf(o)
		r := rand.New(rand.NewSource(167))
		for _, n := range []int{255, 1, 700, 88, 300} {
			for range 400 {
				at := api.Addr{Level: r.Intn(12)}
				at.Index = r.Intn(len(m.leaves)>>at.Level + 1)
				if a, want := got(e.Node(at)), m.node(at); a != want {
					t.Fatalf("%v: Node(%v) = %v, want %v", o, at, a, want)
				}
				counted(t, e, m)
				size := r.Intn(len(m.leaves) + 1)
				if a, want := got(e.Root(size)), m.root(size); a != want {
					t.Fatalf("%v: Root(%d) = %v, want %v", o, size, a, want)
				}
				counted(t, e, m)
			}
			list := numbered(n, n)
			appended(t, e, list...)
			m.append(list)
			flushed(t, e)
			m.flush()
			counted(t, e, m)
		}
		holds(t, st, m.records(1))
		if c := e.Counts(); c.Most != min(o.Cache, len(m.written)) || c.Misses == 0 || (c.Hits == 0) != (o.Cache == 0) {
			t.Errorf("%v: Counts %v", o, c)
		}
	}
}

// TestOpenCounts_15_8: what Open makes is not counted, and the cache is empty behind it.
func TestOpenCounts_15_8(t *testing.T) {
	st := store.New(1 << 20)
	e := made(t, st, opts, 1)
	appended(t, e, numbered(0, 50)...)
	flushed(t, e)
	e.Root(49)
	e.Node(api.Addr{})
	st.Sync()
	e = opened(t, st, opts, 1, 50)
	if c := e.Counts(); c != (api.Counts{}) {
		t.Errorf("behind Open: %v", c)
	}
	m := standing(st, opts, numbered(0, 50))
	same(t, e, m)
}

// TestAlike_15_9_16_10: answers do not hang on the options but the width, nor on when Flush was called.
func TestAlike_15_9_16_10(t *testing.T) {
	r := rand.New(rand.NewSource(1610))
	for range 12 {
		width := 1 + r.Intn(32)
		var engines []*Engine
		for range 6 {
			o := api.Opts{Engine: 2, Width: width, Bundle: 1 + r.Intn(64), Height: 1 + r.Intn(8), Cache: r.Intn(6), Bits: r.Intn(99)}
			engines = append(engines, made(t, store.New(1<<22), o, r.Intn(9)))
		}
		m := modelOf(api.Opts{Engine: 2, Width: width, Bundle: 1, Height: 1})
		for range 25 {
			list := numbered(r.Intn(1000), r.Intn(40))
			at := api.Addr{Level: r.Intn(10) - 1, Index: r.Intn(len(m.leaves) + 2)}
			size, place := r.Intn(len(m.leaves)+3)-1, r.Intn(len(m.leaves)+3)-1
			node, root, leaf := m.node(at), m.root(size), m.leaf(place)
			for _, e := range engines {
				if a := got(e.Node(at)); a != node {
					t.Fatalf("%v: Node(%v) = %v, want %v", e.opts, at, a, node)
				}
				if a := got(e.Root(size)); a != root {
					t.Fatalf("%v: Root(%d) = %v, want %v", e.opts, size, a, root)
				}
				if a := got(e.Leaf(place)); a != leaf {
					t.Fatalf("%v: Leaf(%d) = %v, want %v", e.opts, place, a, leaf)
				}
				if a := e.Append(list); (a == api.OK) != (len(list) > 0) || e.Size() != len(m.leaves)+len(list) {
					t.Fatalf("%v: Append of %d = %d", e.opts, len(list), a)
				}
				if r.Intn(3) == 0 {
					flushed(t, e)
				}
			}
			m.put(list)
		}
	}
}

// TestWork_16_9_16_11: appending makes as many node hashes as nodes become whole, in whatever batches, and no more than leaves.
func TestWork_16_9_16_11(t *testing.T) {
	r := rand.New(rand.NewSource(1611))
	for range 20 {
		e := made(t, store.New(1<<24), api.Opts{Engine: 2, Width: 32, Bundle: 1 + r.Intn(64), Height: 1 + r.Intn(8), Cache: 0}, 1)
		m := modelOf(opts)
		for range 8 {
			list := numbered(0, 1+r.Intn(100))
			appended(t, e, list...)
			m.append(list)
			if r.Intn(3) == 0 {
				flushed(t, e)
			}
			if c := e.Counts(); c != m.counts || c.Nodes > len(m.leaves) {
				t.Fatalf("%d leaves: %v, want %v", len(m.leaves), c, m.counts)
			}
		}
	}
}

// TestByChance_15_9: scripts of calls, among them refused ones, flushes, syncs and openings anew, against the model.
func TestByChance_15_9(t *testing.T) {
	for seed := range int64(80) {
		r := rand.New(rand.NewSource(seed))
		o := api.Opts{Engine: 2, Width: 1 + r.Intn(32), Bundle: 1 + r.Intn(12), Height: 1 + r.Intn(4), Cache: r.Intn(5)}
		st := store.New(1 << 22)
		space := r.Intn(3)
		e := made(t, st, o, space)
		m := modelOf(o)
		for range 120 {
			n := len(m.leaves)
			switch r.Intn(9) {
			case 0, 1:
				var list []string
				for range r.Intn(12) {
					list = append(list, strings.Repeat(string(rune(r.Intn(256))), r.Intn(40)))
				}
				want := api.OK
				if len(list) == 0 {
					want = api.ErrEmpty
				} else if r.Intn(9) == 0 {
					list[r.Intn(len(list))] = strings.Repeat("x", 4097)
					want = api.ErrBig
				}
				if a := e.Append(list); a != want {
					t.Fatalf("seed %d: Append = %d, want %d", seed, a, want)
				}
				if want == api.OK {
					m.append(list)
				}
			case 2:
				i := r.Intn(n+3) - 1
				if a, want := got(e.Leaf(i)), m.leaf(i); a != want {
					t.Fatalf("seed %d: Leaf(%d) = %v, want %v", seed, i, a, want)
				}
			case 3, 4:
				i := r.Intn(n+3) - 1
				if a, want := got(e.Root(i)), m.root(i); a != want {
					t.Fatalf("seed %d: Root(%d) = %v, want %v", seed, i, a, want)
				}
			case 5, 6:
				level := r.Intn(9) - 1
				at := api.Addr{Level: level, Index: r.Intn(n>>max(level, 0)+2) - 1}
				if a, want := got(e.Node(at)), m.node(at); a != want {
					t.Fatalf("seed %d: Node(%v) = %v, want %v", seed, at, a, want)
				}
			case 7:
				flushed(t, e)
				m.flush()
				st.Sync()
			case 8:
				if r.Intn(4) == 0 {
					e = opened(t, st, o, space, n)
					m.open()
				}
			}
			if e.Size() != len(m.leaves) {
				t.Fatalf("seed %d: Size = %d, want %d", seed, e.Size(), len(m.leaves))
			}
			counted(t, e, m)
		}
		holds(t, st, m.records(space))
	}
}

// played is a script on a store: batches of leaves, with a Flush and a Sync behind those of which bit i of flushes and syncs is set. It ends where the power goes.
func played(st *store.Store, e *Engine, batches [][]string, flushes, syncs int) (synced, accepted, perhaps []string) {
	for i, list := range batches {
		if e.Append(list) != api.OK {
			return synced, accepted, append(slices.Clone(accepted), list...)
		}
		accepted = append(accepted, list...)
		if flushes>>i&1 == 1 && e.Flush() != api.OK {
			return synced, accepted, accepted
		}
		if syncs>>i&1 == 1 {
			if st.Sync() != api.OK {
				return synced, accepted, accepted
			}
			synced = slices.Clone(accepted)
		}
	}
	return synced, accepted, accepted
}

func begins(long, short []string) bool {
	return len(short) <= len(long) && slices.Equal(long[:len(short)], short)
}

// choices are all texts that say of so many pending writes which of them survive.
func choices(pending int) []string {
	var list []string
	for choice := range 1 << pending {
		keep := make([]byte, pending)
		for i := range keep {
			keep[i] = byte(choice >> i & 1)
		}
		list = append(list, string(keep))
	}
	return list
}

// TestABeginningSurvives_15_10: the power goes at each write, or behind all of them, with every choice of what survives; then once more while it is opened.
func TestABeginningSurvives_15_10(t *testing.T) {
	o := api.Opts{Engine: 2, Width: 32, Bundle: 2, Height: 1, Cache: 1}
	batches := [][]string{{"a"}, {"b", "c"}, {"d", "e"}}
	begun := func(at, flushes, syncs int) (*store.Store, *Engine, []string, []string, []string) {
		st := store.New(10000)
		st.Put(key(1, 2, 0), frame(2, 0, bundleBytes("older", "leaves")))
		st.Put(key(1, 2, 1), frame(2, 1, bundleBytes("too")))
		e := made(t, st, o, 1)
		st.Sync()
		st.Arm(at)
		synced, accepted, perhaps := played(st, e, batches, flushes, syncs)
		return st, e, synced, accepted, perhaps
	}
	for _, flushes := range []int{0, 2, 4, 7} {
		for syncs := range 8 {
			for at := range 13 {
				st, _, _, _, _ := begun(at, flushes, syncs)
				for _, keep := range choices(st.Pending()) {
					st, e, synced, accepted, perhaps := begun(at, flushes, syncs)
					counts := e.Counts()
					st.Crash(keep)
					givenUp(t, st, e, len(accepted), counts)
					was := st.Image()
					e = opened(t, st, o, 1, len(synced))
					found := leavesOf(t, e)
					if !begins(found, synced) || !begins(perhaps, found) {
						t.Fatalf("flushes %b, syncs %b, power at %d, kept %q: %q stand of %q, synced were %q", flushes, syncs, at, keep, found, perhaps, synced)
					}
					cutAgain(t, was, o, found)
					if st.Sync() != api.OK {
						t.Fatal("Sync")
					}
					quiet(t, st, func() {
						if l := leavesOf(t, opened(t, st, o, 1, 0)); !slices.Equal(l, found) {
							t.Fatalf("opened once more: %q, were %q", l, found)
						}
					})
					appended(t, e, "x")
					flushed(t, e)
					st.Crash("1")
					m := modelOf(o, append(found, "x")...)
					m.flush()
					holds(t, st, m.records(1))
				}
			}
		}
	}
}

// cutAgain opens what an image holds with the power going at each write of Open, and keeping some of them: the list is found all the same.
func cutAgain(t *testing.T, image string, o api.Opts, want []string) {
	t.Helper()
	for at := 1; ; at++ {
		for _, keep := range []string{"", "1", "10", "01"} {
			st, _ := store.Open(image, 10000)
			st.Arm(at)
			e, r := Open(st, o, 1, len(want))
			if r == api.OK {
				return
			}
			if r != api.ErrDown || e != nil {
				t.Fatalf("the power goes at write %d of Open: %d", at, r)
			}
			st.Crash(keep)
			if l := leavesOf(t, opened(t, st, o, 1, 0)); !slices.Equal(l, want) {
				t.Fatalf("the power went at write %d of Open: %q stand, were %q", at, l, want)
			}
		}
	}
}

// TestByChance_15_10: longer scripts, cut, opened and gone on with.
func TestByChance_15_10(t *testing.T) {
	for seed := range int64(200) {
		r := rand.New(rand.NewSource(seed))
		o := api.Opts{Engine: 2, Width: 1 + r.Intn(32), Bundle: 1 + r.Intn(6), Height: 1 + r.Intn(3), Cache: r.Intn(3)}
		st := store.New(1 << 20)
		e := made(t, st, o, 1)
		st.Sync()
		var before []string
		for range 6 {
			var batches [][]string
			for range r.Intn(8) {
				var list []string
				for range 1 + r.Intn(6) {
					list = append(list, fmt.Sprint(seed, r.Intn(1000)))
				}
				batches = append(batches, list)
			}
			if r.Intn(3) > 0 {
				st.Arm(1 + r.Intn(30))
			}
			synced, _, perhaps := played(st, e, batches, r.Intn(256), r.Intn(256))
			keep := make([]byte, r.Intn(20))
			r.Read(keep)
			st.Crash(string(keep))
			e = opened(t, st, o, 1, len(before)+len(synced))
			found := leavesOf(t, e)
			if !begins(found, append(slices.Clone(before), synced...)) || !begins(append(slices.Clone(before), perhaps...), found) {
				t.Fatalf("seed %d: %q stand of %q, behind %q", seed, found, perhaps, before)
			}
			m := standing(st, o, found)
			holds(t, st, m.records(1))
			st.Sync()
			same(t, e, m)
			before = found
		}
	}
}

// TestAnotherFuture_16_5: tiles of leaves that were lost do not stand for the leaves that came in their place.
func TestAnotherFuture_16_5(t *testing.T) {
	o := api.Opts{Engine: 2, Width: 32, Bundle: 4, Height: 2, Cache: 2}
	st := store.New(10000)
	e := made(t, st, o, 1)
	appended(t, e, letters(3)...)
	st.Sync()
	appended(t, e, "lost")
	flushed(t, e)
	st.Crash("\x00\x01") // the tile survives, the leaf does not
	if _, r := st.Get(key(1, 3, 0)); r != api.OK {
		t.Fatal("no tile")
	}
	e = opened(t, st, o, 1, 3) // not synced: the Cut of the tile may be lost yet
	appended(t, e, "D")
	st.Crash("\x00\x01")
	if _, r := st.Get(key(1, 3, 0)); r != api.OK {
		t.Fatal("no tile")
	}
	e = opened(t, st, o, 1, 4)
	m := modelOf(o, letters(4)...)
	holds(t, st, m.records(1))
	same(t, e, m)
	flushed(t, e)
	m.flush()
	holds(t, st, m.records(1))
}

// TestMemory_R4: what is handed in is neither changed nor kept.
func TestMemory_R4(t *testing.T) {
	st := store.New(10000)
	e := made(t, st, opts, 1)
	bytes := []byte("abcdef")
	list := []string{unsafe.String(&bytes[0], 2), unsafe.String(&bytes[2], 2), unsafe.String(&bytes[4], 2), "spare", "room"}
	appended(t, e, list[:3]...)
	if list[3] != "spare" || list[4] != "room" || string(bytes) != "abcdef" {
		t.Errorf("Append changed its list: %q", list)
	}
	copy(bytes, "XXXXXX")
	list[0], list[1] = "other", "leaves"
	appended(t, e, "gh") // the bundle is written anew
	same(t, opened(t, st, opts, 1, 4), modelOf(opts, "ab", "cd", "ef", "gh"))
	flushed(t, e)
	st.Sync()
	m := modelOf(opts, "ab", "cd", "ef", "gh")
	m.flush()
	same(t, opened(t, st, opts, 1, 4), m)
}

// TestGoesOnBehindAWipe: an engine whose records were taken out goes on behind its last leaf, as a move that found no room asks for; what it cannot read it refuses.
func TestGoesOnBehindAWipe(t *testing.T) {
	st := store.New(10000)
	e := made(t, st, opts, 1)
	appended(t, e, letters(6)...)
	flushed(t, e)
	for _, k := range st.Keys("") {
		st.Cut(k)
	}
	if a := got(e.Leaf(0)); a != (answer{"", api.ErrNone}) {
		t.Errorf("Leaf(0) = %v", a)
	}
	if a := got(e.Node(api.Addr{})); a != (answer{"", api.ErrNone}) {
		t.Errorf("Node({0, 0}) = %v", a)
	}
	if a := got(e.Root(3)); a != (answer{"", api.ErrNone}) {
		t.Errorf("Root(3) = %v", a)
	}
	appended(t, e, "G")
	if a := got(e.Root(7)); a != modelOf(opts, letters(7)...).root(7) || e.Size() != 7 {
		t.Errorf("Root(7) = %v", a)
	}
	if data, _ := st.Get(key(1, 2, 1)); data != frame(2, 1, bundleBytes("E", "F", "G")) {
		t.Errorf("bundle 1 is %q", data)
	}
	st.Put(key(1, 2, 1), frame(2, 1, bundleBytes("E")))
	st.Put(key(1, 3, 0), frame(3, 0, rowBytes(32, cut(32))))
	if a := got(e.Leaf(5)); a != (answer{"", api.ErrSpoilt}) {
		t.Errorf("Leaf(5) = %v", a)
	}
	if a := got(e.Node(api.Addr{Index: 2})); a != (answer{"", api.ErrSpoilt}) {
		t.Errorf("Node({0, 2}) = %v", a)
	}
}

// TestLongLists: so many leaves that a look at all of them for each one that is appended would be seen.
func TestLongLists(t *testing.T) {
	for _, o := range []api.Opts{{Engine: 2, Width: 32, Bundle: 64, Height: 8, Cache: 16}, {Engine: 2, Width: 32, Bundle: 1, Height: 1, Cache: 0}} {
		st := store.New(1 << 27)
		e := made(t, st, o, 1)
		for b := range 20 {
			appended(t, e, numbered(1024*b, 1024)...)
			flushed(t, e)
		}
		m := modelOf(o, numbered(0, 20480)...)
		st.Sync()
		again := opened(t, st, o, 1, 20480)
		if st.Pending() != 0 {
			t.Errorf("Open wrote %d", st.Pending())
		}
		for _, n := range []int{20480, 20479, 12345, 1} {
			want := m.root(n)
			for _, x := range []*Engine{e, again} {
				if a := got(x.Root(n)); a != want {
					t.Errorf("Root(%d) = %v", n, a)
				}
				if a := got(x.Leaf(n - 1)); a != m.leaf(n-1) {
					t.Errorf("Leaf(%d) = %v", n-1, a)
				}
			}
		}
	}
}
