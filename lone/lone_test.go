package lone

import (
	"crypto/sha256"
	"encoding/binary"
	"fmt"
	"hash/crc32"
	"math"
	"math/rand"
	"slices"
	"strings"
	"testing"
	"unsafe"

	"annals/api"
	"annals/store"
)

var opts = api.Opts{Engine: 1, Width: 32}

// The oracle: hashes by the library, trees level by level from below, records by the library's encoder.

func cut(w int, parts ...string) string {
	h := sha256.Sum256([]byte(strings.Join(parts, "")))
	return string(h[:w])
}

// above are the hashes one level up: each two are joined, an odd one goes up as it is.
func above(w int, row []string) []string {
	var up []string
	for i := 0; i < len(row); i += 2 {
		if i+1 == len(row) {
			return append(up, row[i])
		}
		up = append(up, cut(w, "\x01", row[i], row[i+1]))
	}
	return up
}

func wantRoot(w int, leaves []string) string {
	if len(leaves) == 0 {
		return cut(w)
	}
	var row []string
	for _, l := range leaves {
		row = append(row, cut(w, "\x00", l))
	}
	for len(row) > 1 {
		row = above(w, row)
	}
	return row[0]
}

func key(space, kind, number int) string {
	b := binary.BigEndian.AppendUint64([]byte("B"), uint64(space))
	return string(binary.BigEndian.AppendUint64(append(b, byte(kind)), uint64(number)))
}

func frame(kind, number int, payload string) string {
	b := binary.BigEndian.AppendUint64([]byte{0xa5, byte(kind)}, uint64(number))
	b = append(binary.BigEndian.AppendUint32(b, uint32(len(payload))), payload...)
	return string(binary.BigEndian.AppendUint32(b, crc32.ChecksumIEEE(b)))
}

// model is what the chapter says of an engine in which leaves stand.
type model struct {
	width  int
	leaves []string
	nodes  int
}

type answer struct {
	text string
	e    api.Errno
}

func (a answer) String() string { return fmt.Sprintf("%.20q (%d) %d", a.text, len(a.text), int(a.e)) }

func (m *model) leaf(i int) answer {
	if i >= 0 && i < len(m.leaves) {
		return answer{m.leaves[i], 0}
	}
	return answer{"", 81}
}

func (m *model) root(n int) answer {
	if n < 0 || len(m.leaves) < n {
		return answer{"", 80}
	}
	if n > 1 {
		m.nodes += n - 1
	}
	return answer{wantRoot(m.width, m.leaves[:n]), 0}
}

func (m *model) node(a api.Addr) answer {
	if a.Level < 0 || a.Level > 62 || a.Index < 0 || a.Index > 1<<62>>a.Level-1 {
		return answer{"", 50}
	}
	length := 1 << a.Level
	if a.Index+1 > len(m.leaves)/length {
		return answer{"", 80}
	}
	m.nodes += length - 1
	return answer{wantRoot(m.width, m.leaves[a.Index*length:][:length]), 0}
}

func got(text string, e api.Errno) answer { return answer{text, e} }

// same holds an engine against a model: every place and size, and every node of few leaves.
func same(t *testing.T, e *Engine, m *model) {
	t.Helper()
	n := len(m.leaves)
	if e.Size() != n {
		t.Fatalf("Size = %d, want %d", e.Size(), n)
	}
	for i := -2; i <= n+2; i++ {
		if a, want := got(e.Leaf(i)), m.leaf(i); a != want {
			t.Fatalf("of %d leaves Leaf(%d) = %v, want %v", n, i, a, want)
		}
		if a, want := got(e.Root(i)), m.root(i); a != want {
			t.Fatalf("of %d leaves Root(%d) = %v, want %v", n, i, a, want)
		}
		for level := -1; level < 8; level++ {
			at := api.Addr{Level: level, Index: i}
			if a, want := got(e.Node(at)), m.node(at); a != want {
				t.Fatalf("of %d leaves Node(%v) = %v, want %v", n, at, a, want)
			}
		}
	}
	counted(t, e, m)
}

func counted(t *testing.T, e *Engine, m *model) {
	t.Helper()
	if c := e.Counts(); c != (api.Counts{Nodes: m.nodes}) {
		t.Fatalf("Counts = %v, want %d nodes", c, m.nodes)
	}
}

// all is everything that a store tells.
func all(st *store.Store) string {
	out := []string{fmt.Sprint(st.Pending(), st.Used(), st.Room(), st.Down(), st.Age()), st.Image()}
	for _, k := range st.Keys("") {
		data, e := st.Get(k)
		out = append(out, k, data, fmt.Sprint(int(e)))
	}
	return strings.Join(out, "|")
}

// quiet makes calls that may do nothing to the store.
func quiet(t *testing.T, st *store.Store, calls func()) {
	t.Helper()
	was := all(st)
	calls()
	if all(st) != was {
		t.Fatalf("the store is another: %.200q, was %.200q", all(st), was)
	}
}

func made(t *testing.T, st *store.Store, o api.Opts, space int) *Engine {
	t.Helper()
	e, r := Make(st, o, space)
	if r != api.OK || e == nil {
		t.Fatalf("Make = %d", r)
	}
	return e
}

func opened(t *testing.T, st *store.Store, o api.Opts, space, least int) *Engine {
	t.Helper()
	e, r := Open(st, o, space, least)
	if r != api.OK || e == nil {
		t.Fatalf("Open(.., %d) = %d", least, r)
	}
	return e
}

func appended(t *testing.T, e *Engine, leaves ...string) {
	t.Helper()
	if r := e.Append(leaves); r != api.OK {
		t.Fatalf("Append(%.60q) = %d", leaves, r)
	}
}

// leavesOf are all leaves that an engine tells.
func leavesOf(t *testing.T, e *Engine) []string {
	t.Helper()
	var list []string
	for i := range e.Size() {
		l, r := e.Leaf(i)
		if r != api.OK {
			t.Fatalf("Leaf(%d) of %d = %d", i, e.Size(), r)
		}
		list = append(list, l)
	}
	return list
}

// letters are the first n of a, b, c ..
func letters(n int) []string {
	var list []string
	for i := range n {
		list = append(list, string(rune('a'+i)))
	}
	return list
}

// TestExamples: the chapter's table, line by line.
func TestExamples(t *testing.T) {
	st := store.New(1000)
	for _, c := range []struct {
		o     api.Opts
		space int
		want  api.Errno
	}{{api.Opts{Engine: 2, Width: 32}, 1, api.ErrOpts}, {api.Opts{Engine: 1}, 1, api.ErrOpts}, {opts, -1, api.ErrRange}} {
		if e, r := Make(st, c.o, c.space); e != nil || r != c.want {
			t.Errorf("Make(%v, %d) = %d", c.o, c.space, r)
		}
	}
	e := made(t, st, opts, 1)
	for _, c := range []struct {
		list []string
		want api.Errno
	}{{nil, api.ErrEmpty}, {make([]string, 1025), api.ErrMany}, {[]string{strings.Repeat("x", 4097)}, api.ErrBig}, {[]string{"a", "b"}, api.OK}} {
		if r := e.Append(c.list); r != c.want {
			t.Errorf("Append(%d leaves) = %d", len(c.list), r)
		}
	}
	if e.Size() != 2 || st.Used() != 106 {
		t.Errorf("Size %d, Used %d", e.Size(), st.Used())
	}
	ab := cut(32, "\x01", cut(32, "\x00a"), cut(32, "\x00b"))
	for i, c := range [][2]answer{
		{got(e.Leaf(1)), {"b", 0}}, {got(e.Leaf(2)), {"", api.ErrIndex}}, {got(e.Root(3)), {"", api.ErrSize}}, {got(e.Root(0)), {cut(32), 0}},
		{got(e.Node(api.Addr{Level: 1})), {ab, 0}}, {got(e.Node(api.Addr{Index: 2})), {"", api.ErrSize}}, {got(e.Root(2)), {ab, 0}},
	} {
		if c[0] != c[1] {
			t.Errorf("answer %d is %v, want %v", i, c[0], c[1])
		}
	}
	if e.Counts().Nodes != 2 {
		t.Error("Nodes", e.Counts())
	}
	if r := e.Append([]string{strings.Repeat("x", 900)}); r != api.ErrFull || e.Size() != 2 {
		t.Errorf("Append of 900 bytes = %d, Size %d", r, e.Size())
	}
	st.Sync()
	appended(t, e, "c", "d", "e")
	st.Crash("\x01\x00\x01")
	if r := e.Append([]string{"f"}); r != api.ErrDown {
		t.Errorf("Append behind a power cut = %d", r)
	}
	quiet(t, st, func() {
		if e, r := Open(st, opts, 1, 4); e != nil || r != api.ErrLost {
			t.Errorf("Open(.., 4) = %d", r)
		}
	})
	e = opened(t, st, opts, 1, 0)
	if l := leavesOf(t, e); !slices.Equal(l, letters(3)) || st.Pending() != 1 || st.Sync() != api.OK {
		t.Errorf("the standing list is %q, pending %d", l, st.Pending())
	}
	appended(t, e, "x")
	if l := leavesOf(t, e); !slices.Equal(l, []string{"a", "b", "c", "x"}) {
		t.Errorf("the list is %q", l)
	}
}

func TestOptions_15_1(t *testing.T) {
	for engine := -1; engine < 5; engine++ {
		for _, width := range []int{math.MinInt, -1, 0, 1, 2, 31, 32, 33, 257, math.MaxInt} {
			for _, other := range []int{0, 1, -5, 4097, math.MaxInt} {
				o := api.Opts{Engine: engine, Width: width, Bundle: other, Height: -other, Cache: other, Bits: other}
				want := api.ErrOpts
				if engine == 1 && width >= 1 && width <= 32 {
					want = api.OK
				}
				st := store.New(1000)
				if e, r := Make(st, o, 1); r != want || (e != nil) != (r == api.OK) {
					t.Fatalf("Make(%v) = %d", o, r)
				}
				if e, r := Open(st, o, 1, 0); r != want || (e != nil) != (r == api.OK) {
					t.Fatalf("Open(%v) = %d", o, r)
				}
			}
		}
	}
}

// TestRefusalsInOrder_15_3_15_4: whichever refusals apply together, the first one counts, and nothing is written.
func TestRefusalsInOrder_15_3_15_4(t *testing.T) {
	for _, o := range []api.Opts{opts, {Engine: 3, Width: 32}, {Engine: 1, Width: 33}} {
		for _, space := range []int{0, 1, math.MaxInt, -1, math.MinInt} {
			for _, down := range []bool{false, true} {
				for _, least := range []int{0, 2, 3, math.MaxInt, math.MinInt} {
					st := store.New(1000)
					st.Put(key(max(space, 0), 1, 0), frame(1, 0, "a"))
					st.Put(key(max(space, 0), 1, 1), frame(1, 1, "b"))
					if down {
						st.Arm(1)
					}
					st.Sync()
					want := api.OK
					switch {
					case o != opts:
						want = api.ErrOpts
					case space < 0:
						want = api.ErrRange
					case down:
						want = api.ErrDown
					case least > 2:
						want = api.ErrLost
					}
					quiet(t, st, func() {
						if e, r := Open(st, o, space, least); r != want || (e != nil) != (r == api.OK) {
							t.Errorf("Open(%v, %d, %d) with the power off %v: %d, want %d", o, space, least, down, r, want)
						}
					})
					if want == api.ErrLost {
						want = api.OK
					}
					was := all(st)
					e, r := Make(st, o, space)
					if r != want || (e != nil) != (r == api.OK) || r != api.OK && all(st) != was {
						t.Errorf("Make(%v, %d) with the power off %v: %d, want %d", o, space, down, r, want)
					}
				}
			}
		}
	}
	for _, take := range []func() (*Engine, api.Errno){
		func() (*Engine, api.Errno) { return Make(nil, opts, 1) },
		func() (*Engine, api.Errno) { return Open(nil, opts, 1, 0) },
	} {
		if e, r := take(); e != nil || r != api.ErrDown {
			t.Errorf("without a store: %v, %d", e, r)
		}
	}
}

func TestMake_15_3(t *testing.T) {
	fill := func() *store.Store {
		st := store.New(10000)
		for _, k := range []string{key(4, 1, 0), key(5, 1, 0), key(5, 1, 3), key(5, 255, 9), key(5, 1, 0) + "x", key(6, 1, 0), "other"} {
			st.Put(k, frame(1, 0, "a"))
		}
		st.Sync()
		return st
	}
	st := fill()
	e := made(t, st, opts, 5)
	if !slices.Equal(st.Keys(""), []string{key(4, 1, 0), key(6, 1, 0), "other"}) || st.Pending() != 4 {
		t.Errorf("behind Make: %q, pending %d", st.Keys(""), st.Pending())
	}
	same(t, e, &model{width: 32})
	for n := 1; n <= 5; n++ {
		st := fill()
		st.Arm(n)
		want := api.ErrDown
		if n == 5 {
			want = api.OK
		}
		if e, r := Make(st, opts, 5); r != want || (e == nil) != (n < 5) || st.Pending() != min(n, 4) {
			t.Errorf("the power goes at write %d: Make = %d, pending %d", n, r, st.Pending())
		}
	}
	// two engines in two spaces know nothing of one another
	a, b := made(t, st, opts, 0), made(t, st, api.Opts{Engine: 1, Width: 5}, math.MaxInt)
	appended(t, a, "x", "y")
	appended(t, b, "z")
	same(t, a, &model{width: 32, leaves: []string{"x", "y"}})
	same(t, b, &model{width: 5, leaves: []string{"z"}})
	made(t, st, opts, 0)
	same(t, opened(t, st, api.Opts{Engine: 1, Width: 5}, math.MaxInt, 1), &model{width: 5, leaves: []string{"z"}})
	same(t, opened(t, st, opts, 0, 0), &model{width: 32})
}

// asks are all calls that answer an Errno, with inputs that go and such as are refused.
func asks(e *Engine) map[string]answer {
	long := strings.Repeat("x", 4097)
	return map[string]answer{
		"Append":        got("", e.Append([]string{"new"})),
		"Append none":   got("", e.Append(nil)),
		"Append many":   got("", e.Append(make([]string, 1025))),
		"Append big":    got("", e.Append([]string{long})),
		"Leaf(0)":       got(e.Leaf(0)),
		"Leaf(-1)":      got(e.Leaf(-1)),
		"Leaf(1000)":    got(e.Leaf(1000)),
		"Node({0, 0})":  got(e.Node(api.Addr{})),
		"Node({-1, 0})": got(e.Node(api.Addr{Level: -1})),
		"Node({9, 9})":  got(e.Node(api.Addr{Level: 9, Index: 9})),
		"Root(0)":       got(e.Root(0)),
		"Root(2)":       got(e.Root(2)),
		"Root(-1)":      got(e.Root(-1)),
		"Flush":         got("", e.Flush()),
	}
}

// givenUp looks whether an engine is given up, and tells what it told.
func givenUp(t *testing.T, st *store.Store, e *Engine, size int, counts api.Counts) {
	t.Helper()
	quiet(t, st, func() {
		for call, a := range asks(e) {
			if a != (answer{"", api.ErrDown}) {
				t.Errorf("given up, and %s = %v", call, a)
			}
		}
	})
	if e.Size() != size || e.Counts() != counts {
		t.Errorf("given up: Size %d, Counts %v, want %d, %v", e.Size(), e.Counts(), size, counts)
	}
}

// TestGivenUp_15_2: in whichever way the power goes, asked for at that time or not.
func TestGivenUp_15_2(t *testing.T) {
	ways := map[string]func(st *store.Store, e *Engine){
		"a cut with the power on": func(st *store.Store, e *Engine) { st.Crash("1") },
		"two cuts":                func(st *store.Store, e *Engine) { st.Crash("1"); st.Crash("") },
		"a Sync":                  func(st *store.Store, e *Engine) { st.Arm(1); st.Sync() },
		"another's write":         func(st *store.Store, e *Engine) { st.Arm(1); st.Put("other", "") },
		"a Sync, then a cut":      func(st *store.Store, e *Engine) { st.Arm(1); st.Sync(); st.Crash("1") },
		"an Append":               func(st *store.Store, e *Engine) { st.Arm(2); e.Append([]string{"x", "y", "z"}) },
		"an Append's last write":  func(st *store.Store, e *Engine) { st.Arm(3); e.Append([]string{"x", "y", "z"}) },
		"an Append, then a cut":   func(st *store.Store, e *Engine) { st.Arm(1); e.Append([]string{"x", "y", "z"}); st.Crash("1") },
		"a Leaf, then a cut":      func(st *store.Store, e *Engine) { st.Arm(1); st.Sync(); e.Leaf(0); st.Crash("") },
	}
	for way, goes := range ways {
		for _, asked := range []bool{false, true} {
			st := store.New(10000)
			st.Crash("")
			e := made(t, st, opts, 1)
			appended(t, e, "a", "b", "c")
			if asked {
				asks(e) // appends a fourth leaf
				e.Size()
				e.Counts()
			}
			size, counts := 3, api.Counts{}
			if asked {
				size, counts = 4, api.Counts{Nodes: 1}
			}
			t.Run(way, func(t *testing.T) {
				goes(st, e)
				givenUp(t, st, e, size, counts)
				givenUp(t, st, e, size, counts)
				st.Crash("1")
				givenUp(t, st, e, size, counts)
				st.Sync()
				again := opened(t, st, opts, 1, 0)
				givenUp(t, st, e, size, counts)
				appended(t, again, "w")
				givenUp(t, st, e, size, counts)
			})
		}
	}
}

// TestOthersStand_15_2: what another engine, or a refusal other than ErrDown, does gives nothing up.
func TestOthersStand_15_2(t *testing.T) {
	st := store.New(1000)
	e := made(t, st, opts, 1)
	appended(t, e, "a")
	st.Arm(100)
	for range 3 {
		e.Append(nil)
		e.Append([]string{strings.Repeat("x", 4096)})
		e.Leaf(1)
		e.Node(api.Addr{Level: 70})
		e.Root(2)
	}
	st.Sync()
	made(t, st, opts, 2)
	Open(st, opts, 3, 9)
	appended(t, e, "b")
	same(t, e, &model{width: 32, leaves: letters(2)})
}

func TestNone(t *testing.T) {
	for _, e := range []*Engine{nil, {}} {
		for call, a := range asks(e) {
			if a != (answer{"", api.ErrDown}) {
				t.Errorf("no engine, and %s = %v", call, a)
			}
		}
		if e.Size() != 0 || e.Counts() != (api.Counts{}) {
			t.Error("no engine tells of leaves")
		}
	}
}

// TestAppendRefusalsInOrder_15_5: whichever apply together, the first one counts, and all is as it was.
func TestAppendRefusalsInOrder_15_5(t *testing.T) {
	for _, down := range []bool{false, true} {
		for _, count := range []int{0, 1, 2, 1024, 1025, 3000} {
			for _, length := range []int{0, 4096, 4097, 100000} {
				for _, room := range []int{0, 60, 1 << 24} {
					st := store.New(106 + room)
					e := made(t, st, opts, 1)
					appended(t, e, "a", "b")
					if down {
						st.Arm(1)
						st.Sync()
					}
					list := make([]string, count)
					if count > 0 {
						list[count/2] = strings.Repeat("x", length)
					}
					want := api.OK
					switch {
					case down:
						want = api.ErrDown
					case count == 0:
						want = api.ErrEmpty
					case count > 1024:
						want = api.ErrMany
					case length > 4096:
						want = api.ErrBig
					case 52*count+length > room:
						want = api.ErrFull
					}
					was := all(st)
					r := e.Append(list)
					if r != want {
						t.Errorf("power off %v, %d leaves, one of %d bytes, room for %d: Append = %d, want %d", down, count, length, room, r, want)
					}
					if want == api.OK {
						if l := leavesOf(t, e); !slices.Equal(l, append(letters(2), list...)) {
							t.Errorf("other leaves: %d of them", len(l))
						}
						continue
					}
					if all(st) != was || e.Size() != 2 {
						t.Errorf("Append = %d, and not all is as it was", r)
					}
					if !down && !slices.Equal(leavesOf(t, e), letters(2)) {
						t.Error("other leaves")
					}
				}
			}
		}
	}
}

// TestFull_15_5: just what fits is taken, all of a batch or nothing, however many bytes there are to spare.
func TestFull_15_5(t *testing.T) {
	for _, lengths := range [][]int{{0}, {1}, {5, 0, 7}, {4096}, {100, 4096, 3}, {0, 0, 0, 0, 0, 0}} {
		var list []string
		want := 0
		for i, n := range lengths {
			list = append(list, strings.Repeat(string(rune('a'+i)), n))
			want += 52 + n
		}
		for slack := -60; slack <= 3; slack++ {
			if want+slack < 0 {
				continue
			}
			st := store.New(53 + 100 + want + slack)
			st.Put("other", strings.Repeat("o", 100-21))
			e := made(t, st, opts, 7)
			appended(t, e, "0")
			was := all(st)
			r := e.Append(list)
			if slack < 0 {
				if r != api.ErrFull || all(st) != was || e.Size() != 1 {
					t.Fatalf("%v with %d to spare: Append = %d, Size %d", lengths, slack, r, e.Size())
				}
			} else if r != api.OK || st.Used() != 153+want || e.Size() != 1+len(list) {
				t.Fatalf("%v with %d to spare: Append = %d, Used %d", lengths, slack, r, st.Used())
			}
		}
	}
}

// TestFullInPlace_15_5: a record that has a new one's key makes room for it.
func TestFullInPlace_15_5(t *testing.T) {
	for slack := -2; slack <= 2; slack++ {
		st := store.New(52 + 10 + 53 + slack)
		e := made(t, st, opts, 1)
		st.Put(key(1, 1, 0), "no frame")
		r := e.Append([]string{"0123456789", "a"})
		if want := slack >= 0; (r == api.OK) != want || r != api.OK && (r != api.ErrFull || st.Used() != 42) {
			t.Errorf("%d to spare: Append = %d, Used %d", slack, r, st.Used())
		}
	}
	// above its room, as a store may be behind a power cut
	st := store.New(1000)
	e := made(t, st, opts, 1)
	appended(t, e, strings.Repeat("x", 900))
	st.Sync()
	image := st.Image()
	small, _ := store.Open(image, 500)
	e = opened(t, small, opts, 1, 1)
	if r := e.Append([]string{""}); r != api.ErrFull || small.Pending() != 0 {
		t.Errorf("a store above its room: Append = %d", r)
	}
}

func TestRecords_15_11(t *testing.T) {
	for _, space := range []int{0, 1, 300, 1 << 40, math.MaxInt} {
		st := store.New(1 << 20)
		e := made(t, st, opts, space)
		want, used := "S", 0
		leaves := []string{"", "a", "\x00", "\xa5", strings.Repeat("\xff", 4096), "a", frame(1, 0, "a")}
		for i := range 300 - len(leaves) {
			leaves = append(leaves, fmt.Sprint("leaf ", i))
		}
		appended(t, e, leaves[:1]...)
		appended(t, e, leaves[1:4]...)
		appended(t, e, leaves[4:]...)
		for i, l := range leaves {
			data := frame(1, i, l)
			want += "\x12" + key(space, 1, i) + string(binary.BigEndian.AppendUint32(nil, uint32(len(data)))) + data
			used += 52 + len(l)
		}
		if st.Pending() != 300 || st.Used() != used || st.Sync() != api.OK || st.Image() != want {
			t.Errorf("space %d: pending %d, Used %d, want %d; other records", space, st.Pending(), st.Used(), used)
		}
	}
}

// TestAppendInOrder_15_11: the records rise: the power goes at each of them, and a beginning is written.
func TestAppendInOrder_15_11(t *testing.T) {
	list := letters(9)
	for n := 1; n <= 10; n++ {
		st := store.New(10000)
		e := made(t, st, opts, 1)
		appended(t, e, "x", "y")
		st.Sync()
		st.Arm(n)
		r := e.Append(list)
		if n == 10 {
			if r != api.OK || e.Size() != 11 {
				t.Errorf("Append = %d", r)
			}
			continue
		}
		if r != api.ErrDown || e.Size() != 2 || st.Pending() != n {
			t.Errorf("the power goes at write %d: Append = %d, Size %d, pending %d", n, r, e.Size(), st.Pending())
		}
		st.Crash("1")
		e = opened(t, st, opts, 1, 2+n)
		if l := leavesOf(t, e); !slices.Equal(l, append([]string{"x", "y"}, list[:n]...)) || st.Pending() != 0 {
			t.Errorf("the power goes at write %d: %q stand", n, l)
		}
	}
}

// TestAnswers_15_6: lists of every length up to where three levels above a full tree are, of widths of all kinds.
func TestAnswers_15_6(t *testing.T) {
	for _, width := range []int{1, 2, 20, 32} {
		st := store.New(1 << 20)
		e := made(t, st, api.Opts{Engine: 1, Width: width}, 1)
		m := &model{width: width}
		for n := range 34 {
			quiet(t, st, func() { same(t, e, m) })
			leaf := fmt.Sprint("leaf ", n*n%7)
			appended(t, e, leaf)
			m.leaves = append(m.leaves, leaf)
		}
	}
}

func TestEdges_15_6(t *testing.T) {
	st := store.New(10000)
	e := made(t, st, opts, 1)
	m := &model{width: 32}
	ints := []int{math.MinInt, math.MinInt + 1, -1 << 62, -1 << 32, -1, 0, 1, 2, 3, 4, 5, 6, 61, 62, 63, 64, 65, 1 << 32, 1<<61 - 1, 1 << 61, 1<<62 - 1, 1 << 62, math.MaxInt - 1, math.MaxInt}
	for _, more := range [][]string{nil, {"a"}, {"b", "c", "d", "e"}} {
		if more != nil {
			appended(t, e, more...)
			m.leaves = append(m.leaves, more...)
		}
		for _, x := range ints {
			if a, want := got(e.Leaf(x)), m.leaf(x); a != want {
				t.Errorf("Leaf(%d) = %v, want %v", x, a, want)
			}
			if a, want := got(e.Root(x)), m.root(x); a != want {
				t.Errorf("Root(%d) = %v, want %v", x, a, want)
			}
			for _, y := range ints {
				at := api.Addr{Level: x, Index: y}
				if a, want := got(e.Node(at)), m.node(at); a != want {
					t.Errorf("Node(%v) = %v, want %v", at, a, want)
				}
			}
		}
		counted(t, e, m)
	}
}

func TestFlush_15_7(t *testing.T) {
	st := store.New(1000)
	e := made(t, st, opts, 1)
	quiet(t, st, func() {
		if r := e.Flush(); r != api.OK {
			t.Errorf("Flush of none = %d", r)
		}
	})
	appended(t, e, "a", "b", "c")
	e.Root(3)
	st.Arm(1)
	quiet(t, st, func() {
		if r := e.Flush(); r != api.OK {
			t.Errorf("Flush = %d", r)
		}
	})
	st.Sync()
	if r := e.Flush(); r != api.ErrDown {
		t.Errorf("Flush with the power off = %d", r)
	}
}

func TestCounts_15_8_15_13(t *testing.T) {
	st := store.New(100000)
	e := made(t, st, opts, 1)
	nodes := 0
	step := func(what string, more int) {
		t.Helper()
		nodes += more
		if c := e.Counts(); c != (api.Counts{Nodes: nodes}) {
			t.Fatalf("behind %s: Counts = %v, want %d", what, c, nodes)
		}
	}
	step("Make", 0)
	e.Root(0)
	step("Root(0)", 0)
	var list []string
	for i := range 100 {
		list = append(list, fmt.Sprint(i))
	}
	appended(t, e, list...)
	step("Append", 0)
	for n := range 101 {
		e.Root(n)
		step("Root", max(0, n-1))
	}
	for level := range 7 {
		e.Node(api.Addr{Level: level, Index: 100>>level - 1})
		step("Node", 1<<level-1)
	}
	for range 3 { // nothing is kept
		e.Root(100)
		step("Root(100)", 99)
	}
	e.Root(101)
	e.Root(-1)
	e.Node(api.Addr{Level: 7})
	e.Node(api.Addr{Level: 1, Index: 50})
	e.Node(api.Addr{Level: 63})
	e.Leaf(5)
	e.Leaf(100)
	e.Append(nil)
	e.Append([]string{strings.Repeat("x", 5000)})
	e.Flush()
	step("refused calls and those that hash nothing", 0)
	st.Sync()
	e, nodes = opened(t, st, opts, 1, 100), 0
	step("Open", 0)
	e.Root(100)
	step("Root(100)", 99)
}

// TestByChance_15_9: scripts of calls, among them refused ones, flushes, syncs and openings anew, against the model.
func TestByChance_15_9(t *testing.T) {
	for seed := range int64(60) {
		r := rand.New(rand.NewSource(seed))
		o := api.Opts{Engine: 1, Width: 1 + r.Intn(32)}
		st := store.New(1 << 22)
		space := r.Intn(3)
		e := made(t, st, o, space)
		m := &model{width: o.Width}
		for range 120 {
			n := len(m.leaves)
			switch r.Intn(8) {
			case 0, 1:
				var list []string
				for range r.Intn(12) {
					list = append(list, strings.Repeat(string(rune(r.Intn(256))), r.Intn(40)))
				}
				want := api.OK
				if len(list) == 0 {
					want = api.ErrEmpty
				} else if r.Intn(9) == 0 {
					list[r.Intn(len(list))] = strings.Repeat("x", 4097)
					want = api.ErrBig
				}
				if a := e.Append(list); a != want {
					t.Fatalf("seed %d: Append = %d, want %d", seed, a, want)
				}
				if want == api.OK {
					m.leaves = append(m.leaves, list...)
				}
			case 2:
				i := r.Intn(n+3) - 1
				if a, want := got(e.Leaf(i)), m.leaf(i); a != want {
					t.Fatalf("seed %d: Leaf(%d) = %v, want %v", seed, i, a, want)
				}
			case 3, 4:
				i := r.Intn(n+3) - 1
				if a, want := got(e.Root(i)), m.root(i); a != want {
					t.Fatalf("seed %d: Root(%d) = %v, want %v", seed, i, a, want)
				}
			case 5:
				level := r.Intn(9) - 1
				at := api.Addr{Level: level, Index: r.Intn(n>>max(level, 0)+2) - 1}
				if a, want := got(e.Node(at)), m.node(at); a != want {
					t.Fatalf("seed %d: Node(%v) = %v, want %v", seed, at, a, want)
				}
			case 6:
				e.Flush()
				st.Sync()
			case 7:
				if r.Intn(4) == 0 {
					e, m.nodes = opened(t, st, o, space, n), 0
				}
			}
			if e.Size() != len(m.leaves) {
				t.Fatalf("seed %d: Size = %d, want %d", seed, e.Size(), len(m.leaves))
			}
			counted(t, e, m)
		}
	}
}

// played is a script on a store: batches of leaves, with a Sync behind those of which bit i of syncs is set. It ends where the power goes.
func played(st *store.Store, e *Engine, batches [][]string, syncs int) (synced, accepted, perhaps []string) {
	for i, list := range batches {
		switch e.Append(list) {
		case api.OK:
			accepted = append(accepted, list...)
		default:
			return synced, accepted, append(slices.Clone(accepted), list...)
		}
		if syncs>>i&1 == 1 {
			if st.Sync() != api.OK {
				return synced, accepted, accepted
			}
			synced = slices.Clone(accepted)
		}
	}
	return synced, accepted, accepted
}

func begins(long, short []string) bool {
	return len(short) <= len(long) && slices.Equal(long[:len(short)], short)
}

// TestABeginningSurvives_15_10: the power goes at each write, or behind all of them, with every choice of what survives; then once more while it is opened.
func TestABeginningSurvives_15_10(t *testing.T) {
	batches := [][]string{{"a"}, {"b", "c"}, {"d", "e", "f"}}
	for syncs := range 8 {
		for at := range 11 {
			for choice := range 1 << 6 {
				st := store.New(10000)
				st.Put(key(1, 1, 0), frame(1, 0, "older"))
				st.Put(key(1, 1, 1), frame(1, 1, "older too"))
				e := made(t, st, opts, 1)
				st.Sync()
				st.Arm(at)
				synced, accepted, perhaps := played(st, e, batches, syncs)
				if pending := st.Pending(); choice>>pending != 0 {
					continue
				}
				keep := make([]byte, 6)
				for i := range keep {
					keep[i] = byte(choice >> i & 1)
				}
				st.Crash(string(keep))
				givenUp(t, st, e, len(accepted), api.Counts{})
				was := st.Image()
				e = opened(t, st, opts, 1, len(synced))
				found := leavesOf(t, e)
				if !begins(found, synced) || !begins(perhaps, found) {
					t.Fatalf("syncs %b, power at %d, choice %b: %q stand of %q, synced were %q", syncs, at, choice, found, perhaps, synced)
				}
				cutAgain(t, was, found)
				if st.Sync() != api.OK {
					t.Fatal("Sync")
				}
				quiet(t, st, func() {
					if l := leavesOf(t, opened(t, st, opts, 1, 0)); !slices.Equal(l, found) {
						t.Fatalf("opened once more: %q, were %q", l, found)
					}
				})
				appended(t, e, "x")
				st.Crash("1")
				if l := leavesOf(t, opened(t, st, opts, 1, 0)); !slices.Equal(l, append(found, "x")) {
					t.Fatalf("behind an Append: %q, were %q", l, found)
				}
			}
		}
	}
}

// cutAgain opens what an image holds with the power going at each write of Open, and keeping each half of them: the list is found all the same.
func cutAgain(t *testing.T, image string, want []string) {
	t.Helper()
	for at := 1; ; at++ {
		done := false
		for _, keep := range []string{"", "1", "10", "01"} {
			st, _ := store.Open(image, 10000)
			st.Arm(at)
			e, r := Open(st, opts, 1, len(want))
			if r == api.OK {
				done = true
				continue
			}
			if r != api.ErrDown || e != nil {
				t.Fatalf("the power goes at write %d of Open: %d", at, r)
			}
			st.Crash(keep)
			if l := leavesOf(t, opened(t, st, opts, 1, 0)); !slices.Equal(l, want) {
				t.Fatalf("the power went at write %d of Open: %q stand, were %q", at, l, want)
			}
		}
		if done {
			return
		}
	}
}

// TestByChance_15_10: longer scripts, cut, opened and gone on with.
func TestByChance_15_10(t *testing.T) {
	for seed := range int64(300) {
		r := rand.New(rand.NewSource(seed))
		st := store.New(1 << 20)
		e := made(t, st, opts, 1)
		st.Sync()
		var before []string
		for range 6 {
			var batches [][]string
			for range r.Intn(8) {
				var list []string
				for range 1 + r.Intn(6) {
					list = append(list, fmt.Sprint(seed, r.Intn(1000)))
				}
				batches = append(batches, list)
			}
			if r.Intn(3) > 0 {
				st.Arm(1 + r.Intn(30))
			}
			synced, _, perhaps := played(st, e, batches, r.Intn(256))
			keep := make([]byte, r.Intn(20))
			r.Read(keep)
			st.Crash(string(keep))
			e = opened(t, st, opts, 1, len(before)+len(synced))
			found := leavesOf(t, e)
			if !begins(found, append(slices.Clone(before), synced...)) || !begins(append(slices.Clone(before), perhaps...), found) {
				t.Fatalf("seed %d: %q stand of %q, behind %q", seed, found, perhaps, before)
			}
			st.Sync()
			before = found
		}
	}
}

// TestStandingList_15_12: each way in which a record may tell no leaf, at each place.
func TestStandingList_15_12(t *testing.T) {
	long := strings.Repeat("x", 4097)
	good := frame(1, 0, "z")
	for at := range 6 {
		k := key(1, 1, at)
		for name, spoil := range map[string]func(st *store.Store){
			"not there":        func(st *store.Store) { st.Cut(k) },
			"empty":            func(st *store.Store) { st.Put(k, "") },
			"rags":             func(st *store.Store) { st.Put(k, "rags") },
			"a bit turned":     func(st *store.Store) { st.Put(k, strings.Replace(frame(1, at, "leaf"), "leaf", "lead", 1)) },
			"cut short":        func(st *store.Store) { st.Put(k, frame(1, at, "leaf")[:20]) },
			"too long a frame": func(st *store.Store) { st.Put(k, frame(1, at, "leaf")+"x") },
			"another number":   func(st *store.Store) { st.Put(k, frame(1, at+1, "leaf")) },
			"another kind":     func(st *store.Store) { st.Put(k, frame(2, at, "leaf")) },
			"too long a leaf":  func(st *store.Store) { st.Put(k, frame(1, at, long)) },
			"none":             func(st *store.Store) {},
			"a longest leaf":   func(st *store.Store) { st.Put(k, frame(1, at, long[:4096])) },
		} {
			want := letters(6)
			switch name {
			case "none":
			case "a longest leaf":
				want[at] = long[:4096]
			default:
				want = want[:at]
			}
			st := store.New(100000)
			e := made(t, st, opts, 1)
			appended(t, e, letters(6)...)
			st.Put(key(0, 1, at), good)
			st.Put(key(2, 1, at), good)
			spoil(st)
			st.Sync()
			keys := st.Keys(key(1, 1, 0)[:9])
			quiet(t, st, func() {
				for _, least := range []int{len(want) + 1, 7, math.MaxInt} {
					if e, r := Open(st, opts, 1, least); e != nil || r != api.ErrLost {
						t.Errorf("%s at %d: Open(.., %d) = %d", name, at, least, r)
					}
				}
			})
			for _, least := range []int{len(want), 0, -1, math.MinInt} {
				same(t, opened(t, st, opts, 1, least), &model{width: 32, leaves: want})
			}
			if cut := len(keys) - len(want); st.Pending() != cut || len(st.Keys("")) != len(want)+2 {
				t.Errorf("%s at %d: pending %d, want %d", name, at, st.Pending(), cut)
			}
		}
	}
}

// TestOtherRecords_15_12: those of every other kind go, the kinds and numbers rising; what is no book key, or another space's, stays.
func TestOtherRecords_15_12(t *testing.T) {
	stays := []string{key(1, 1, 0), key(1, 1, 1), key(0, 7, 0), key(2, 7, 0), key(1, 0, 0), key(1, 1, math.MinInt), key(1, 7, -1), key(1, 2, 0) + "x", key(1, 2, 0)[:17], "other"}
	goes := []string{key(1, 1, 3), key(1, 1, 4), key(1, 1, math.MaxInt)}
	for kind := 2; kind < 256; kind++ {
		goes = append(goes, key(1, kind, 0))
		if kind%50 == 0 {
			goes = append(goes, key(1, kind, 1), key(1, kind, 1<<32))
		}
	}
	slices.Sort(stays)
	fill := func() *store.Store {
		st := store.New(100000)
		for _, k := range append(slices.Clone(stays), goes...) {
			st.Put(k, frame(1, int(k[len(k)-1]), "leaf"))
		}
		st.Sync()
		return st
	}
	st := fill()
	e := opened(t, st, opts, 1, 2)
	if l := leavesOf(t, e); !slices.Equal(l, []string{"leaf", "leaf"}) || !slices.Equal(st.Keys(""), stays) || st.Pending() != len(goes) {
		t.Fatalf("%q stand, pending %d of %d, keys %q", l, st.Pending(), len(goes), st.Keys(""))
	}
	for n := 1; n <= len(goes); n += 1 + n/8 {
		st := fill()
		st.Arm(n)
		if e, r := Open(st, opts, 1, 2); e != nil || r != api.ErrDown || st.Pending() != n {
			t.Fatalf("the power goes at write %d: Open = %d", n, r)
		}
		st.Crash("1")
		rest := append(slices.Clone(stays), goes[n:]...)
		slices.Sort(rest)
		if !slices.Equal(st.Keys(""), rest) {
			t.Fatalf("the power goes at write %d: others were taken out", n)
		}
	}
}

// TestMemory_R4: what is handed in is neither changed nor kept.
func TestMemory_R4(t *testing.T) {
	st := store.New(10000)
	e := made(t, st, opts, 1)
	bytes := []byte("abcdef")
	list := []string{unsafe.String(&bytes[0], 2), unsafe.String(&bytes[2], 2), unsafe.String(&bytes[4], 2), "spare", "room"}
	appended(t, e, list[:3]...)
	if list[3] != "spare" || list[4] != "room" || string(bytes) != "abcdef" {
		t.Errorf("Append changed its list: %q", list)
	}
	copy(bytes, "XXXXXX")
	list[0], list[1] = "other", "leaves"
	same(t, e, &model{width: 32, leaves: []string{"ab", "cd", "ef"}})
	st.Sync()
	same(t, opened(t, st, opts, 1, 3), &model{width: 32, leaves: []string{"ab", "cd", "ef"}})
}

// TestLongLists: so many leaves that a look at all of them for each one that is appended would be seen.
func TestLongLists(t *testing.T) {
	st := store.New(1 << 27)
	e := made(t, st, opts, 1)
	var leaves []string
	for b := range 20 {
		list := make([]string, 1024)
		for i := range list {
			list[i] = fmt.Sprint(b, i)
		}
		appended(t, e, list...)
		leaves = append(leaves, list...)
	}
	st.Sync()
	again := opened(t, st, opts, 1, len(leaves))
	for _, x := range []*Engine{e, again} {
		if a := got(x.Root(len(leaves))); a != (answer{wantRoot(32, leaves), 0}) || x.Size() != len(leaves) {
			t.Errorf("Root = %v", a)
		}
		if a, want := got(x.Leaf(12345)), leaves[12345]; a != (answer{want, 0}) {
			t.Errorf("Leaf = %v", a)
		}
	}
}
