package keeper

import (
	"encoding/binary"
	"fmt"
	"hash/crc32"
	"math"
	"slices"
	"strings"
	"testing"

	"annals/api"
	"annals/store"
)

// key is a book key, by the encoder of the library.
func key(space uint64, kind byte, number uint64) string {
	b := binary.BigEndian.AppendUint64([]byte("B"), space)
	return string(binary.BigEndian.AppendUint64(append(b, kind), number))
}

// frame is a book frame, by the encoder of the library.
func frame(kind byte, number uint64, payload string) string {
	b := binary.BigEndian.AppendUint64([]byte{0xa5, kind}, number)
	b = append(binary.BigEndian.AppendUint32(b, uint32(len(payload))), payload...)
	return string(binary.BigEndian.AppendUint32(b, crc32.ChecksumIEEE(b)))
}

// holding is a store with records under these keys, all durable.
func holding(t *testing.T, capacity int, keys ...string) *store.Store {
	t.Helper()
	st := store.New(capacity)
	for _, k := range keys {
		if e := st.Put(k, "data of "+k); e != api.OK {
			t.Fatalf("Put(%q) = %d", k, e)
		}
	}
	if e := st.Sync(); e != api.OK {
		t.Fatalf("Sync = %d", e)
	}
	return st
}

// off is a store whose power is off.
func off(t *testing.T) *store.Store {
	t.Helper()
	st := store.New(1000)
	st.Arm(1)
	if st.Sync() != api.ErrDown || !st.Down() {
		t.Fatal("the power is on")
	}
	return st
}

func opened(t *testing.T, st *store.Store, space int) Keeper {
	t.Helper()
	k, e := Open(st, space)
	if e != api.OK {
		t.Fatalf("Open(%d) = %d", space, e)
	}
	return k
}

func TestOptsGo_15_1(t *testing.T) {
	for engine := -1; engine < 6; engine++ {
		for _, own := range []int{math.MinInt, -1, 0, 1, 2, 3, 4, math.MaxInt} {
			for _, width := range []int{math.MinInt, -32, -1, 0, 1, 2, 31, 32, 33, 64, 256 + 1, math.MaxInt} {
				for _, other := range []int{0, 1, -5, math.MaxInt} {
					o := api.Opts{Engine: own, Width: width, Bundle: other, Height: other, Cache: other, Bits: other}
					if got, want := OptsGo(o, engine), own == engine && width >= 1 && width <= 32; got != want {
						t.Fatalf("OptsGo(%v, %d) = %v", o, engine, got)
					}
				}
			}
		}
	}
}

func TestBatchGoes_15_5(t *testing.T) {
	long := strings.Repeat("x", 4097)
	many := make([]string, 1025)
	longMany := append(make([]string, 1024), long)
	most := make([]string, 1024)
	for _, c := range []struct {
		list []string
		size int
		want api.Errno
	}{
		{nil, 0, api.ErrEmpty}, {[]string{}, 1 << 62, api.ErrEmpty}, {[]string{""}, 0, api.OK}, {[]string{long[:4096]}, 7, api.OK},
		{most, 0, api.OK}, {many, 0, api.ErrMany}, {longMany, 0, api.ErrMany}, {many, 1 << 62, api.ErrMany}, {make([]string, 1<<20), 0, api.ErrMany},
		{[]string{long}, 0, api.ErrBig}, {[]string{"", "a", long}, 0, api.ErrBig}, {[]string{long, "a", ""}, 0, api.ErrBig}, {[]string{"", long, "a"}, 1 << 62, api.ErrBig},
		{longMany[1:], 0, api.ErrBig},
		{[]string{"a"}, 1<<62 - 1, api.OK}, {[]string{"a"}, 1 << 62, api.ErrRange}, {[]string{"a", "b"}, 1<<62 - 1, api.ErrRange},
		{most, 1<<62 - 1024, api.OK}, {most, 1<<62 - 1023, api.ErrRange},
	} {
		if got := BatchGoes(c.list, c.size); got != c.want {
			t.Errorf("BatchGoes(%d leaves, %d) = %d, want %d", len(c.list), c.size, got, c.want)
		}
	}
}

func TestTaking_15_3_15_4(t *testing.T) {
	for name, take := range map[string]func(*store.Store, int) (Keeper, api.Errno){"Make": Make, "Open": Open} {
		on, down := holding(t, 1000), off(t)
		for _, c := range []struct {
			st    *store.Store
			space int
			want  api.Errno
		}{
			{on, 0, api.OK}, {on, 1, api.OK}, {on, math.MaxInt, api.OK}, {on, -1, api.ErrRange}, {on, math.MinInt, api.ErrRange},
			{down, 0, api.ErrDown}, {down, -1, api.ErrRange}, {nil, 1, api.ErrDown}, {nil, -1, api.ErrRange},
		} {
			k, e := take(c.st, c.space)
			if e != c.want || e != api.OK && k != (Keeper{}) || e == api.OK && k.Gone() {
				t.Errorf("%s(%d) = %v, %d, want %d", name, c.space, k, e, c.want)
			}
		}
		if on.Pending() != 0 {
			t.Errorf("%s wrote %d", name, on.Pending())
		}
	}
}

func TestMakeWipes_15_3(t *testing.T) {
	keys := []string{key(6, 1, 0), key(7, 1, 0), key(7, 1, 5), key(7, 200, 1), key(7, 1, 9) + "x", key(7, 0, 0)[:9], key(8, 1, 0), "B", "x"}
	kept := []string{"B", key(6, 1, 0), key(8, 1, 0), "x"}
	st := holding(t, 10000, keys...)
	if _, e := Make(st, 7); e != api.OK || !slices.Equal(st.Keys(""), kept) || st.Pending() != 5 {
		t.Errorf("Make = %d, keys %q, pending %d", e, st.Keys(""), st.Pending())
	}
	for n := 1; n <= 5; n++ {
		st := holding(t, 10000, keys...)
		st.Arm(n)
		if k, e := Make(st, 7); e != api.ErrDown || k != (Keeper{}) || st.Pending() != n {
			t.Errorf("the power goes at write %d: Make = %v, %d", n, k, e)
		}
	}
}

func TestGone_15_2(t *testing.T) {
	if !(Keeper{}).Gone() {
		t.Error("one without a store stands")
	}
	st := store.New(1000)
	st.Crash("")
	k := opened(t, st, 1)
	if k.Gone() {
		t.Error("gone at once")
	}
	st.Arm(2)
	st.Put("a", "")
	if k.Gone() {
		t.Error("gone with the power on")
	}
	st.Sync()
	if !k.Gone() {
		t.Error("stands with the power off")
	}
	for range 3 {
		st.Crash("1")
		if !k.Gone() {
			t.Error("stands behind a power cut")
		}
	}
	if again := opened(t, st, 1); again.Gone() {
		t.Error("one of the new age is gone")
	}
}

func TestFits_15_5(t *testing.T) {
	record := func(kind, number, length int) Record { return Record{kind, number, strings.Repeat("p", length)} }
	for _, c := range []struct {
		list []Record
		more int // how many bytes Used grows by
	}{
		{nil, 0},
		{[]Record{record(1, 5, 0)}, 52},
		{[]Record{record(1, 5, 100)}, 152},
		{[]Record{record(1, 5, 3), record(1, 6, 4), record(255, 1<<62, 5)}, 3*52 + 12},
		{[]Record{record(1, 0, 10)}, 0},  // in the place of one that is as long
		{[]Record{record(1, 0, 13)}, 3},  // .. and longer
		{[]Record{record(1, 0, 0)}, -10}, // .. and shorter
		{[]Record{record(2, 0, 0)}, 52 - 16 - 18 - 4},
		{[]Record{record(1, 0, 20), record(1, 1, 1), record(2, 0, 0)}, 10 + 53 + 14},
	} {
		for slack := -2; slack <= 2; slack++ {
			// one framed record, one that is no frame, one of another space
			full := store.New(10000)
			full.Put(key(3, 1, 0), frame(1, 0, "0123456789"))
			full.Put(key(3, 2, 0), "rags")
			full.Put(key(4, 1, 5), frame(1, 5, "x"))
			full.Sync()
			used := 62 + 38 + 53
			st, e := store.Open(full.Image(), used+c.more+slack)
			if e != api.OK || st.Used() != used {
				t.Fatalf("a store that uses %d: %d", st.Used(), e)
			}
			if got, want := opened(t, st, 3).Fits(c.list), slack >= 0; got != want {
				t.Errorf("%v with a slack of %d: %v", c.list, slack, got)
			}
			if st.Pending() != 0 {
				t.Error("Fits wrote")
			}
			if e := opened(t, full, 3).Put(c.list); e != api.OK || full.Used() != used+c.more {
				t.Errorf("Put(%v) = %d, Used %d", c.list, e, full.Used())
			}
		}
	}
}

func TestPutGet_15_5(t *testing.T) {
	list := []Record{{4, 2, "two"}, {3, 1, ""}, {1, 0, "none"}, {1, 7, "seven"}}
	for n := 0; n <= len(list); n++ {
		st := store.New(1000)
		k := opened(t, st, 9)
		st.Arm(n)
		want := api.OK
		if n > 0 {
			want = api.ErrDown
		}
		if e := k.Put(list); e != want {
			t.Fatalf("the power goes at write %d: Put = %d", n, e)
		}
		st.Crash("1")
		k = opened(t, st, 9)
		for i, r := range list {
			p, e := k.Get(r.Kind, r.Number)
			if n == 0 || i < n {
				if p != r.Payload || e != api.OK {
					t.Errorf("Get(%v) = %q, %d", r, p, e)
				}
			} else if p != "" || e != api.ErrNone {
				t.Errorf("Get(%v) = %q, %d, which was not written", r, p, e)
			}
		}
	}
	st := holding(t, 1000, key(9, 1, 0))
	if p, e := opened(t, st, 9).Get(1, 0); p != "" || e != api.ErrSpoilt {
		t.Errorf("Get of rags = %q, %d", p, e)
	}
	small := store.New(100)
	if e := opened(t, small, 1).Put([]Record{{1, 0, ""}, {1, 1, ""}, {1, 2, ""}}); e != api.ErrFull || small.Pending() != 1 {
		t.Errorf("Put where there is no room = %d, pending %d", e, small.Pending())
	}
}

// TestPurge_15_4: what does not belong goes, kinds and numbers rising; what is no book key, or another space's, stays.
func TestPurge_15_4(t *testing.T) {
	stays := []string{key(3, 1, 0), key(5, 1, 0), key(4, 0, 0), key(4, 0, 9), key(4, 1, 1<<63), key(4, 1, 0) + "x", key(4, 1, 0)[:17], key(4, 1, 0)[:9], key(4, 7, 0)[:10], "C", "B"}
	belong := []string{key(4, 1, 0), key(4, 1, 1), key(4, 3, 256), key(4, 255, 2)}
	var goes []string
	for _, kind := range []byte{1, 2, 3, 66, 128, 254, 255} {
		for _, number := range []uint64{3, 255, 257, 1 << 32, 1<<63 - 1} {
			goes = append(goes, key(4, kind, number))
		}
	}
	all := slices.Concat(stays, belong, goes)
	belongs := func(kind, number int) bool {
		if kind < 1 || kind > 255 || number < 0 {
			t.Errorf("asked for kind %d, number %d", kind, number)
		}
		return slices.Contains(belong, key(4, byte(kind), uint64(number)))
	}
	for n := 0; n <= len(goes); n++ {
		st := holding(t, 100000, all...)
		st.Arm(n)
		left := goes[n:]
		want := api.ErrDown
		if n == 0 {
			left, want = nil, api.OK
		}
		if e := opened(t, st, 4).Purge(belongs); e != want {
			t.Fatalf("the power goes at write %d: Purge = %d", n, e)
		}
		st.Crash("1")
		rest := slices.Concat(stays, belong, left)
		slices.Sort(rest)
		if !slices.Equal(st.Keys(""), rest) {
			t.Fatalf("the power goes at write %d: left %q, want %q", n, st.Keys(""), rest)
		}
	}
}

func ExampleKeeper() {
	st := store.New(1000)
	k, _ := Make(st, 1)
	records := []Record{{Kind: 1, Number: 0, Payload: "a"}, {Kind: 1, Number: 1, Payload: "b"}}
	fmt.Println(k.Fits(records), int(k.Put(records)), st.Used())
	// Output: true 0 106
}
