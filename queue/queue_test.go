package queue

import (
	"fmt"
	"math"
	"math/rand"
	"slices"
	"strings"
	"testing"

	"annals/api"
	"annals/seat"
	"annals/store"
)

const (
	room   = 1 << 20
	latest = 1 << 53 // the greatest time
	behind = 1 << 62 // the first place that there is not
)

// chapter are the options of the chapter's examples; wide lets everything through.
var (
	chapter = api.QueueOpts{Secret: "s", Delay: 100, Rate: 500, Burst: 2, Most: 3}
	wide    = api.QueueOpts{Secret: "secret", Delay: 7, Rate: 1000, Burst: 1000000, Most: 1000000}
)

// TestExamples: the chapter's table, line by line; the model answers alike.
func TestExamples(t *testing.T) {
	for _, last := range []bool{false, true} {
		p := newPair(t, 100000, chapter)
		wants := func(want api.Errno, now int, who, leaf string) {
			t.Helper()
			if e := p.submit(now, who, leaf); e != want {
				t.Errorf("Submit(%d, %s, %.9s) = %d, want %d", now, who, leaf, int(e), int(want))
			}
		}
		wants(api.OK, 10, "ann", "a")
		wants(api.OK, 10, "ann", "b")
		wants(api.ErrQuota, 10, "ann", "c")
		wants(api.OK, 10, "ann", "a")
		wants(api.ErrTime, 9, "bob", "c")
		wants(api.ErrQuota, 11, "ann", "c")
		wants(api.OK, 12, "ann", "c")
		wants(api.ErrMany, 12, "bob", "d")
		q := p.q
		if got := fmt.Sprint(q.Waiting(), q.Batch(11, 9), q.Batch(12, 1)); got != "3 [a b] [a]" {
			t.Error("Waiting and Batch:", got)
		}
		finds(t, q, "a", 0, api.ErrNone)
		if p.place(7, "a", "x", "c") != api.OK {
			t.Error("Placed")
		}
		finds(t, q, "a", 7, api.OK)
		finds(t, q, "c", 9, api.OK)
		finds(t, q, "b", 0, api.ErrNone)
		if p.place(0, "a") != api.OK || p.place(-1) != api.ErrPlace || q.Waiting() != 1 {
			t.Error("Placed again, or below 0")
		}
		finds(t, q, "a", 7, api.OK)
		if late := q.Late(111); len(q.Late(110)) != 0 || len(late) != 1 || late[0] != wantPromise(chapter, "b", 10) {
			t.Errorf("Late(111) = %+v", late)
		}
		if last {
			wants(api.OK, latest, "ann", "e")
			if got, _ := q.Submit(latest, "ann", "e"); got.Due != latest {
				t.Errorf("Due is %d", got.Due)
			}
			continue
		}
		wants(api.ErrBig, 20, "ann", strings.Repeat("x", 4097))
		wants(api.ErrTime, 19, "ann", "a")
	}
}

func finds(t *testing.T, q *Queue, leaf string, want int, r api.Errno) {
	t.Helper()
	if got, e := q.Find(leaf); got != want || e != r {
		t.Errorf("Find(%.20q) = %d, %d, want %d, %d", leaf, got, int(e), want, int(r))
	}
}

// off is a store whose power is off.
func off(t *testing.T) *store.Store {
	t.Helper()
	st := store.New(room)
	st.Arm(1)
	if st.Sync() != api.ErrDown {
		t.Fatal("the power is on")
	}
	return st
}

func TestOptions_21_4(t *testing.T) {
	good := api.QueueOpts{Delay: 5, Rate: 5, Burst: 5, Most: 5}
	fields := []struct {
		low, high int
		set       func(o *api.QueueOpts, v int)
	}{
		{0, latest, func(o *api.QueueOpts, v int) { o.Delay = v }},
		{0, 1000000, func(o *api.QueueOpts, v int) { o.Rate = v }},
		{1, 1000000, func(o *api.QueueOpts, v int) { o.Burst = v }},
		{1, 1000000, func(o *api.QueueOpts, v int) { o.Most = v }},
	}
	for i, f := range fields {
		for _, v := range []int{math.MinInt, -latest, -1, 0, 1, 2, 999999, 1000000, 1000001, 1 << 32, latest - 1, latest, latest + 1, 1 << 62, math.MaxInt} {
			o := good
			f.set(&o, v)
			want := api.OK
			if v < f.low || v > f.high {
				want = api.ErrOpts
			}
			if q, e := Open(store.New(room), o); e != want || (q == nil) != (e != api.OK) {
				t.Errorf("field %d is %d: Open = %d, want %d", i, v, int(e), int(want))
			}
		}
	}
	for _, secret := range []string{"", "\x00", "\xff\n", strings.Repeat("k", 1000)} {
		good.Secret = secret
		q := opened(t, store.New(room), good)
		if p, e := q.Submit(3, "", ""); e != api.OK || p != wantPromise(good, "", 3) {
			t.Errorf("with the secret %.9q Submit = %+v, %d", secret, p, int(e))
		}
	}
}

// TestOpenOrder_21_4: options are looked at first, then the power, then the records.
func TestOpenOrder_21_4(t *testing.T) {
	down, spoilt := off(t), store.New(room)
	spoilt.Put(recordKey(at, 1, 0), "x")
	for _, c := range []struct {
		st   *store.Store
		o    api.QueueOpts
		want api.Errno
	}{
		{down, chapter, api.ErrDown}, {down, api.QueueOpts{}, api.ErrOpts}, {spoilt, api.QueueOpts{}, api.ErrOpts}, {spoilt, chapter, api.ErrSpoilt},
		{nil, chapter, api.ErrDown}, {nil, api.QueueOpts{}, api.ErrOpts},
	} {
		if q, e := Open(c.st, c.o); q != nil || e != c.want {
			t.Errorf("Open = %v, %d, want %d", q, int(e), int(c.want))
		}
	}
	spoilt.Arm(1)
	spoilt.Sync()
	if q, e := Open(spoilt, chapter); q != nil || e != api.ErrDown {
		t.Errorf("Open with the power off = %v, %d", q, int(e))
	}
}

// record is a record of a queue's space.
type record struct {
	kind    byte
	number  uint64
	payload string
}

// holding is a store with records of the queue's space.
func holding(t *testing.T, records ...record) *store.Store {
	t.Helper()
	st := store.New(room)
	for _, r := range records {
		if e := st.Put(recordKey(at, r.kind, r.number), frame(r.kind, r.number, r.payload)); e != api.OK {
			t.Fatalf("Put = %d", int(e))
		}
	}
	return st
}

func TestOpenRecords_21_4(t *testing.T) {
	five, most := eight(5), strings.Repeat("x", 4096)
	a, b := record{1, 0, five + "a"}, record{1, 1, five + "b"}
	for name, c := range map[string]struct {
		list []record
		goes bool
	}{
		"none":                        {nil, true},
		"one":                         {[]record{a}, true},
		"an empty leaf":               {[]record{{1, 0, five}}, true},
		"the longest leaf":            {[]record{{1, 0, five + most}}, true},
		"a leaf too long":             {[]record{{1, 0, five + most + "x"}}, false},
		"seven bytes":                 {[]record{{1, 0, five[1:]}}, false},
		"no bytes":                    {[]record{{1, 0, ""}}, false},
		"the first time":              {[]record{{1, 0, eight(0) + "a"}}, true},
		"the greatest time":           {[]record{{1, 0, eight(latest) + "a"}}, true},
		"no time":                     {[]record{{1, 0, eight(latest+1) + "a"}}, false},
		"a time below 0":              {[]record{{1, 0, eight(math.MaxUint64) + "a"}}, false},
		"a time of 2^63":              {[]record{{1, 0, eight(1<<63) + "a"}}, false},
		"two":                         {[]record{a, b}, true},
		"times that fall":             {[]record{a, {1, 1, eight(4) + "b"}}, true},
		"one leaf twice":              {[]record{a, {1, 1, eight(6) + "a"}}, false},
		"the empty leaf twice":        {[]record{{1, 0, five}, {1, 1, five}}, false},
		"one leaf twice, apart":       {[]record{a, b, {1, 2, eight(6) + "a"}}, false},
		"no first":                    {[]record{b}, false},
		"a gap":                       {[]record{a, {1, 2, five + "c"}}, false},
		"a great number":              {[]record{a, {1, math.MaxInt64, five + "c"}}, false},
		"a bad one behind":            {[]record{a, b, {1, 2, "x"}}, false},
		"placed":                      {[]record{a, {2, 0, eight(9)}}, true},
		"placed first":                {[]record{a, {2, 0, eight(0)}}, true},
		"placed last":                 {[]record{a, {2, 0, eight(behind - 1)}}, true},
		"placed behind the end":       {[]record{a, {2, 0, eight(behind)}}, false},
		"placed far":                  {[]record{a, {2, 0, eight(math.MaxUint64)}}, false},
		"placed in seven bytes":       {[]record{a, {2, 0, eight(9)[1:]}}, false},
		"placed in nine bytes":        {[]record{a, {2, 0, eight(9) + "x"}}, false},
		"placed in no bytes":          {[]record{a, {2, 0, ""}}, false},
		"a place of nothing":          {[]record{{2, 0, eight(9)}}, false},
		"a place behind the last":     {[]record{a, {2, 1, eight(9)}}, false},
		"a place of a great number":   {[]record{a, {2, math.MaxInt64, eight(9)}}, false},
		"the second is placed":        {[]record{a, b, {2, 1, eight(9)}}, true},
		"both at one place":           {[]record{a, b, {2, 0, eight(9)}, {2, 1, eight(9)}}, true},
		"both, the second badly":      {[]record{a, b, {2, 0, eight(9)}, {2, 1, "x"}}, false},
		"other kinds":                 {[]record{a, {3, 0, "x"}, {255, 7, ""}, {4, 1, five + "a"}}, true},
		"other kinds beside a place":  {[]record{a, {2, 0, eight(3)}, {3, 9, eight(3)}}, true},
		"another kind and no records": {[]record{{3, 0, "x"}}, true},
	} {
		st := holding(t, c.list...)
		before := st.Pending()
		q, e := Open(st, chapter)
		if c.goes != (e == api.OK) || c.goes != (q != nil) || !c.goes && e != api.ErrSpoilt {
			t.Errorf("%s: Open = %v, %d", name, q, int(e))
		}
		if st.Pending() != before {
			t.Errorf("%s: Open writes", name)
		}
	}
}

// TestOpenFrames_21_4: records that book.Get refuses; keys and spaces that are none of the queue's.
func TestOpenFrames_21_4(t *testing.T) {
	good := []record{{1, 0, eight(5) + "a"}, {1, 1, eight(5) + "b"}, {2, 1, eight(9)}}
	for _, r := range good {
		whole := frame(r.kind, r.number, r.payload)
		bad := []string{"", "x", whole + "x", whole[1:], frame(3, r.number, r.payload), frame(r.kind, r.number+5, r.payload)}
		for i := range whole {
			turned := []byte(whole)
			turned[i] ^= 4
			bad = append(bad, string(turned), whole[:i])
		}
		for _, data := range bad {
			st := holding(t, good...)
			st.Put(recordKey(at, r.kind, r.number), data)
			if q, e := Open(st, chapter); q != nil || e != api.ErrSpoilt {
				t.Fatalf("record %d %d is %x: Open = %d", r.kind, r.number, data, int(e))
			}
		}
	}
	st := holding(t, good...)
	key := recordKey(at, 1, 0)
	for _, k := range []string{key + "x", key[:17], "C" + key[1:], recordKey(at+1, 1, 7), recordKey(at-1, 1, 0), recordKey(0, 2, 0), recordKey(at, 0, 0), recordKey(at, 1, 1<<63), recordKey(at, 2, 1<<63)} {
		st.Put(k, "x")
	}
	if q := opened(t, st, chapter); q.Waiting() != 1 {
		t.Errorf("%d wait", q.Waiting())
	}
}

// TestOpenQueue_21_4: what a queue that was opened has: submissions, places, the greatest time, and full buckets.
func TestOpenQueue_21_4(t *testing.T) {
	st := holding(t, record{1, 0, eight(5) + "a"}, record{1, 1, eight(30) + "b"}, record{1, 2, eight(20)}, record{2, 1, eight(9)})
	q := opened(t, st, chapter)
	if got := q.Batch(29, 9); !slices.Equal(got, []string{"a", ""}) || q.Waiting() != 2 {
		t.Errorf("Batch = %q", got)
	}
	finds(t, q, "b", 9, api.OK)
	finds(t, q, "", 0, api.ErrNone)
	if p, e := q.Submit(29, "ann", "b"); e != api.ErrTime || p != (api.Promise{}) {
		t.Errorf("below the clock: %+v, %d", p, int(e))
	}
	for leaf, time := range map[string]int{"a": 5, "b": 30, "": 20} {
		if p, e := q.Submit(30, "ann", leaf); e != api.OK || p != wantPromise(chapter, leaf, time) {
			t.Errorf("the promise of %q is %+v, %d", leaf, p, int(e))
		}
	}
	if _, e := q.Submit(30, "ann", "c"); e != api.OK || q.Waiting() != 3 {
		t.Errorf("a new leaf: %d", int(e))
	}
	if data, _ := st.Get(recordKey(at, 1, 3)); data != frame(1, 3, eight(30)+"c") {
		t.Errorf("its record is %x", data)
	}
	none := opened(t, store.New(room), chapter)
	if _, e := none.Submit(0, "ann", "a"); e != api.OK {
		t.Errorf("a new clock is not 0: %d", int(e))
	}
}

// TestOpenBuckets_21_4: an opened queue has met nobody.
func TestOpenBuckets_21_4(t *testing.T) {
	p := newPair(t, room, api.QueueOpts{Burst: 1, Most: 9})
	for _, leaf := range []string{"a", "b", "c"} {
		if p.submit(1, "ann", leaf) != api.OK || p.submit(1, "ann", "x") != api.ErrQuota {
			t.Error("the bucket of ann")
		}
		p.reopen()
	}
}

// TestMostAtOpen_21_5: a queue may be opened with fewer that may wait than wait.
func TestMostAtOpen_21_5(t *testing.T) {
	p := newPair(t, room, wide)
	for _, leaf := range []string{"a", "b", "c"} {
		p.submit(1, "ann", leaf)
	}
	p.m.o.Most = 2
	p.reopen()
	if p.submit(1, "ann", "d") != api.ErrMany || p.submit(1, "ann", "c") != api.OK {
		t.Error("three wait where two may")
	}
	p.place(0, "a")
	if p.submit(1, "ann", "d") != api.ErrMany {
		t.Error("two wait where two may")
	}
	p.place(1, "b")
	if p.submit(1, "ann", "d") != api.OK || p.submit(1, "ann", "e") != api.ErrMany {
		t.Error("one waits where two may")
	}
}

func TestRecords_21_2(t *testing.T) {
	st := store.New(room)
	q := opened(t, st, wide)
	long := strings.Repeat("y", 4096)
	q.Submit(258, "ann", "a\x00")
	q.Submit(latest-1, "ann", "")
	q.Submit(latest, "bob", long)
	if st.Pending() != 0 {
		t.Errorf("%d writes are pending behind promises", st.Pending())
	}
	q.Placed(behind-3, []string{"", "x", long})
	want := []record{{1, 0, eight(258) + "a\x00"}, {1, 1, eight(latest - 1)}, {1, 2, eight(latest) + long}, {2, 1, eight(behind - 3)}, {2, 2, eight(behind - 1)}}
	if len(st.Keys("")) != len(want) || st.Pending() != 2 {
		t.Errorf("keys %x, %d pending", st.Keys(""), st.Pending())
	}
	for _, r := range want {
		if data, e := st.Get(recordKey(at, r.kind, r.number)); data != frame(r.kind, r.number, r.payload) || e != api.OK {
			t.Errorf("record %d %d is %.40x, %d", r.kind, r.number, data, int(e))
		}
	}
}

// down looks whether a queue refuses all, and tells of the two that wait all the same.
func down(t *testing.T, q *Queue, when string) {
	t.Helper()
	pending, image := q.st.Pending(), q.st.Image()
	for range 2 {
		for _, now := range []int{-1, 0, 20, latest + 1} {
			for _, leaf := range []string{"a", "b", "c", "new", strings.Repeat("x", 4097)} {
				if p, e := q.Submit(now, "ann", leaf); p != (api.Promise{}) || e != api.ErrDown {
					t.Errorf("%s: Submit(%d, %.9q) = %+v, %d", when, now, leaf, p, int(e))
				}
				if place, e := q.Find(leaf); place != 0 || e != api.ErrDown {
					t.Errorf("%s: Find(%.9q) = %d, %d", when, leaf, place, int(e))
				}
				if e := q.Placed(now, []string{leaf}); e != api.ErrDown {
					t.Errorf("%s: Placed(%d, %.9q) = %d", when, now, leaf, int(e))
				}
			}
		}
		late := q.Late(200)
		if q.Waiting() != 2 || !slices.Equal(q.Batch(200, 9), []string{"a", "c"}) || len(late) != 2 || late[1] != wantPromise(chapter, "c", 20) {
			t.Errorf("%s: %d wait, Batch %q, Late %+v", when, q.Waiting(), q.Batch(200, 9), late)
		}
	}
	if q.st.Pending() != pending || q.st.Image() != image {
		t.Errorf("%s: something was written", when)
	}
}

func TestGivenUp_21_3(t *testing.T) {
	start := func() *Queue {
		q := opened(t, store.New(room), chapter)
		q.Submit(10, "ann", "a")
		q.Submit(10, "ann", "b")
		q.Submit(20, "ann", "c")
		q.Placed(4, []string{"b"})
		return q
	}
	q := start()
	q.st.Crash("1")
	down(t, q, "cut, and not looked at ahead of it")
	q = start()
	q.st.Arm(1)
	q.st.Put("other", "")
	down(t, q, "off by another's write")
	q.st.Crash("")
	down(t, q, "on again")
	q = start()
	q.st.Arm(1)
	if e := q.Placed(5, []string{"x", "a", "c"}); e != api.ErrDown {
		t.Errorf("Placed = %d", int(e))
	}
	down(t, q, "off by the first Put of Placed")
	for n := 1; n <= 2; n++ {
		q = start()
		q.opts.Most = 9
		q.st.Arm(n)
		if p, e := q.Submit(30, "ann", "d"); p != (api.Promise{}) || e != api.ErrDown {
			t.Errorf("Submit = %+v, %d", p, int(e))
		}
		down(t, q, fmt.Sprint("off by write ", n, " of Submit"))
		q.st.Crash("1")
		down(t, q, "and on again")
		if again := opened(t, q.st, chapter); again.Waiting() != 3 {
			t.Errorf("%d wait in the opened one", again.Waiting())
		}
	}
}

// TestPlacedPower_21_9: what came ahead of the write at which the power went is placed.
func TestPlacedPower_21_9(t *testing.T) {
	leaves := []string{"a", "x", "b", "a", "c", "d"}
	for n := 1; n <= 4; n++ {
		p := newPair(t, room, wide)
		for _, leaf := range []string{"d", "c", "b", "a"} {
			p.submit(1, "ann", leaf)
		}
		p.stores(func(st *store.Store) { st.Arm(n) })
		if e := p.place(3, leaves...); e != api.ErrDown || p.q.Waiting() != 5-n {
			t.Errorf("the power goes at write %d: %d, %d wait", n, int(e), p.q.Waiting())
		}
		p.batch(1, 9)
		p.late(100)
		for _, keep := range []string{"\x01", "\x00\x01", "\x01\x00"} {
			image := p.q.st.Image()
			p.stores(func(st *store.Store) { st.Crash(keep) })
			p.reopen()
			for _, leaf := range leaves {
				p.find(leaf)
			}
			p.alike()
			if p.place(3, leaves...) != api.OK || p.q.Waiting() != 0 {
				t.Errorf("handed in again behind %q: %d wait", image, p.q.Waiting())
			}
		}
	}
}

// TestRefusals_21_5: of two that apply the first is answered, and the clock is now but for ErrTime.
func TestRefusals_21_5(t *testing.T) {
	long := strings.Repeat("x", 4097)
	start := func() *pair {
		p := newPair(t, 61*2, api.QueueOpts{Delay: 1, Burst: 1, Most: 2}) // a submission of one byte counts 61
		p.submit(10, "ann", "a")
		return p
	}
	full := func() *pair { p := start(); p.submit(10, "bob", "b"); return p }
	for name, c := range map[string]struct {
		p         *pair
		now       int
		who, leaf string
		want      api.Errno
	}{
		"time ahead of long":           {start(), 9, "ann", long, api.ErrTime},
		"time ahead of a known leaf":   {start(), 9, "ann", "a", api.ErrTime},
		"no time":                      {start(), latest + 1, "zoe", "a", api.ErrTime},
		"below 0":                      {start(), -1, "zoe", "a", api.ErrTime},
		"the least int":                {start(), math.MinInt, "zoe", "c", api.ErrTime},
		"the greatest int":             {start(), math.MaxInt, "zoe", "c", api.ErrTime},
		"long ahead of quota":          {start(), 11, "ann", long, api.ErrBig},
		"long ahead of many":           {full(), 11, "zoe", long, api.ErrBig},
		"a known leaf ahead of quota":  {start(), 11, "ann", "a", api.OK},
		"a known leaf ahead of many":   {full(), 11, "zoe", "b", api.OK},
		"quota ahead of many":          {full(), 11, "bob", "c", api.ErrQuota},
		"quota ahead of full":          {start(), 11, "ann", "cc", api.ErrQuota},
		"many ahead of full":           {full(), 11, "zoe", "cc", api.ErrMany},
		"full":                         {start(), 11, "zoe", "cc", api.ErrFull},
		"the greatest time, and full":  {start(), latest, "zoe", "cc", api.ErrFull},
		"the greatest time":            {start(), latest, "zoe", "c", api.OK},
		"the greatest time, and quota": {start(), latest, "ann", "c", api.ErrQuota},
		"just room":                    {start(), 10, "zoe", "c", api.OK},
		"the empty leaf":               {start(), 10, "", "", api.OK},
	} {
		if e := c.p.submit(c.now, c.who, c.leaf); e != c.want {
			t.Errorf("%s: %d, want %d", name, int(e), int(c.want))
		}
		clock := 10
		if c.want != api.ErrTime {
			clock = c.now
		}
		if c.p.submit(clock-1, "q", "a") != api.ErrTime || c.p.submit(clock, "q", "a") != api.OK {
			t.Errorf("%s: the clock is not %d", name, clock)
		}
	}
}

// TestFull_21_5: refused leaves cost nothing, and their numbers are given to others.
func TestFull_21_5(t *testing.T) {
	p := newPair(t, 61+62, api.QueueOpts{Burst: 1, Most: 9})
	for range 3 {
		if p.submit(1, "ann", strings.Repeat("l", 80)) != api.ErrFull {
			t.Error("it fits")
		}
	}
	if p.submit(1, "ann", "a") != api.OK || p.submit(1, "bob", "abc") != api.ErrFull || p.submit(1, "bob", "ab") != api.OK {
		t.Error("what fits is not taken")
	}
	if p.place(0, "ab") != api.ErrFull || p.q.Waiting() != 2 {
		t.Error("a place fits")
	}
}

// TestFullPlaced_21_9: what came ahead of the record that does not fit is placed, what is behind is not.
func TestFullPlaced_21_9(t *testing.T) {
	for fit := range 5 {
		p := newPair(t, 4*61+fit*60, wide) // a place counts 60
		for _, leaf := range []string{"a", "b", "c", "d"} {
			p.submit(1, "ann", leaf)
		}
		want := api.ErrFull
		if fit == 4 {
			want = api.OK
		}
		if e := p.place(5, "d", "x", "c", "d", "b", "a"); e != want || p.q.Waiting() != 4-fit {
			t.Errorf("%d places fit: %d, %d wait", fit, int(e), p.q.Waiting())
		}
		for _, leaf := range []string{"a", "b", "c", "d", "x"} {
			p.find(leaf)
		}
		p.batch(1, 9)
		if p.place(5, "x", "d") != api.OK && fit > 0 {
			t.Error("a placed leaf wants room")
		}
	}
}

func TestBuckets_21_6(t *testing.T) {
	for _, o := range []api.QueueOpts{
		{Rate: 0, Burst: 1, Most: 100000}, {Rate: 0, Burst: 3, Most: 100000}, {Rate: 1, Burst: 2, Most: 100000}, {Rate: 333, Burst: 1, Most: 100000}, {Rate: 999, Burst: 2, Most: 100000},
		{Rate: 1000, Burst: 1, Most: 100000}, {Rate: 1001, Burst: 2, Most: 100000}, {Rate: 1000000, Burst: 1, Most: 100000}, {Rate: 1000000, Burst: 5, Most: 100000}, {Rate: 1024, Burst: 3, Most: 100000}, {Rate: 1 << 19, Burst: 2, Most: 100000},
	} {
		for _, steps := range [][]int{{0, 1}, {0, 0, 1, 2, 3, 500}, {0, 1000, 999, 1}, {1 << 33, 0, 0}, {1 << 44, 1 << 43, 0}, {1<<52 - 1, 0, 0, 0}} {
			p := newPair(t, room, o)
			now := 0
			for i := 0; i < 60; i++ {
				now += steps[i%len(steps)]
				if now > latest {
					break
				}
				p.submit(now, "ann", fmt.Sprint("leaf ", i))
				if i%3 == 0 {
					p.submit(now, "bob", fmt.Sprint("other ", i))
				}
			}
		}
	}
}

// TestBucketEdges_21_6: the unit of time at which there is a token again; gaps that would wrap.
func TestBucketEdges_21_6(t *testing.T) {
	p := newPair(t, room, api.QueueOpts{Rate: 300, Burst: 1, Most: 100})
	if p.submit(0, "ann", "a") != api.OK || p.submit(3, "ann", "b") != api.ErrQuota || p.submit(4, "ann", "b") != api.OK {
		t.Error("900 thousandths are a token, or 1200 are none")
	}
	if p.submit(7, "ann", "c") != api.ErrQuota || p.submit(8, "ann", "c") != api.OK || p.submit(11, "ann", "d") != api.ErrQuota {
		t.Error("more than full was kept")
	}
	for _, rate := range []int{1 << 10, 1 << 11, 1 << 12, 1025, 3000, 1000000} {
		p := newPair(t, room, api.QueueOpts{Rate: rate, Burst: 1, Most: 100})
		p.submit(0, "ann", "a")
		if p.submit(0, "ann", "b") != api.ErrQuota || p.submit(latest, "ann", "b") != api.OK || p.submit(latest, "ann", "c") != api.ErrQuota {
			t.Errorf("a rate of %d wraps", rate)
		}
	}
}

// TestOthersPay_21_5: who hands in what is there pays nothing, and neither does who is refused.
func TestOthersPay_21_5(t *testing.T) {
	p := newPair(t, room, api.QueueOpts{Burst: 2, Most: 1})
	p.submit(1, "ann", "a")
	for range 5 {
		p.submit(1, "bob", "a")
		p.submit(1, "bob", "b")
		p.submit(1, "bob", strings.Repeat("x", 5000))
	}
	p.place(0, "a")
	if p.submit(1, "bob", "a") != api.OK || p.submit(1, "bob", "b") != api.OK {
		t.Error("bob has paid")
	}
	p.place(1, "b")
	if p.submit(1, "bob", "c") != api.OK {
		t.Error("bob has paid twice")
	}
	p.place(2, "c")
	if p.submit(1, "bob", "d") != api.ErrQuota || p.submit(1, "ann", "d") != api.OK {
		t.Error("bob has paid nothing, or ann for him")
	}
}

func TestPromise_21_7(t *testing.T) {
	for _, delay := range []int{0, 1, 1 << 40, latest - 1, latest} {
		for _, now := range []int{0, 1, 9, 10, latest - 1<<40, latest - 1<<40 + 1, latest - 1, latest} {
			o := api.QueueOpts{Secret: fmt.Sprint("secret ", delay), Delay: delay, Burst: 1, Most: 1}
			leaf := fmt.Sprint("leaf\n", now)
			q := opened(t, store.New(room), o)
			p, e := q.Submit(now, "ann", leaf)
			if p != wantPromise(o, leaf, now) || e != api.OK || !Promised(o.Secret, leaf, p) {
				t.Errorf("Delay %d: Submit(%d) = %+v, %d", delay, now, p, int(e))
			}
			for _, at := range []int{math.MinInt, p.Due - 1, p.Due, p.Due + 1, math.MaxInt} {
				if late := q.Late(at); p.Due < at != slices.Equal(late, []api.Promise{p}) || p.Due >= at != (len(late) == 0) {
					t.Errorf("due at %d: Late(%d) = %+v", p.Due, at, late)
				}
			}
		}
	}
}

// TestBatch_21_8: times that do not rise are met only in records; most and now may be anything.
func TestBatch_21_8(t *testing.T) {
	var records []record
	for i, time := range []uint64{7, 3, 9, 3, 0, latest, 8} {
		records = append(records, record{1, uint64(i), eight(time) + fmt.Sprint(i)})
	}
	p := &pair{t, opened(t, holding(t, records...), wide), newModel(holding(t, records...), wide)}
	p.m.list = make([]taken, 9)
	p.m = p.m.reopened()
	if len(p.m.list) != 7 {
		t.Fatal("the model has not read the records")
	}
	ints := []int{math.MinInt, -1, 0, 1, 2, 3, 6, 7, 8, 9, 10, latest - 1, latest, latest + 1, math.MaxInt}
	look := func() {
		for _, now := range ints {
			for _, most := range ints {
				p.batch(now, most)
			}
			p.late(now)
		}
		p.alike()
	}
	look()
	for _, i := range rand.New(rand.NewSource(1)).Perm(7) {
		p.place(i, fmt.Sprint(i))
		look()
	}
	if p.q.Waiting() != 0 {
		t.Error("something waits")
	}
}

func TestPlaced_21_9(t *testing.T) {
	p := newPair(t, room, wide)
	for _, leaf := range []string{"a", "b", "", "d", "e"} {
		p.submit(1, "ann", leaf)
	}
	for _, c := range []struct {
		first  int
		leaves []string
		want   api.Errno
	}{
		{-1, nil, api.ErrPlace}, {math.MinInt, []string{"a"}, api.ErrPlace}, {behind, []string{"a"}, api.ErrPlace}, {behind, nil, api.OK}, {behind + 1, nil, api.ErrPlace}, {math.MaxInt, nil, api.ErrPlace}, {math.MaxInt, []string{"a", "b"}, api.ErrPlace},
		{behind - 1, []string{"x", "a"}, api.ErrPlace}, {0, nil, api.OK}, {0, []string{"x", "y", strings.Repeat("x", 5000)}, api.OK},
		{behind - 2, []string{"b", "b"}, api.OK}, {5, []string{"", "b", "x", "", "e"}, api.OK}, {0, []string{"e", "a"}, api.OK}, {-1, []string{"d"}, api.ErrPlace}, {behind - 1, []string{"d"}, api.OK},
		{0, []string{"a", "b", "", "d", "e", "f"}, api.OK},
	} {
		if e := p.place(c.first, c.leaves...); e != c.want {
			t.Errorf("Placed(%d, %.99q) = %d, want %d", c.first, c.leaves, int(e), int(c.want))
		}
	}
	for leaf, place := range map[string]int{"b": behind - 2, "": 5, "e": 9, "a": 1, "d": behind - 1} {
		finds(t, p.q, leaf, place, api.OK)
	}
	finds(t, p.q, "x", 0, api.ErrNone)
	if p.q.st.Pending() != 5 {
		t.Errorf("%d writes are pending", p.q.st.Pending())
	}
}

// TestDurable_21_9: a place is gone with the power, unless it was synced.
func TestDurable_21_9(t *testing.T) {
	for _, synced := range []bool{false, true} {
		p := newPair(t, room, wide)
		p.submit(1, "ann", "a")
		p.place(3, "a")
		p.stores(func(st *store.Store) {
			if synced {
				st.Sync()
			}
			st.Crash("")
		})
		p.reopen()
		want, waiting := api.ErrNone, 1
		if synced {
			want, waiting = api.OK, 0
		}
		if _, e := p.q.Find("a"); e != want || p.q.Waiting() != waiting {
			t.Errorf("synced %v: Find = %d, %d wait", synced, int(e), p.q.Waiting())
		}
		p.find("a")
	}
}

func TestPromised_21_12(t *testing.T) {
	hash := wantPromise(wide, "leaf", 3).Hash
	for _, time := range []int{math.MinInt, -1, 0, 5, latest + 1, math.MaxInt} {
		for _, due := range []int{math.MinInt, -7, 0, 4, math.MaxInt} {
			p := api.Promise{Hash: hash, Time: time, Due: due, Mac: wantCode("s", hash, time, due)}
			if !Promised("s", "leaf", p) {
				t.Errorf("%+v was not promised", p)
			}
			if Promised("t", "leaf", p) || Promised("", "leaf", p) || Promised("s", "lead", p) || Promised("s", "", p) || Promised("s", "leaf\x00", p) {
				t.Errorf("%+v was promised under another secret, or of another leaf", p)
			}
			made := func(hash string, time, due int, mac string) api.Promise {
				return api.Promise{Hash: hash, Time: time, Due: due, Mac: mac}
			}
			for _, bad := range []api.Promise{
				{}, made(hash, time+1, due, p.Mac), made(hash, time, due+1, p.Mac), made(hash, time, due, p.Mac+"x"), made(hash, time, due, ""), made(hash, time, due, p.Mac[:31]),
				made("", time, due, wantCode("s", "", time, due)), made(hash[:31], time, due, wantCode("s", hash[:31], time, due)),
			} {
				if Promised("s", "leaf", bad) {
					t.Errorf("%+v was promised", bad)
				}
			}
			for i := range 32 * 8 {
				turn := func(s string) string {
					b := []byte(s)
					b[i/8] ^= 1 << (i % 8)
					return string(b)
				}
				other := turn(hash)
				if Promised("s", "leaf", made(hash, time, due, turn(p.Mac))) || Promised("s", "leaf", made(other, time, due, wantCode("s", other, time, due))) {
					t.Errorf("bit %d turned was promised", i)
				}
			}
		}
	}
}

// TestPromises_21_13: the power goes at any write of a script, and any of what is pending survives: each promise that was given stands.
func TestPromises_21_13(t *testing.T) {
	script := func(q *Queue) map[string]api.Promise {
		given := map[string]api.Promise{}
		for i := range 6 {
			leaf := fmt.Sprint("leaf ", i)
			if p, e := q.Submit(i, "ann", leaf); e == api.OK {
				given[leaf] = p
			}
			if i%2 == 1 {
				q.Placed(i-1, q.Batch(i, 2))
			}
		}
		return given
	}
	for n := 1; n <= 20; n++ {
		for _, keep := range []string{"", "\x01", "\x00\x01", "\x01\x00", "\x01\x00\x00", "\x00\x01\x01"} {
			st := store.New(room)
			q := opened(t, st, wide)
			st.Arm(n)
			given := script(q)
			st.Crash(keep)
			image := st.Image()
			q = opened(t, st, wide)
			waiting := q.Batch(latest, 99)
			for leaf, p := range given {
				if again, e := q.Submit(9, "zoe", leaf); again != p || e != api.OK || !Promised(wide.Secret, leaf, again) {
					t.Fatalf("write %d, keep %x: the promise of %q is %+v, %d", n, keep, leaf, again, int(e))
				}
				_, e := q.Find(leaf)
				if waits := slices.Contains(waiting, leaf); waits == (e == api.OK) {
					t.Fatalf("write %d, keep %x: %q waits: %v, Find %d", n, keep, leaf, waits, int(e))
				}
			}
			if st.Image() != image || st.Pending() != 0 {
				t.Fatalf("write %d, keep %x: what is there was written again", n, keep)
			}
			if len(given) < min(6, n/3) {
				t.Fatalf("write %d: %d promises", n, len(given))
			}
		}
	}
}

// logged is a log on a store that it shares with a queue, and the promises that were given.
type logged struct {
	t     *testing.T
	st    *store.Store
	log   *seat.Seat
	q     *Queue
	given map[string]api.Promise
}

func leavesOf(t *testing.T, s *seat.Seat) []string {
	t.Helper()
	var list []string
	for i := range s.Size() {
		leaf, e := s.Leaf(i)
		if e != api.OK {
			t.Fatalf("Leaf(%d) = %d", i, int(e))
		}
		list = append(list, leaf)
	}
	return list
}

// recover opens both behind a power cut, and hands the log's leaves in again.
func (l *logged) recover() {
	l.t.Helper()
	var e api.Errno
	if l.log, e = seat.Open(l.st); e != api.OK {
		l.t.Fatalf("the log is not opened: %d", int(e))
	}
	l.q = opened(l.t, l.st, wide)
	if e := l.q.Placed(0, leavesOf(l.t, l.log)); e != api.OK {
		l.t.Fatalf("Placed = %d", int(e))
	}
	l.look()
}

// look: no leaf is there twice, and each promised one that is there is found.
func (l *logged) look() {
	l.t.Helper()
	places := map[string]int{}
	for i, leaf := range leavesOf(l.t, l.log) {
		if other, twice := places[leaf]; twice {
			l.t.Fatalf("%q stands at %d and at %d", leaf, other, i)
		}
		places[leaf] = i
	}
	for leaf, p := range l.given {
		place, there := places[leaf]
		got, e := l.q.Find(leaf)
		if there && (got != place || e != api.OK) || !there && e != api.ErrNone {
			l.t.Fatalf("%q stands at %d (%v), Find = %d, %d", leaf, place, there, got, int(e))
		}
		if again, e := l.q.Submit(latest, "zoe", leaf); again != p || e != api.OK {
			l.t.Fatalf("the promise of %q is %+v, %d, was %+v", leaf, again, int(e), p)
		}
	}
}

// take takes some leaves.
func (l *logged) take(r *rand.Rand) {
	for range r.Intn(4) {
		leaf := fmt.Sprint("leaf ", r.Intn(60))
		if p, e := l.q.Submit(latest, "ann", leaf); e == api.OK {
			l.given[leaf] = p
		}
	}
}

// put puts some leaves that wait into the log. It ends early where something is refused.
func (l *logged) put(r *rand.Rand) {
	batch := l.q.Batch(latest, 1+r.Intn(4))
	first := l.log.Size()
	if len(batch) == 0 || l.log.Append(batch) != api.OK || l.log.Sync() != api.OK {
		return
	}
	l.q.Placed(first, batch)
}

// TestNothingTwice_21_14: a log that takes what Batch gives, through power cuts at whichever write.
func TestNothingTwice_21_14(t *testing.T) {
	engines := []api.Opts{{Engine: 1, Width: 32}, {Engine: 2, Width: 32, Bundle: 2, Height: 1}, {Engine: 3, Width: 32, Bits: 1}}
	for seed := range int64(60) {
		r := rand.New(rand.NewSource(seed))
		st := store.New(room)
		s, e := seat.Make(st, engines[seed%3])
		if e != api.OK {
			t.Fatalf("Make = %d", int(e))
		}
		st.Sync()
		l := &logged{t, st, s, opened(t, st, wide), map[string]api.Promise{}}
		for range 12 {
			st.Arm(1 + r.Intn(40))
			for !st.Down() && r.Intn(9) > 0 {
				l.take(r)
				l.put(r)
			}
			st.Crash([]string{"", "\x01", "\x00\x01", "\x01\x00", "\x01\x00\x01\x01\x00"}[r.Intn(5)])
			l.recover()
		}
		for range l.q.Waiting() {
			l.put(r)
		}
		if l.q.Waiting() > 0 {
			t.Fatalf("%d wait for ever", l.q.Waiting())
		}
		l.look()
		for leaf := range l.given {
			if _, e := l.q.Find(leaf); e != api.OK {
				t.Fatalf("all is placed, but %q is not: %d", leaf, int(e))
			}
		}
	}
}

// TestRate_21_15: between any two times a submitter has no more new submissions than its bucket and its rate give.
func TestRate_21_15(t *testing.T) {
	for seed := range int64(40) {
		r := rand.New(rand.NewSource(seed))
		o := api.QueueOpts{Rate: r.Intn(1500), Burst: 1 + r.Intn(4), Most: 1000000}
		q := opened(t, store.New(room), o)
		var times []int
		now := 0
		for i := range 150 {
			now += r.Intn(3) * r.Intn(3)
			before := q.Waiting()
			q.Submit(now, "ann", fmt.Sprint(i))
			q.Submit(now, fmt.Sprint("other ", i), fmt.Sprint("other ", i))
			if q.Waiting() == before+2 {
				times = append(times, now)
			}
		}
		for i, a := range times {
			for j, b := range times[i:] {
				if 1000*(j+1) > 1000*o.Burst+o.Rate*(b-a) {
					t.Fatalf("%+v: %d were taken from %d to %d", o, j+1, a, b)
				}
			}
		}
	}
}

// TestNone_R1: what was never opened is given up, and has nothing.
func TestNone_R1(t *testing.T) {
	for name, q := range map[string]*Queue{"nil": nil, "empty": {}} {
		p, e := q.Submit(1, "ann", "a")
		place, r := q.Find("a")
		if p != (api.Promise{}) || e != api.ErrDown || place != 0 || r != api.ErrDown || q.Placed(0, []string{"a"}) != api.ErrDown || q.Placed(-1, nil) != api.ErrDown {
			t.Errorf("%s: Submit %+v %d, Find %d %d", name, p, int(e), place, int(r))
		}
		if len(q.Batch(9, 9)) != 0 || len(q.Late(math.MaxInt)) != 0 || q.Waiting() != 0 {
			t.Errorf("%s has something", name)
		}
	}
}

// TestMemory_R4: lists that are handed in are neither changed nor kept, and each answer is new memory.
func TestMemory_R4(t *testing.T) {
	q := opened(t, store.New(room), wide)
	for _, leaf := range []string{"a", "b", "c"} {
		q.Submit(1, "ann", leaf)
	}
	one, two := q.Batch(1, 3), q.Batch(1, 3)
	one[0] = "x"
	one = append(one[:1], "y")
	if !slices.Equal(two, []string{"a", "b", "c"}) || !slices.Equal(q.Batch(1, 3), two) {
		t.Errorf("Batch shares memory: %q, %q", one, two)
	}
	late, again := q.Late(99), q.Late(99)
	late[0].Hash, late[2] = "", api.Promise{}
	if !slices.Equal(again, q.Late(99)) || again[0] != wantPromise(wide, "a", 1) {
		t.Errorf("Late shares memory: %+v", again)
	}
	leaves := append(make([]string, 0, 9), "a", "b")
	spare := append(leaves, "c")
	q.Placed(4, leaves)
	if !slices.Equal(spare, []string{"a", "b", "c"}) {
		t.Errorf("Placed changed what it was given: %q", spare)
	}
	leaves[0] = "z"
	finds(t, q, "a", 4, api.OK)
	finds(t, q, "z", 0, api.ErrNone)
}

// TestQueries_R7: queries write nothing and change nothing.
func TestQueries_R7(t *testing.T) {
	p := newPair(t, room, chapter)
	p.submit(10, "ann", "a")
	p.submit(10, "ann", "b")
	p.place(0, "a")
	for range 3 {
		p.batch(latest, 9)
		p.late(latest)
		p.find("a")
		p.find("b")
		Promised("s", "a", wantPromise(chapter, "a", 10))
		p.alike()
	}
	if p.submit(10, "ann", "c") != api.ErrQuota || p.submit(12, "ann", "c") != api.OK {
		t.Error("a query has moved the clock or filled a bucket")
	}
}

// TestScripts: calls of all kinds in any order, with power cuts and little room, as the model answers them.
func TestScripts(t *testing.T) {
	refusals := map[api.Errno]int{}
	for seed := range int64(300) {
		r := rand.New(rand.NewSource(seed))
		o := api.QueueOpts{Secret: fmt.Sprint(seed), Delay: r.Intn(20), Rate: r.Intn(800), Burst: 1 + r.Intn(3), Most: 1 + r.Intn(12)}
		p := newPair(t, 200+r.Intn(4000), o)
		now := 0
		leaf := func() string { return strings.Repeat("x", r.Intn(40)) + fmt.Sprint(r.Intn(3)) }
		for range 200 {
			switch k := r.Intn(40); {
			case k < 18:
				now += r.Intn(4)
				long := strings.Repeat("l", 4096*r.Intn(2)*r.Intn(2))
				refusals[p.submit(now-r.Intn(2)*r.Intn(2)*r.Intn(2), []string{"ann", "bob", "", "zoe"}[r.Intn(4)], long+leaf())]++
			case k < 24:
				leaves := p.q.Batch(now-r.Intn(3), r.Intn(4))
				for range r.Intn(3) {
					leaves = append(leaves, leaf())
				}
				refusals[p.place(r.Intn(50)-1, leaves...)]++
			case k < 27:
				p.batch(now-r.Intn(5), r.Intn(6))
			case k < 30:
				p.late(now - r.Intn(30))
			case k < 34:
				p.find(leaf())
			case k < 36:
				n := r.Intn(6)
				p.stores(func(st *store.Store) { st.Arm(n) })
			case k < 37:
				p.stores(func(st *store.Store) { st.Sync() })
			case k < 38 || p.q.st.Down():
				keep := []string{"", "\x01", "\x00\x01", "\x01\x00\x00"}[r.Intn(4)]
				p.stores(func(st *store.Store) { st.Crash(keep) })
				if r.Intn(3) > 0 {
					p.reopen()
				}
			case !p.q.st.Down():
				p.reopen()
			}
		}
		p.alike()
	}
	for _, e := range []api.Errno{api.OK, api.ErrTime, api.ErrBig, api.ErrQuota, api.ErrMany, api.ErrFull, api.ErrDown, api.ErrPlace} {
		if refusals[e] < 20 {
			t.Errorf("%d was answered %d times only", int(e), refusals[e])
		}
	}
}
