package peer

import (
	"fmt"
	"math"
	"math/rand"
	"slices"
	"strings"
	"testing"

	"annals/api"
	"annals/mth"
	"annals/note"
	"annals/store"
	"annals/tree"
)

const room = 1 << 20

var (
	own   = api.Key{Name: "w", Secret: "s"}
	logL  = api.Key{Name: "l", Secret: "k"}
	logM  = api.Key{Name: "m", Secret: "mm"}
	other = api.Key{Name: "l", Secret: "another"} // of the same name, and unlike
)

// leaves is the list of the examples; split goes on otherwise from four leaves on.
var (
	leaves = strings.Split("abcdefghijkl", "")
	split  = strings.Split("abcdEFGHIJKL", "")
)

// noteOf is a checkpoint's note, signed by these keys.
func noteOf(t *testing.T, c api.Checkpoint, keys ...api.Key) string {
	t.Helper()
	body, e := note.Text(c)
	if e != api.OK {
		t.Fatalf("note.Text(%+v) = %d", c, int(e))
	}
	signed, e := note.Sign(body, keys)
	if e != api.OK {
		t.Fatalf("note.Sign = %d", int(e))
	}
	return signed
}

func rootOf(w, n int, list []string) string { return mth.Root(w, list[:n]) }

func proofOf(t *testing.T, w, from, to int, list []string) []string {
	t.Helper()
	p, e := mth.Proof(w, from, list[:to])
	if e != api.OK {
		t.Fatalf("mth.Proof(%d, %d) = %d", from, to, int(e))
	}
	return p
}

// point is the note of the first n leaves that a log signs.
func point(t *testing.T, k api.Key, n int) string {
	t.Helper()
	return noteOf(t, api.Checkpoint{Origin: k.Name, Size: n, Root: rootOf(32, n, leaves)}, k)
}

// step is the request of the honest log to go from one size to another.
func step(t *testing.T, k api.Key, from, to int) api.Request {
	t.Helper()
	return api.Request{Old: from, Proof: proofOf(t, 32, from, to, leaves), Note: point(t, k, to)}
}

// TestExamples: the chapter's table, line by line; the model answers alike.
func TestExamples(t *testing.T) {
	st := store.New(room)
	for _, c := range []struct {
		own  api.Key
		logs []api.Key
	}{{api.Key{Name: "a b"}, nil}, {own, []api.Key{logL, logL}}} {
		if p, e := Open(st, c.own, c.logs, 32); p != nil || e != api.ErrName {
			t.Errorf("Open = %v, %d", p, int(e))
		}
	}
	p := newPair(t, room, 32, own, logL)
	latest := func(origin string, size int, want api.Errno) {
		t.Helper()
		if c, e := p.p.Latest(origin); c.Size != size || e != want {
			t.Errorf("Latest(%q) = %+v, %d", origin, c, int(e))
		}
		p.latest(origin)
	}
	cosigned := func(n int) string {
		s, _ := note.Add(point(t, logL, n), own)
		return s
	}
	latest("l", 0, api.ErrNone)
	latest("x", 0, api.ErrOrigin)
	p.wants(0, api.ErrStale, api.Request{Old: 1, Note: point(t, logL, 3)})
	if s, n, v, e := p.p.Add(api.Request{Note: point(t, logL, 3)}); s != cosigned(3) || n != 3 || v != (api.Evidence{}) || e != api.OK {
		t.Errorf("the first one: %q, %d, %d", s, n, int(e))
	}
	p.m.add(api.Request{Note: point(t, logL, 3)})
	latest("l", 3, api.OK)
	p.wants(3, api.ErrStale, api.Request{Note: point(t, logL, 3)})
	if s, n, _, e := p.p.Add(api.Request{Old: 3, Note: point(t, logL, 3)}); s != cosigned(3) || n != 3 || e != api.OK {
		t.Errorf("the same: %q, %d, %d", s, n, int(e))
	}
	p.wants(3, api.ErrCount, api.Request{Old: 3, Note: point(t, logL, 5)})
	p.wants(5, api.OK, step(t, logL, 3, 5))
	p.wants(5, api.ErrRange, api.Request{Old: 5, Note: point(t, logL, 4)})
	wrong := noteOf(t, api.Checkpoint{Origin: "l", Size: 5, Root: rootOf(32, 5, split)}, logL)
	if s, n, v, e := p.p.Add(api.Request{Old: 5, Note: wrong}); s != "" || n != 5 || v != (api.Evidence{One: point(t, logL, 5), Two: wrong}) || e != api.ErrSplit {
		t.Errorf("another root: %q, %d, %q, %d", s, n, v, int(e))
	}
	p.wants(0, api.ErrUnsigned, api.Request{Old: 5, Note: point(t, logM, 5)})
	p.wants(0, api.ErrOrigin, api.Request{Old: 5, Note: noteOf(t, api.Checkpoint{Origin: "x", Size: 5, Root: rootOf(32, 5, leaves)}, logL)})
	p.logs = []api.Key{logL, logM}
	p.reopen()
	p.wants(5, api.ErrUnsigned, api.Request{Old: 5, Note: noteOf(t, api.Checkpoint{Origin: "l", Size: 5, Root: rootOf(32, 5, leaves)}, logM)})
	p.stores(func(st *store.Store) { st.Arm(1) })
	p.wants(5, api.ErrDown, step(t, logL, 5, 6))
	p.stores(func(st *store.Store) { st.Crash("\x01") })
	p.reopen()
	latest("l", 6, api.OK)
}

// spoiltStore is a store with another text where the witness's record would be.
func spoiltStore(data string) *store.Store {
	st := store.New(1 << 22)
	st.Put(recordKey(at, 1, 0), data)
	return st
}

// off is a store whose power is off.
func off(st *store.Store) *store.Store {
	st.Arm(1)
	st.Sync()
	return st
}

func TestNames_22_2(t *testing.T) {
	long := strings.Repeat("n", 64)
	names := map[string]bool{"w": true, "log.example/2026": true, long: true, "": false, "a b": false, "a+b": false, "é": false, "a\n": false, "a\x7f": false, long + "n": false}
	for name, goes := range names {
		k := api.Key{Name: name, Secret: "s"}
		for _, c := range []struct {
			own  api.Key
			logs []api.Key
		}{{k, nil}, {k, []api.Key{logL}}, {own, []api.Key{k}}, {own, []api.Key{k, logL}}, {own, []api.Key{logL, logM, k}}} {
			want := api.OK
			same := slices.IndexFunc(c.logs, func(l api.Key) bool { return l.Name == name }) >= 0 && name == "l"
			if !goes || same {
				want = api.ErrName
			}
			if p, e := Open(store.New(room), c.own, c.logs, 32); e != want || (p == nil) != (e != api.OK) {
				t.Errorf("Open(%q, %q) = %d, want %d", c.own.Name, c.logs, int(e), int(want))
			}
		}
	}
	for _, c := range []struct {
		own  api.Key
		logs []api.Key
		want api.Errno
	}{
		{own, nil, api.OK}, {own, []api.Key{logL, logM}, api.OK}, {own, []api.Key{logM, logL}, api.OK}, {own, []api.Key{own}, api.OK}, {own, []api.Key{logL, {Name: "w", Secret: "t"}}, api.OK},
		{own, []api.Key{logL, logL}, api.ErrName}, {own, []api.Key{logL, other}, api.ErrName}, {own, []api.Key{logL, logM, logL}, api.ErrName}, {own, []api.Key{logM, logL, other}, api.ErrName},
		{api.Key{}, nil, api.ErrName}, {api.Key{Name: "w"}, []api.Key{{Name: "l"}}, api.OK},
	} {
		if p, e := Open(store.New(room), c.own, c.logs, 32); e != c.want || (p == nil) != (e != api.OK) {
			t.Errorf("Open(%v, %v) = %d, want %d", c.own, c.logs, int(e), int(c.want))
		}
	}
	var many []api.Key
	for i := range 3000 {
		many = append(many, api.Key{Name: fmt.Sprint(i * 7 % 3001)})
	}
	opened(t, store.New(room), own, many, 32)
	if _, e := Open(store.New(room), own, append(many, many[1234]), 32); e != api.ErrName {
		t.Errorf("one of many twice: %d", int(e))
	}
}

// TestOpenOrder_22_2: names are looked at first, then the power, then the record.
func TestOpenOrder_22_2(t *testing.T) {
	bad := []api.Key{{Name: ""}}
	for i, c := range []struct {
		st   *store.Store
		logs []api.Key
		want api.Errno
	}{
		{off(store.New(room)), bad, api.ErrName}, {off(store.New(room)), nil, api.ErrDown}, {spoiltStore("x"), bad, api.ErrName}, {spoiltStore("x"), nil, api.ErrSpoilt},
		{off(spoiltStore("x")), nil, api.ErrDown}, {nil, bad, api.ErrName}, {nil, nil, api.ErrDown},
	} {
		if p, e := Open(c.st, own, c.logs, 32); p != nil || e != c.want {
			t.Errorf("%d: Open = %v, %d, want %d", i, p, int(e), int(c.want))
		}
	}
}

func TestOpenRecord_22_2(t *testing.T) {
	l, m := point(t, logL, 3), point(t, logM, 2)
	later := point(t, logL, 5)
	first := noteOf(t, api.Checkpoint{Origin: "L", Size: 0, Root: "\x00"}, logM)
	bare := "l\n3\nAA==\n\n"
	longer := noteOf(t, api.Checkpoint{Origin: "la", Size: api.MaxSize, Root: strings.Repeat("r", 32), Ext: []string{"x", "y"}}, logM)
	emptyLine := "l\n3\nAA==\n\nx\n\n" // the text has an empty line, which no checkpoint has
	wide := bare + strings.Repeat("z", 70000)
	for name, c := range map[string]struct {
		payload string
		origins string // of the known logs, or "-"
	}{
		"nothing":                       {"", ""},
		"one":                           {payloadOf(l), "l"},
		"two":                           {payloadOf(l, m), "l m"},
		"one that begins another":       {payloadOf(first, l, longer, m), "L l la m"},
		"two that fall":                 {payloadOf(m, l), "-"},
		"one twice":                     {payloadOf(l, l), "-"},
		"one origin twice":              {payloadOf(l, later), "-"},
		"falling at the end":            {payloadOf(first, m, l), "-"},
		"no signatures":                 {payloadOf(bare), "l"},
		"anything behind the text":      {payloadOf(bare + "\x00\xff — "), "l"},
		"more than a note may have":     {payloadOf(wide), "l"},
		"the same, and one behind":      {payloadOf(wide, m), "l m"},
		"an empty line in the text":     {payloadOf(emptyLine), "-"},
		"three newlines":                {payloadOf("l\n3\nAA==\n\n\n"), "-"},
		"no empty line":                 {payloadOf("l\n3\nAA==\n"), "-"},
		"no empty line, one behind":     {payloadOf("l\n3\nAA==\n", m), "-"},
		"an empty note":                 {payloadOf(""), "-"},
		"an empty note behind":          {payloadOf(l, ""), "-"},
		"two newlines":                  {payloadOf("\n\n"), "-"},
		"no checkpoint":                 {payloadOf("hello\n\n"), "-"},
		"a size with a nought ahead":    {payloadOf("l\n03\nAA==\n\n"), "-"},
		"a size above all":              {payloadOf("l\n4611686018427387905\nAA==\n\n"), "-"},
		"the greatest size":             {payloadOf("l\n4611686018427387904\nAA==\n\n"), "l"},
		"no root":                       {payloadOf("l\n3\n\n\n"), "-"},
		"no origin":                     {payloadOf("\n3\nAA==\n\n"), "-"},
		"a byte behind":                 {payloadOf(l) + "x", "-"},
		"a nought behind":               {payloadOf(l) + "\x00", "-"},
		"a byte less":                   {payloadOf(l)[:len(payloadOf(l))-1], "-"},
		"a length alone":                {"\x05", "-"},
		"half a length":                 {"\x80", "-"},
		"a length in more bytes":        {"\x8b\x00" + bare, "-"},
		"the same in as few":            {"\x0a" + bare, "l"},
		"a length above all":            {"\xff\xff\xff\xff\xff\xff\xff\xff\xff\x01" + bare, "-"},
		"a length that is too great":    {"\xff\xff\xff\xff\xff\xff\xff\xff\xff\x02" + bare, "-"},
		"a length of 2^63":              {"\x80\x80\x80\x80\x80\x80\x80\x80\x80\x01" + bare, "-"},
		"a length of 2^63 - 1":          {"\xff\xff\xff\xff\xff\xff\xff\xff\x7f" + bare, "-"},
		"a length that is one too long": {"\x0b" + bare, "-"},
	} {
		st := spoiltStore(frame(1, 0, c.payload))
		image, pending := st.Image(), st.Pending()
		logs := []api.Key{{Name: "L"}, logL, {Name: "la"}, logM}
		p, e := Open(st, own, logs, 32)
		want := api.OK
		if c.origins == "-" {
			want = api.ErrSpoilt
		}
		if e != want || (p == nil) != (e != api.OK) {
			t.Errorf("%s: Open = %d, want %d", name, int(e), int(want))
			continue
		}
		if st.Image() != image || st.Pending() != pending {
			t.Errorf("%s: Open has written", name)
		}
		if p == nil {
			continue
		}
		var known []string
		for _, k := range logs {
			if at, e := p.Latest(k.Name); e == api.OK && at.Origin == k.Name {
				known = append(known, k.Name)
			}
		}
		if got := strings.Join(known, " "); got != c.origins {
			t.Errorf("%s: known are %q, want %q", name, got, c.origins)
		}
	}
}

// TestOpenSpoilt_22_2: a record that book.Get refuses; others of the space, or of another one, are let be.
func TestOpenSpoilt_22_2(t *testing.T) {
	good := frame(1, 0, payloadOf(point(t, logL, 3)))
	turned := []byte(good)
	turned[40] ^= 4
	for name, data := range map[string]string{"empty": "", "x": "x", "another number": frame(1, 1, payloadOf(point(t, logL, 3))), "another kind": frame(2, 0, ""), "a bit": string(turned), "short": good[:len(good)-1], "long": good + "x"} {
		if p, e := Open(spoiltStore(data), own, []api.Key{logL}, 32); p != nil || e != api.ErrSpoilt {
			t.Errorf("%s: Open = %v, %d", name, p, int(e))
		}
	}
	st := store.New(room)
	for _, key := range []string{recordKey(at, 1, 1), recordKey(at, 2, 0), recordKey(at+1, 1, 0), recordKey(at-1, 1, 0), recordKey(0, 1, 0), recordKey(at, 1, 0) + "x", "x"} {
		st.Put(key, "x")
	}
	p := opened(t, st, own, []api.Key{logL}, 32)
	if _, e := p.Latest("l"); e != api.ErrNone {
		t.Errorf("Latest = %d", int(e))
	}
}

// TestRecord_22_1: the record's bytes, behind each kind of Add.
func TestRecord_22_1(t *testing.T) {
	logs := []api.Key{{Name: "z", Secret: "1"}, logM, {Name: "a", Secret: "2"}, logL, {Name: "la", Secret: "3"}, {Name: "A", Secret: "4"}}
	st := store.New(room)
	p := opened(t, st, own, logs, 32)
	notes := map[string]string{}
	look := func() {
		t.Helper()
		var origins, list []string
		for o := range notes {
			origins = append(origins, o)
		}
		slices.Sort(origins)
		for _, o := range origins {
			list = append(list, notes[o])
		}
		key := recordKey(at, 1, 0)
		data, _ := st.Get(key)
		if !slices.Equal(st.Keys(""), []string{key}) || data != frame(1, 0, payloadOf(list...)) || st.Pending() != 0 {
			t.Fatalf("keys %x, record %q, want %q", st.Keys(""), data, list)
		}
	}
	for round, size := range []int{3, 5, 11} {
		for _, k := range logs {
			r := step(t, k, []int{0, 3, 5}[round], size)
			ext := api.Checkpoint{Origin: k.Name, Size: size, Root: rootOf(32, size, leaves), Ext: []string{strings.Repeat("e", 100*round)}}
			if round > 0 {
				r.Note = noteOf(t, ext, k, api.Key{Name: "one", Secret: "x"})
			}
			if _, _, _, e := p.Add(r); e != api.OK {
				t.Fatalf("Add = %d", int(e))
			}
			notes[k.Name] = r.Note
			look()
		}
	}
	again := noteOf(t, api.Checkpoint{Origin: "l", Size: 11, Root: rootOf(32, 11, leaves), Ext: []string{"again"}}, logL)
	if _, _, _, e := p.Add(api.Request{Old: 11, Note: again}); e != api.OK {
		t.Fatalf("Add again = %d", int(e))
	}
	look()
	p = opened(t, st, own, []api.Key{logM}, 32) // the others are kept as they are
	if _, _, _, e := p.Add(step(t, logM, 11, 12)); e != api.OK {
		t.Fatalf("Add = %d", int(e))
	}
	notes["m"] = point(t, logM, 12)
	look()
}

// TestGivenUp_22_3: the power goes amid a call, between two, or was cut unseen.
func TestGivenUp_22_3(t *testing.T) {
	gone := func(name string, p *Peer) {
		t.Helper()
		for range 2 {
			for _, r := range []api.Request{step(t, logL, 3, 5), {Old: 3, Note: point(t, logL, 3)}, {}, {Note: "x"}, {Old: -1, Note: strings.Repeat("x", 70000)}} {
				if s, n, v, e := p.Add(r); s != "" || n != 0 || v != (api.Evidence{}) || e != api.ErrDown {
					t.Errorf("%s: Add = %q, %d, %q, %d", name, s, n, v, int(e))
				}
			}
			for _, origin := range []string{"l", "m", "x", ""} {
				if c, e := p.Latest(origin); !samePoint(c, api.Checkpoint{}) || e != api.ErrDown {
					t.Errorf("%s: Latest(%q) = %+v, %d", name, origin, c, int(e))
				}
			}
		}
	}
	for name, end := range map[string]func(st *store.Store, p *Peer){
		"amid Put":      func(st *store.Store, p *Peer) { st.Arm(1); p.Add(step(t, logL, 3, 5)) },
		"amid Sync":     func(st *store.Store, p *Peer) { st.Arm(2); p.Add(step(t, logL, 3, 5)) },
		"between calls": func(st *store.Store, p *Peer) { off(st) },
		"cut":           func(st *store.Store, p *Peer) { st.Crash("\x01") },
	} {
		st := store.New(room)
		p := opened(t, st, own, []api.Key{logL, logM}, 32)
		p.Add(step(t, logL, 0, 3))
		end(st, p)
		gone(name, p)
		st.Crash("")
		image := st.Image()
		gone(name+", with the power on again", p)
		if st.Image() != image || st.Pending() != 0 {
			t.Errorf("%s: it has written", name)
		}
		q := opened(t, st, own, []api.Key{logL, logM}, 32)
		if c, e := q.Latest("l"); c.Size != 3 || e != api.OK {
			t.Errorf("%s: opened anew: %+v, %d", name, c, int(e))
		}
		gone(name+", with another one", p)
	}
}

// TestForgets_22_3: who was given up amid a call knows nothing any more, and holds no store; a refusal of the store with the power on gives nobody up.
func TestForgets_22_3(t *testing.T) {
	for n := 1; n <= 2; n++ {
		st := store.New(room)
		p := opened(t, st, own, []api.Key{logL}, 32)
		p.Add(step(t, logL, 0, 3))
		st.Arm(n)
		if _, size, _, e := p.Add(step(t, logL, 3, 5)); size != 3 || e != api.ErrDown {
			t.Errorf("the power goes at %d: %d, %d", n, size, int(e))
		}
		if p.st != nil || p.known != nil || p.logs != nil || p.own != (api.Key{}) {
			t.Errorf("the power goes at %d: it is kept in mind", n)
		}
	}
	p := opened(t, store.New(60), own, []api.Key{logL}, 32)
	if _, _, _, e := p.Add(step(t, logL, 0, 3)); e != api.ErrFull || p.gone() {
		t.Errorf("no room: %d", int(e))
	}
	if _, e := p.Latest("l"); e != api.ErrNone {
		t.Errorf("no room, then Latest: %d", int(e))
	}
}

// TestNone_R1: what was never opened is given up.
func TestNone_R1(t *testing.T) {
	for name, p := range map[string]*Peer{"nil": nil, "empty": {}} {
		s, n, v, e := p.Add(step(t, logL, 0, 3))
		c, r := p.Latest("l")
		if s != "" || n != 0 || v != (api.Evidence{}) || e != api.ErrDown || !samePoint(c, api.Checkpoint{}) || r != api.ErrDown {
			t.Errorf("%s: Add %q, %d, %d, Latest %+v, %d", name, s, n, int(e), c, int(r))
		}
	}
}

// manySigned is a note of the log and so many others.
func manySigned(t *testing.T, c api.Checkpoint, k api.Key, others int) string {
	t.Helper()
	keys := []api.Key{k}
	for i := range others {
		keys = append(keys, api.Key{Name: fmt.Sprint("s", i)})
	}
	return noteOf(t, c, keys...)
}

// filled is a note of just so many bytes.
func filled(t *testing.T, c api.Checkpoint, k api.Key, size int) string {
	t.Helper()
	c.Ext = []string{"x"}
	c.Ext[0] += strings.Repeat("x", size-len(noteOf(t, c, k)))
	s := noteOf(t, c, k)
	if len(s) != size {
		t.Fatalf("a note of %d bytes, not %d", len(s), size)
	}
	return s
}

// TestRefusals_22_4: each refusal, by itself and ahead of all that come behind it.
func TestRefusals_22_4(t *testing.T) {
	p := newPair(t, room, 32, own, logL, logM)
	five := func(keys ...api.Key) string {
		return noteOf(t, api.Checkpoint{Origin: "l", Size: 5, Root: rootOf(32, 5, leaves)}, keys...)
	}
	at := func(c api.Checkpoint, keys ...api.Key) string { return noteOf(t, c, keys...) }
	junk := []string{"", "short"}
	for _, known := range []int{0, 3} {
		forged := strings.Replace(five(logL), "l\n5\n", "l\n6\n", 1)
		// 1: note.Open's and note.Parse's
		for _, c := range []struct {
			note string
			want api.Errno
		}{
			{"", api.ErrNote}, {"no note", api.ErrNote}, {five(logL) + "x", api.ErrNote}, {five(logL)[:len(five(logL))-1], api.ErrNote}, {strings.Repeat("x", 65537), api.ErrBig}, {strings.Repeat("x", 65536), api.ErrNote},
			{forged, api.ErrSig}, {five(other), api.ErrUnsigned}, {five(own), api.ErrUnsigned}, {five(own, other), api.ErrUnsigned},
			{"l\n5\n\n" + five(logL)[strings.Index(five(logL), "— "):], api.ErrSig},
		} {
			p.wants(0, c.want, api.Request{Old: -1, Proof: junk, Note: c.note})
		}
		hello, _ := note.Sign("hello\n", []api.Key{logL})
		p.wants(0, api.ErrPoint, api.Request{Old: -1, Proof: junk, Note: hello})
		noughts, _ := note.Sign("l\n05\n"+strings.Split(five(logL), "\n")[2]+"\n", []api.Key{logL})
		p.wants(0, api.ErrPoint, api.Request{Old: known, Note: noughts})
		// 2
		for _, origin := range []string{"x", "w", "L", "ll", "l/"} {
			p.wants(0, api.ErrOrigin, api.Request{Old: -1, Proof: junk, Note: at(api.Checkpoint{Origin: origin, Size: 5, Root: "short"}, logL, logM)})
		}
		// 3
		p.wants(known, api.ErrUnsigned, api.Request{Old: -1, Proof: junk, Note: at(api.Checkpoint{Origin: "l", Size: 5, Root: "short"}, logM)})
		p.wants(known, api.ErrUnsigned, api.Request{Old: -1, Proof: junk, Note: at(api.Checkpoint{Origin: "l", Size: 5, Root: "short"}, other, logM)})
		p.wants(0, api.ErrUnsigned, api.Request{Old: -1, Proof: junk, Note: at(api.Checkpoint{Origin: "m", Size: 5, Root: "short"}, logL)})
		// 4
		for _, n := range []int{1, 16, 31} {
			p.wants(known, api.ErrHash, api.Request{Old: -1, Proof: junk, Note: at(api.Checkpoint{Origin: "l", Size: 5, Root: strings.Repeat("r", n)}, logL)})
		}
		p.wants(0, api.ErrHash, api.Request{Old: 7, Note: at(api.Checkpoint{Origin: "m", Size: 5, Root: "r"}, logM)})
		// 5
		for _, old := range []int{-1, 6, math.MinInt, math.MaxInt, -known} {
			want := api.ErrRange
			if old == 0 {
				want = api.ErrHash
			}
			p.wants(known, want, api.Request{Old: old, Proof: junk, Note: five(logL)})
		}
		// 6
		for old := range 6 {
			if old != known {
				p.wants(known, api.ErrStale, api.Request{Old: old, Proof: junk, Note: five(logL)})
			}
		}
		// 8
		right := proofOf(t, 32, known, 5, leaves)
		p.wants(known, api.ErrHash, api.Request{Old: known, Proof: junk, Note: five(logL)})
		p.wants(known, api.ErrHash, api.Request{Old: known, Proof: append(slices.Clone(right), "short"), Note: five(logL)})
		p.wants(known, api.ErrCount, api.Request{Old: known, Proof: append(slices.Clone(right), strings.Repeat("h", 32)), Note: five(logL)})
		if known > 0 {
			p.wants(known, api.ErrCount, api.Request{Old: known, Note: five(logL)})
			for i := range right {
				spoilt := slices.Clone(right)
				spoilt[i] = strings.Repeat("h", 32)
				p.wants(known, api.ErrRoot, api.Request{Old: known, Proof: spoilt, Note: five(logL)})
			}
			p.wants(known, api.ErrRoot, api.Request{Old: known, Proof: right, Note: at(api.Checkpoint{Origin: "l", Size: 5, Root: rootOf(32, 5, split)}, logL)})
			p.wants(known, api.ErrRoot, api.Request{Old: known, Proof: right, Note: manySigned(t, api.Checkpoint{Origin: "l", Size: 5, Root: rootOf(32, 5, split)}, logL, 15)})
		}
		// 9
		c := api.Checkpoint{Origin: "l", Size: 5, Root: rootOf(32, 5, leaves)}
		p.wants(known, api.ErrMany, api.Request{Old: known, Proof: right, Note: manySigned(t, c, logL, 15)})
		p.wants(known, api.ErrBig, api.Request{Old: known, Proof: right, Note: filled(t, c, logL, 65536)})
		p.latest("l")
		p.latest("m")
		if known == 0 {
			p.wants(3, api.OK, step(t, logL, 0, 3))
		}
	}
	c := api.Checkpoint{Origin: "l", Size: 5, Root: rootOf(32, 5, leaves)}
	line := len(noteOf(t, c, logL, own)) - len(noteOf(t, c, logL))
	p.wants(3, api.ErrBig, api.Request{Old: 3, Proof: proofOf(t, 32, 3, 5, leaves), Note: filled(t, c, logL, 65537-line)})
	p.wants(5, api.OK, api.Request{Old: 3, Proof: proofOf(t, 32, 3, 5, leaves), Note: filled(t, c, logL, 65536-line)})
	c.Size, c.Root = 6, rootOf(32, 6, leaves)
	p.wants(6, api.OK, api.Request{Old: 5, Proof: proofOf(t, 32, 5, 6, leaves), Note: manySigned(t, c, logL, 14)})
}

// TestSigner_22_4: the signature of another log's key whose ID is, by chance, the same is not the log's.
func TestSigner_22_4(t *testing.T) {
	k, twin := api.Key{Name: "l", Secret: "23894"}, api.Key{Name: "m", Secret: "35505"}
	one, _ := note.ID(k)
	if two, _ := note.ID(twin); one != two {
		t.Fatal("the IDs are unlike")
	}
	p := newPair(t, room, 32, own, twin, k)
	c := api.Checkpoint{Origin: "l", Size: 5, Root: rootOf(32, 5, leaves)}
	p.wants(0, api.ErrUnsigned, api.Request{Note: noteOf(t, c, twin)})
	p.wants(0, api.ErrUnsigned, api.Request{Note: noteOf(t, c, twin, other, own)})
	p.wants(5, api.OK, api.Request{Note: noteOf(t, c, twin, k)})
	p.wants(5, api.OK, api.Request{Old: 5, Note: noteOf(t, c, k)})
}

// TestSame_22_4: the known size once more: the same root is cosigned and not kept, another one is evidence; the proof is not looked at.
func TestSame_22_4(t *testing.T) {
	p := newPair(t, room, 32, own, logL, logM)
	c := api.Checkpoint{Origin: "l", Size: 5, Root: rootOf(32, 5, leaves), Ext: []string{"first"}}
	first := noteOf(t, c, logL)
	p.wants(5, api.OK, api.Request{Note: first})
	image := p.a.Image()
	c.Ext = []string{"second", "more"}
	for _, proof := range [][]string{nil, {""}, {"junk", "junk"}, slices.Repeat([]string{strings.Repeat("h", 32)}, 99)} {
		r := api.Request{Old: 5, Proof: proof, Note: noteOf(t, c, logM, logL)}
		s, n, v, e := p.p.Add(r)
		if want, _ := note.Add(r.Note, own); s != want || n != 5 || v != (api.Evidence{}) || e != api.OK {
			t.Errorf("the same root: %q, %d, %q, %d", s, n, v, int(e))
		}
	}
	p.wants(5, api.OK, api.Request{Old: 5, Note: noteOf(t, c, logL, own)})
	p.wants(5, api.ErrMany, api.Request{Old: 5, Note: manySigned(t, c, logL, 15)})
	p.wants(5, api.ErrBig, api.Request{Old: 5, Note: filled(t, c, logL, 65536)})
	for _, root := range []string{rootOf(32, 5, split), tree.Empty(32), strings.Repeat("\x00", 32)} {
		c.Root = root
		for _, two := range []string{noteOf(t, c, logL), noteOf(t, c, logL, own), noteOf(t, c, own, logM, logL), manySigned(t, c, logL, 15), filled(t, c, logL, 65536)} {
			if s, n, v, e := p.p.Add(api.Request{Old: 5, Proof: []string{"junk"}, Note: two}); s != "" || n != 5 || v != (api.Evidence{One: first, Two: two}) || e != api.ErrSplit {
				t.Errorf("another root: %q, %d, %.200q, %d", s, n, v, int(e))
			}
		}
	}
	if p.a.Image() != image || p.a.Pending() != 0 {
		t.Error("something was written")
	}
	if c, e := p.p.Latest("l"); !samePoint(c, pointIn(first)) || e != api.OK {
		t.Errorf("Latest = %+v, %d", c, int(e))
	}
	p.reopen()
	c.Root = rootOf(32, 5, split)
	if _, _, v, e := p.p.Add(api.Request{Old: 5, Note: noteOf(t, c, logL)}); v.One != first || e != api.ErrSplit {
		t.Errorf("opened anew: %q, %d", v, int(e))
	}
}

// TestNoLeaves_22_4: a list without leaves has one root, and is cosigned like any other.
func TestNoLeaves_22_4(t *testing.T) {
	p := newPair(t, room, 32, own, logL)
	empty := func(root string) api.Request {
		return api.Request{Note: noteOf(t, api.Checkpoint{Origin: "l", Root: root}, logL)}
	}
	none, bad := tree.Empty(32), strings.Repeat("r", 32)
	p.wants(0, api.ErrRoot, empty(bad))
	p.wants(0, api.ErrCount, api.Request{Proof: []string{none}, Note: empty(none).Note})
	p.latest("l")
	p.wants(0, api.OK, empty(none))
	if c, e := p.p.Latest("l"); c.Size != 0 || c.Root != none || e != api.OK {
		t.Errorf("Latest = %+v, %d", c, int(e))
	}
	image := p.a.Image()
	p.wants(0, api.OK, empty(none))
	p.wants(0, api.OK, api.Request{Proof: []string{none}, Note: empty(none).Note})
	p.wants(0, api.ErrSplit, empty(bad))
	if p.a.Image() != image {
		t.Error("no leaves once more were written")
	}
	p.reopen()
	p.wants(0, api.ErrSplit, empty(bad))
	p.wants(7, api.OK, step(t, logL, 0, 7))
	p.wants(7, api.ErrStale, empty(none)) // 0 is within the bounds, and not the known size
}

// TestWidth_22_4: a width outside counts as 32; hashes of any other length are refused.
func TestWidth_22_4(t *testing.T) {
	for _, w := range []int{1, 2, 16, 31, 32, 0, -1, 33, math.MinInt, math.MaxInt} {
		width := w
		if w < 1 || w > 32 {
			width = 32
		}
		p := newPair(t, room, w, own, logL)
		at := func(width, n int) string {
			return noteOf(t, api.Checkpoint{Origin: "l", Size: n, Root: rootOf(width, n, leaves)}, logL)
		}
		for other := 1; other <= 32; other++ {
			if other != width {
				p.wants(0, api.ErrHash, api.Request{Note: at(other, 3)})
			}
		}
		p.wants(3, api.OK, api.Request{Note: at(width, 3)})
		p.wants(6, api.OK, api.Request{Old: 3, Proof: proofOf(t, width, 3, 6, leaves), Note: at(width, 6)})
		p.latest("l")
		if width == 32 {
			continue
		}
		// One that looks at other widths now knows a root that it cannot go on from.
		p.width = 32
		p.reopen()
		p.latest("l")
		p.wants(6, api.ErrHash, api.Request{Old: 6, Proof: proofOf(t, 32, 6, 8, leaves), Note: at(32, 8)})
		p.wants(6, api.ErrSplit, api.Request{Old: 6, Note: at(32, 6)})
	}
}

// TestGreat_22_4: sizes as great as they go.
func TestGreat_22_4(t *testing.T) {
	p := newPair(t, room, 32, own, logL)
	root := tree.Leaf(32, "a")
	var proof []string
	for i := range 62 {
		h := tree.Leaf(32, fmt.Sprint(i))
		proof = append(proof, h)
		root = tree.Node(32, root, h)
	}
	great := noteOf(t, api.Checkpoint{Origin: "l", Size: api.MaxSize, Root: root}, logL)
	p.wants(1, api.OK, step(t, logL, 0, 1))
	p.wants(1, api.ErrCount, api.Request{Old: 1, Proof: proof[:61], Note: great})
	p.wants(1, api.ErrRange, api.Request{Old: api.MaxSize + 1, Proof: proof, Note: great})
	p.wants(1, api.ErrStale, api.Request{Old: api.MaxSize, Proof: proof, Note: great})
	p.wants(api.MaxSize, api.OK, api.Request{Old: 1, Proof: proof, Note: great})
	p.wants(api.MaxSize, api.OK, api.Request{Old: api.MaxSize, Note: great})
	p.reopen()
	p.latest("l")
	p.wants(api.MaxSize, api.ErrSplit, api.Request{Old: api.MaxSize, Note: noteOf(t, api.Checkpoint{Origin: "l", Size: api.MaxSize, Root: tree.Empty(32)}, logL)})
}

// TestFull_22_4: where there is no room nothing is known that was not, and what was written ahead is there.
func TestFull_22_4(t *testing.T) {
	size := func(n int) int { return 18 + 18 + 16 + len(payloadOf(point(t, logL, n))) }
	p := newPair(t, size(3)-1, 32, own, logL)
	p.wants(0, api.ErrFull, step(t, logL, 0, 3))
	p.latest("l")
	p.wants(0, api.ErrMany, api.Request{Note: manySigned(t, api.Checkpoint{Origin: "l", Size: 3, Root: rootOf(32, 3, leaves)}, logL, 15)})
	p = newPair(t, size(3), 32, own, logL)
	p.wants(3, api.OK, step(t, logL, 0, 3))
	p.wants(3, api.ErrFull, step(t, logL, 3, 10)) // one digit more
	p.latest("l")
	p.wants(5, api.OK, step(t, logL, 3, 5))
	p.wants(5, api.ErrFull, step(t, logL, 5, 11))
	p.reopen()
	p.latest("l")
	p.wants(9, api.OK, step(t, logL, 5, 9))
}

// TestBig_22_4: all notes stand in one record; when they are too many for it, the last one is refused.
func TestBig_22_4(t *testing.T) {
	var logs []api.Key
	for i := range 9 {
		logs = append(logs, api.Key{Name: fmt.Sprint("log", i), Secret: "s"})
	}
	p := newPair(t, 1<<22, 32, own, logs...)
	for i, k := range logs {
		c := api.Checkpoint{Origin: k.Name, Size: 3, Root: rootOf(32, 3, leaves)}
		want, known := api.OK, 3
		if i == 8 {
			want, known = api.ErrBig, 0
		}
		p.wants(known, want, api.Request{Note: filled(t, c, k, 65000)})
		p.latest(k.Name)
	}
	p.wants(3, api.OK, step(t, logs[8], 0, 3)) // a shorter one goes
	c := api.Checkpoint{Origin: "log4", Size: 5, Root: rootOf(32, 5, leaves)}
	p.wants(5, api.OK, api.Request{Old: 3, Proof: proofOf(t, 32, 3, 5, leaves), Note: filled(t, c, logs[4], 65000)})
	p.reopen()
	for _, k := range logs {
		p.latest(k.Name)
	}
}

// TestOwn_22_4: a witness's key may be a log's, and may stand in a note already.
func TestOwn_22_4(t *testing.T) {
	p := newPair(t, room, 32, logL, logL, logM)
	s, n, _, e := p.p.Add(step(t, logL, 0, 3))
	if s != point(t, logL, 3) || n != 3 || e != api.OK {
		t.Errorf("signed already: %q, %d, %d", s, n, int(e))
	}
	q := newPair(t, room, 32, own, logL, own)
	both := noteOf(t, api.Checkpoint{Origin: "l", Size: 3, Root: rootOf(32, 3, leaves)}, logL, own)
	if s, n, _, e := q.p.Add(api.Request{Note: both}); s != both || n != 3 || e != api.OK {
		t.Errorf("signed already: %q, %d, %d", s, n, int(e))
	}
	u := newPair(t, room, 32, api.Key{Name: "l", Secret: "mine"}, logL) // of the log's name, and another key
	u.wants(3, api.OK, step(t, logL, 0, 3))
}

func TestLatest_22_5(t *testing.T) {
	p := newPair(t, room, 32, own, logL, logM)
	for _, origin := range []string{"l", "m", "x", "w", "", "l\n", strings.Repeat("l", 99)} {
		p.latest(origin)
	}
	c := api.Checkpoint{Origin: "l", Size: 5, Root: rootOf(32, 5, leaves), Ext: []string{"one", "two"}}
	p.wants(5, api.OK, api.Request{Note: noteOf(t, c, logL)})
	image := p.a.Image()
	for range 2 {
		got, e := p.p.Latest("l")
		if !samePoint(got, c) || e != api.OK {
			t.Fatalf("Latest = %+v, %d", got, int(e))
		}
		got.Ext[0] = "changed"
		_ = append(got.Ext[:1], "changed")
		p.latest("m")
		p.latest("x")
	}
	p.reopen()
	p.latest("l")
	p.logs = []api.Key{logM}
	p.reopen()
	if _, e := p.p.Latest("l"); e != api.ErrOrigin {
		t.Errorf("Latest of a log that is not known now = %d", int(e))
	}
	p.logs = []api.Key{other, logM} // the log has another key now, and what was cosigned of it stands
	p.reopen()
	if got, e := p.p.Latest("l"); !samePoint(got, c) || e != api.OK {
		t.Errorf("Latest = %+v, %d", got, int(e))
	}
	p.wants(0, api.ErrUnsigned, step(t, logL, 5, 6))
	p.wants(6, api.OK, api.Request{Old: 5, Proof: proofOf(t, 32, 5, 6, leaves), Note: noteOf(t, api.Checkpoint{Origin: "l", Size: 6, Root: rootOf(32, 6, leaves)}, other)})
	if p.a.Image() == image || p.a.Pending() != 0 {
		t.Error("a query has written, or Add has not")
	}
}

// TestMemory_22_7: lists that are handed in are neither changed nor kept, their spare room included.
func TestMemory_22_7(t *testing.T) {
	logs := append(make([]api.Key, 0, 9), logM, logL)
	spareLogs := append(logs, own)
	p := opened(t, store.New(room), own, logs, 32)
	if !slices.Equal(spareLogs, []api.Key{logM, logL, own}) {
		t.Errorf("Open changed %v", spareLogs)
	}
	logs[0], logs[1] = api.Key{Name: "x"}, other
	p.Add(step(t, logL, 0, 3))
	right := proofOf(t, 32, 3, 5, leaves)
	proof := append(make([]string, 0, 99), right...)
	spare := append(proof, "spare")
	if _, n, _, e := p.Add(api.Request{Old: 3, Proof: proof, Note: point(t, logL, 5)}); n != 5 || e != api.OK {
		t.Errorf("Add = %d, %d", n, int(e))
	}
	if !slices.Equal(spare, append(slices.Clone(right), "spare")) {
		t.Errorf("Add changed %x", spare)
	}
	ask, _ := Ask(api.Request{Old: 3, Proof: proof, Note: "x"})
	if !slices.Equal(spare, append(slices.Clone(right), "spare")) {
		t.Errorf("Ask changed %x", spare)
	}
	one, _ := Asked(ask)
	two, _ := Asked(ask)
	clear(one.Proof)
	if !slices.Equal(two.Proof, right) {
		t.Errorf("two answers share memory: %x", two.Proof)
	}
}

// claim is a note that a log has signed: of how many leaves of which list.
type claim struct {
	list []string
	size int
}

// TestNeverBack_22_8_9: a log that signs two lists and asks for whatever it likes, over power cuts at any write. All that was cosigned is of one list, rising, and Latest is the last of it or, if the power went amid Add, what was asked for.
func TestNeverBack_22_8_9(t *testing.T) {
	cosigned := 0
	for seed := range int64(120) {
		r := rand.New(rand.NewSource(seed))
		st := store.New(room)
		p := opened(t, st, own, []api.Key{logL, logM}, 32)
		done := map[string][]claim{}
		for range 60 {
			k := []api.Key{logL, logM}[r.Intn(2)]
			c := claim{[][]string{leaves, split}[r.Intn(2)], r.Intn(13)}
			was, _ := p.Latest(k.Name)
			old := was.Size
			if r.Intn(4) == 0 {
				old = r.Intn(13)
			}
			proof := []string{}
			if old <= c.size {
				proof = proofOf(t, 32, old, c.size, c.list)
			}
			if r.Intn(3) == 0 {
				st.Arm(1 + r.Intn(3))
			}
			n := noteOf(t, api.Checkpoint{Origin: k.Name, Size: c.size, Root: rootOf(32, c.size, c.list)}, k)
			_, _, _, e := p.Add(api.Request{Old: old, Proof: proof, Note: n})
			if e == api.OK {
				done[k.Name] = append(done[k.Name], c)
				cosigned++
			}
			if !st.Down() && r.Intn(9) > 0 {
				continue
			}
			st.Crash([]string{"", "\x01", "\x00\x01", "\x01\x00"}[r.Intn(4)])
			p = opened(t, st, own, []api.Key{logL, logM}, 32)
			for _, o := range []string{"l", "m"} {
				got, there := p.Latest(o)
				list := done[o]
				last := claim{leaves, 0}
				if len(list) > 0 {
					last = list[len(list)-1]
				}
				isLast := len(list) > 0 && there == api.OK && got.Size == last.size && got.Root == rootOf(32, last.size, last.list) || len(list) == 0 && there == api.ErrNone
				isAsked := e == api.ErrDown && o == k.Name && there == api.OK && got.Size == c.size && got.Root == rootOf(32, c.size, c.list)
				if !isLast && !isAsked {
					t.Fatalf("seed %d: Latest(%s) = %+v, %d, cosigned was %+v", seed, o, got, int(there), last)
				}
				if !isLast { // it is what all that follows must go on from
					done[o] = append(list, c)
				}
			}
		}
		for o, list := range done {
			for i, a := range list {
				for _, b := range list[i:] {
					if a.size > b.size || rootOf(32, a.size, a.list) != rootOf(32, a.size, b.list) {
						t.Fatalf("seed %d: of %s %+v was cosigned, then %+v", seed, o, a, b)
					}
				}
			}
		}
	}
	if cosigned < 500 {
		t.Errorf("%d notes were cosigned only", cosigned)
	}
}

// TestHonest_22_10: who goes on with the right proof is cosigned, from any size to any other.
func TestHonest_22_10(t *testing.T) {
	for _, w := range []int{1, 8, 32} {
		for from := range len(leaves) + 1 {
			for to := from; to <= len(leaves); to++ {
				p := opened(t, store.New(room), own, []api.Key{logM, logL}, w)
				for _, r := range [][2]int{{0, from}, {from, to}} {
					n := noteOf(t, api.Checkpoint{Origin: "l", Size: r[1], Root: rootOf(w, r[1], leaves)}, logL)
					s, size, v, e := p.Add(api.Request{Old: r[0], Proof: proofOf(t, w, r[0], r[1], leaves), Note: n})
					if size != r[1] || v != (api.Evidence{}) || e != api.OK {
						t.Fatalf("from %d to %d: %d, %d", r[0], r[1], size, int(e))
					}
					for _, k := range []api.Key{logL, own} {
						if o, e := note.Open(s, []api.Key{k}); o.Text+"\n" != n[:len(o.Text)+1] || len(o.Good) != 1 || e != api.OK {
							t.Fatalf("the cosigned note, opened by %s: %+v, %d", k.Name, o, int(e))
						}
					}
				}
			}
		}
	}
}

// TestScripts: calls of all kinds in any order, with power cuts and little room, as the model answers them.
func TestScripts(t *testing.T) {
	refusals := map[api.Errno]int{}
	keys := []api.Key{logL, logM, {Name: "z", Secret: "z"}}
	for seed := range int64(250) {
		r := rand.New(rand.NewSource(seed))
		w := []int{1, 2, 32, 32, 0}[r.Intn(5)]
		width := map[int]int{0: 32, 1: 1, 2: 2, 32: 32}[w]
		p := newPair(t, 200+r.Intn(1500), w, own, keys[:1+r.Intn(3)]...)
		request := func() api.Request {
			k := keys[r.Intn(3)]
			list := [][]string{leaves, leaves, leaves, split}[r.Intn(4)]
			was, _ := p.m.latest(k.Name)
			size := min(12, was.Size+r.Intn(4))
			if r.Intn(9) == 0 {
				size = r.Intn(13)
			}
			old := was.Size + r.Intn(2)*r.Intn(2)*r.Intn(2)*(r.Intn(5)-2)
			c := api.Checkpoint{Origin: k.Name, Size: size, Root: rootOf(width, size, list)}
			if r.Intn(9) == 0 {
				c.Ext = []string{strings.Repeat("e", r.Intn(300)+1)}
			}
			if r.Intn(30) == 0 {
				c.Root = strings.Repeat("r", 1+r.Intn(32))
			}
			q := api.Request{Old: old}
			if old >= 0 && old <= size {
				q.Proof = proofOf(t, width, old, size, list)
			}
			if r.Intn(15) == 0 {
				q.Proof = append(q.Proof, []string{"", c.Root}[r.Intn(2)])
			}
			if r.Intn(15) == 0 && len(q.Proof) > 0 {
				q.Proof[r.Intn(len(q.Proof))] = tree.Leaf(width, "x")
			}
			signers := []api.Key{k}
			switch r.Intn(15) {
			case 0:
				signers = []api.Key{keys[r.Intn(3)]}
			case 1:
				signers = []api.Key{own, k}
			case 2:
				signers = []api.Key{other, {Name: "q"}}
			}
			if r.Intn(30) == 0 {
				q.Note = manySigned(t, c, k, 15)
			} else {
				q.Note = noteOf(t, c, signers...)
			}
			if r.Intn(30) == 0 {
				b := []byte(q.Note)
				b[r.Intn(len(b))] ^= 1
				q.Note = string(b)
			}
			return q
		}
		for range 60 {
			switch i := r.Intn(40); {
			case i < 28:
				refusals[p.add(request())]++
			case i < 34:
				p.latest([]string{"l", "m", "z", "x"}[r.Intn(4)])
			case i < 36:
				n := r.Intn(5)
				p.stores(func(st *store.Store) { st.Arm(n) })
			case i < 38 || p.a.Down():
				keep := []string{"", "\x01", "\x00\x01", "\x01\x00"}[r.Intn(4)]
				p.stores(func(st *store.Store) { st.Crash(keep) })
				if r.Intn(3) > 0 {
					p.logs = keys[:1+r.Intn(3)]
					p.reopen()
				}
			default:
				p.logs = keys[r.Intn(2) : 2+r.Intn(2)]
				p.reopen()
			}
		}
	}
	for _, e := range []api.Errno{api.OK, api.ErrNote, api.ErrSig, api.ErrUnsigned, api.ErrOrigin, api.ErrHash, api.ErrRange, api.ErrStale, api.ErrSplit, api.ErrCount, api.ErrRoot, api.ErrMany, api.ErrFull, api.ErrDown} {
		if refusals[e] < 10 {
			t.Errorf("%d was answered %d times only", int(e), refusals[e])
		}
	}
}
