package watch

import (
	"fmt"
	"math"
	"math/rand"
	"slices"
	"strconv"
	"strings"
	"testing"

	"annals/api"
	"annals/mth"
	"annals/note"
	"annals/tree"
)

var (
	logKey  = api.Key{Name: "log", Secret: "s"}
	witness = api.Key{Name: "w", Secret: "t"}
	forger  = api.Key{Name: "log", Secret: "another"} // of the same name
)

// letters is the list of the examples; split goes on otherwise from four leaves on.
var (
	letters = strings.Split("abcdefghijkl", "")
	split   = strings.Split("abcdEFGHIJKL", "")
)

// point is the note of the first n leaves of a list.
func point(t *testing.T, w int, list []string, n int) string {
	t.Helper()
	return signed(t, api.Checkpoint{Origin: "log", Size: n, Root: rootOf(w, list[:n])}, logKey)
}

// claim is the note of any size and root.
func claim(t *testing.T, n int, root string) string {
	t.Helper()
	return signed(t, api.Checkpoint{Origin: "log", Size: n, Root: root}, logKey)
}

// refusing is a source that refuses both, beside lists that are what was asked for.
func refusing(w int, list []string, e api.Errno) Source {
	s := honest(w, list)
	return Source{
		Proof: func(m, n int) ([]string, api.Errno) {
			p, _ := s.Proof(m, n)
			return p, e
		},
		Leaves: func(lo, hi int) ([]string, api.Errno) {
			l, _ := s.Leaves(lo, hi)
			return l, e
		},
	}
}

// telling is a source that gives this proof, and the leaves of that list.
func telling(proof []string, list []string) Source {
	return Source{
		Proof:  func(m, n int) ([]string, api.Errno) { return proof, api.OK },
		Leaves: honest(32, list).Leaves,
	}
}

// manyLeaves is a list of so many unlike leaves.
func manyLeaves(n int) []string {
	list := make([]string, n)
	for i := range list {
		list[i] = strconv.Itoa(i)
	}
	return list
}

// TestExamples: the chapter's table, line by line; the model answers alike.
func TestExamples(t *testing.T) {
	if m, e := New(api.Key{}, 32, "b"); m != nil || e != api.ErrName {
		t.Errorf("New = %v, %d", m, int(e))
	}
	A, B, C := tree.Leaf(32, "a"), tree.Leaf(32, "b"), tree.Leaf(32, "c")
	AB := tree.Node(32, A, B)
	ABC := tree.Node(32, AB, C)
	R := rootOf(32, letters[:4])
	p := newPair(t, logKey, 32, "b")
	see := func(note string, s Source, want api.Sighting, refusal api.Errno) {
		t.Helper()
		if x, e := p.see(note, s); !same(x, want) || e != refusal {
			t.Errorf("See(%q) = %s, %d, want %s, %d", note, told(x), int(e), told(want), int(refusal))
		}
	}
	if n, r := p.mon.At(); n != 0 || r != tree.Empty(32) {
		t.Errorf("At = %d, %x", n, r)
	}
	if _, has := p.mon.Proof(); has {
		t.Error("Proof of nothing")
	}
	see(claim(t, 2, AB), telling(nil, letters), api.Sighting{Size: 2, Root: AB, Fresh: 2, Hits: []int{1}}, api.OK)
	see(claim(t, 2, AB), Source{}, api.Sighting{Size: 2, Root: AB}, api.OK)
	see(claim(t, 1, A), telling(nil, letters), api.Sighting{}, api.ErrShrunk)
	see(claim(t, 2, A), telling(nil, letters), api.Sighting{}, api.ErrFork)
	v, has := p.mon.Proof()
	if want := (api.Evidence{One: claim(t, 2, AB), Two: claim(t, 2, A)}); v != want || !has {
		t.Errorf("Proof = %q, %v", v, has)
	}
	if a, b, c := Judge(logKey, v), Judge(forger, v), Judge(logKey, api.Evidence{One: claim(t, 2, AB), Two: claim(t, 2, AB)}); a != api.OK || b != api.ErrJudge || c != api.ErrJudge {
		t.Errorf("Judge = %d, %d, %d", int(a), int(b), int(c))
	}
	see(claim(t, 3, ABC), telling([]string{C}, letters), api.Sighting{Size: 3, Root: ABC, Fresh: 1}, api.OK)
	right, _ := mth.Proof(32, 3, letters[:4])
	see(claim(t, 4, R), refusing(32, letters, api.ErrDown), api.Sighting{}, api.ErrDown)
	see(claim(t, 4, R), telling([]string{A, B, C}, letters), api.Sighting{}, api.ErrFork)
	see(claim(t, 4, R), telling(right, []string{"a", "b", "c", "x"}), api.Sighting{}, api.ErrLied)
	see(claim(t, 1<<40, R), telling(right, letters), api.Sighting{}, api.ErrMany)
	see(signed(t, api.Checkpoint{Origin: "other", Size: 4, Root: R}, logKey), telling(right, letters), api.Sighting{}, api.ErrOrigin)
	see(claim(t, 4, R), telling(right, letters), api.Sighting{Size: 4, Root: R, Fresh: 1}, api.OK)
	for _, x := range []struct {
		leaf string
		at   int
		want bool
	}{{"a", 9, true}, {"c", 5, true}, {"c", 6, false}} {
		promise := api.Promise{Hash: hashOf(32, x.leaf), Due: 5}
		if kept, e := Kept(32, promise, x.leaf, api.Checkpoint{Size: 2, Root: AB}, letters[:2], x.at); kept != x.want || e != api.OK {
			t.Errorf("Kept(%q, %d) = %v, %d", x.leaf, x.at, kept, int(e))
		}
	}
}

// TestNew_24_1: the names that go and those that do not; what a monitor is at first, at every width.
func TestNew_24_1(t *testing.T) {
	for name, goes := range map[string]bool{
		"": false, "l": true, "!": true, "~": true, "a+b": false, "+": false, "a b": false, " ": false, "\x7f": false, "\x1f": false, "a\n": false, "é": false,
		strings.Repeat("n", 64): true, strings.Repeat("n", 65): false,
	} {
		for _, secret := range []string{"", "s", strings.Repeat("\x00\xff", 100)} {
			m, e := New(api.Key{Name: name, Secret: secret}, 32, "x")
			if goes && (m == nil || e != api.OK) || !goes && (m != nil || e != api.ErrName) {
				t.Errorf("New(%q) = %v, %d", name, m, int(e))
			}
		}
	}
	for _, w := range []int{math.MinInt, -1, 0, 1, 2, 16, 31, 32, 33, math.MaxInt} {
		m, e := New(logKey, w, "")
		if m == nil || e != api.OK {
			t.Fatalf("New of width %d = %v, %d", w, m, int(e))
		}
		if n, r := m.At(); n != 0 || r != hashOf(w) {
			t.Errorf("At of width %d = %d, %x", w, n, r)
		}
		if v, has := m.Proof(); v != (api.Evidence{}) || has {
			t.Errorf("Proof of width %d = %q, %v", w, v, has)
		}
		if x, e := m.See(claim(t, 0, hashOf(w)), Source{}); !same(x, api.Sighting{Root: hashOf(w)}) || e != api.OK {
			t.Errorf("See of no leaves, width %d = %s, %d", w, told(x), int(e))
		}
	}
}

// TestWidths_24_2: a log of each width is followed; roots of another width are refused as what they are not.
func TestWidths_24_2(t *testing.T) {
	for w := -1; w <= 34; w++ {
		p := newPair(t, logKey, w, "c")
		s := honest(w, letters)
		wide := len(hashOf(w))
		for _, other := range []int{1, wide - 1, wide + 1, 32} {
			if other == wide || other < 1 || other > 32 {
				continue
			}
			p.wants(api.ErrLied, point(t, other, letters, 3), s)
		}
		p.wants(api.OK, point(t, w, letters, 3), s)
		p.wants(api.OK, point(t, w, letters, 7), s)
		for _, other := range []int{wide - 1, wide + 1} {
			if other < 1 || other > 32 {
				continue
			}
			p.wants(api.ErrFork, point(t, other, letters, 9), s)
			p.wants(api.ErrFork, point(t, other, letters, 7), s)
		}
		p.wants(api.OK, point(t, w, letters, 12), s)
	}
}

// TestNotes_24_2: what is no note, no checkpoint, or not that log's, and what is one whoever else has signed it.
func TestNotes_24_2(t *testing.T) {
	three := point(t, 32, letters, 3)
	body := strings.SplitAfter(three, "\n\n")[0]
	text := body[:len(body)-1]
	by := func(keys ...api.Key) string {
		s, e := note.Sign(text, keys)
		if e != api.OK {
			t.Fatalf("note.Sign = %d", int(e))
		}
		return s
	}
	anything, _ := note.Sign("hello\n", []api.Key{logKey})
	nought, _ := note.Sign(strings.Replace(text, "\n3\n", "\n03\n", 1), []api.Key{logKey})
	emptyLine, _ := note.Sign(text+"\n", []api.Key{logKey})
	c := api.Checkpoint{Origin: "log", Size: 3, Root: rootOf(32, letters[:3])}
	origin := func(o string) string {
		x := c
		x.Origin = o
		return signed(t, x, logKey)
	}
	filled := func(size int) string {
		x := c
		x.Ext = []string{strings.Repeat("e", size-len(three)-1)}
		if size == api.MaxNote {
			return signed(t, x, logKey)
		}
		body, _ := note.Text(x)
		return body + three[len(text):]
	}
	for name, x := range map[string]struct {
		note string
		want api.Errno
	}{
		"nothing":                        {"", api.ErrNote},
		"a word":                         {"x", api.ErrNote},
		"its text alone":                 {text, api.ErrNote},
		"no signatures":                  {body, api.ErrNote},
		"no newline at the end":          {three[:len(three)-1], api.ErrNote},
		"a blank behind":                 {three + " ", api.ErrNote},
		"the signature twice":            {three + three[len(body):], api.ErrNote},
		"bytes that are no text":         {"\xff" + three, api.ErrNote},
		"too long":                       {filled(api.MaxNote + 1), api.ErrBig},
		"too long, and no note":          {strings.Repeat("x", api.MaxNote+1), api.ErrBig},
		"as long as can be":              {filled(api.MaxNote), api.OK},
		"another text":                   {strings.Replace(three, "\n3\n", "\n4\n", 1), api.ErrSig},
		"another origin in the text":     {strings.Replace(three, "log\n", "lag\n", 1), api.ErrSig},
		"another secret":                 {by(forger), api.ErrUnsigned},
		"another name":                   {by(witness), api.ErrUnsigned},
		"no checkpoint":                  {anything, api.ErrPoint},
		"a nought ahead":                 {nought, api.ErrPoint},
		"an empty line":                  {emptyLine, api.ErrPoint},
		"another origin":                 {origin("other"), api.ErrOrigin},
		"a longer origin":                {origin("logs"), api.ErrOrigin},
		"a shorter origin":               {origin("lo"), api.ErrOrigin},
		"an origin in capitals":          {origin("LOG"), api.ErrOrigin},
		"cosigned":                       {by(logKey, witness), api.OK},
		"cosigned ahead":                 {by(witness, logKey), api.OK},
		"signed by one of the same name": {by(forger, logKey), api.OK},
		"lines of its own":               {signed(t, api.Checkpoint{Origin: "log", Size: 3, Root: c.Root, Ext: []string{"x", "y"}}, logKey), api.OK},
	} {
		p := newPair(t, logKey, 32, "")
		if sighting, e := p.see(x.note, honest(32, letters)); e != x.want || e == api.OK && sighting.Size != 3 {
			t.Errorf("%s: See = %s, %d, want %d", name, told(sighting), int(e), int(x.want))
		}
		if x.want != api.OK && len(p.asks) > 0 {
			t.Errorf("%s: asked %q", name, p.asks)
		}
	}
}

// TestOrder_24_2: of several refusals the first; nothing is asked that it comes ahead of.
func TestOrder_24_2(t *testing.T) {
	elsewhere := func(n int, list []string, w int) string {
		return signed(t, api.Checkpoint{Origin: "other", Size: n, Root: rootOf(w, list[:n])}, logKey)
	}
	p := newPair(t, logKey, 32, "a")
	p.wants(api.OK, point(t, 32, letters, 5), honest(32, letters))
	s := honest(32, letters)
	wrong := func(m, n int) ([]string, api.Errno) { return []string{"x"}, api.OK }
	few := func(lo, hi int) ([]string, api.Errno) { return nil, api.OK }
	for name, x := range map[string]struct {
		note string
		s    Source
		want api.Errno
		asks string
	}{
		"another origin, fewer leaves":      {elsewhere(4, letters, 32), s, api.ErrOrigin, ""},
		"another origin, another root":      {elsewhere(5, split, 32), s, api.ErrOrigin, ""},
		"another origin, too many":          {signed(t, api.Checkpoint{Origin: "other", Size: 1 << 30, Root: "r"}, logKey), s, api.ErrOrigin, ""},
		"no origin of its own, no point":    {strings.Replace(point(t, 32, letters, 4), "log\n", "\n", 1), s, api.ErrSig, ""},
		"fewer leaves, another root":        {claim(t, 4, "r"), Source{}, api.ErrShrunk, ""},
		"no leaves":                         {claim(t, 0, hashOf(32)), Source{}, api.ErrShrunk, ""},
		"one leaf less":                     {point(t, 32, letters, 4), Source{}, api.ErrShrunk, ""},
		"the same, and no source":           {point(t, 32, letters, 5), Source{}, api.OK, ""},
		"the same, and a source":            {point(t, 32, letters, 5), s, api.OK, ""},
		"too many, no source":               {claim(t, 5+1<<20+1, "r"), Source{}, api.ErrMany, ""},
		"too many":                          {claim(t, api.MaxSize, "r"), s, api.ErrMany, ""},
		"as many as can be, no source":      {claim(t, 5+1<<20, "r"), Source{}, api.ErrLied, ""},
		"no source":                         {point(t, 32, letters, 7), Source{}, api.ErrLied, ""},
		"no proof":                          {point(t, 32, letters, 7), Source{Leaves: s.Leaves}, api.ErrLied, ""},
		"the proof refused, no leaves":      {point(t, 32, letters, 7), Source{Proof: refusing(32, letters, 7).Proof}, 7, "proof 5 7"},
		"a wrong proof, no leaves":          {point(t, 32, letters, 7), Source{Proof: wrong}, api.ErrFork, "proof 5 7"},
		"a wrong proof, wrong leaves":       {point(t, 32, letters, 7), Source{wrong, few}, api.ErrFork, "proof 5 7"},
		"a proof, no leaves":                {point(t, 32, letters, 7), Source{Proof: s.Proof}, api.ErrLied, "proof 5 7"},
		"leaves refused, too":               {point(t, 32, letters, 7), Source{s.Proof, func(lo, hi int) ([]string, api.Errno) { return nil, 9 }}, 9, "proof 5 7,leaves 5 7"},
		"too few leaves":                    {point(t, 32, letters, 7), Source{s.Proof, few}, api.ErrLied, "proof 5 7,leaves 5 7"},
		"another root of the size, no list": {point(t, 32, split, 7), s, api.ErrFork, "proof 5 7"},
	} {
		_, e := p.see(x.note, x.s)
		if asks := strings.Join(p.asks, ","); e != x.want || asks != x.asks {
			t.Errorf("%s: See = %d, asked %q, want %d, %q", name, int(e), asks, int(x.want), x.asks)
		}
	}
	p.wants(api.OK, point(t, 32, letters, 12), s)
}

// TestMany_24_2: the bound is how many are new, not how many there are.
func TestMany_24_2(t *testing.T) {
	for _, last := range []int{0, 1, 5, 12} {
		p := newPair(t, logKey, 32, "")
		p.wants(api.OK, point(t, 32, letters, last), honest(32, letters))
		for _, n := range []int{last + 1<<20 + 1, last + 1<<20 + 2, 1 << 40, api.MaxSize - 1, api.MaxSize} {
			p.wants(api.ErrMany, claim(t, n, rootOf(32, letters)), honest(32, letters))
			if len(p.asks) > 0 {
				t.Errorf("from %d to %d: asked %q", last, n, p.asks)
			}
		}
		for _, n := range []int{last + 1, last + 1<<20 - 1, last + 1<<20} {
			p.wants(17, claim(t, n, rootOf(32, letters)), refusing(32, letters, 17))
			if len(p.asks) != 1 {
				t.Errorf("from %d to %d: asked %q", last, n, p.asks)
			}
		}
	}
}

// TestAll_24_2: as many leaves as can be, behind others.
func TestAll_24_2(t *testing.T) {
	const last = 3
	list := manyLeaves(last + 1<<20)
	m, _ := New(logKey, 32, "99999")
	if _, e := m.See(point(t, 32, list, last), honest(32, list)); e != api.OK {
		t.Fatalf("See = %d", int(e))
	}
	var heard said
	s, whole := hear(honest(32, list), &heard)
	root := rootOf(32, list)
	x, e := m.See(claim(t, len(list), root), s)
	var hits []int
	for i, leaf := range list {
		if strings.Contains(leaf, "99999") {
			hits = append(hits, i)
		}
	}
	if !same(x, api.Sighting{Size: len(list), Root: root, Fresh: 1 << 20, Hits: hits}) || e != api.OK {
		t.Errorf("See = %d, %d, %d hits, %d", x.Size, x.Fresh, len(x.Hits), int(e))
	}
	if len(heard.asks) != 1025 || heard.asks[1] != "leaves 3 1027" || heard.asks[1024] != "leaves 1047555 1048579" || !whole() {
		t.Errorf("asked %d times", len(heard.asks))
	}
	if n, r := m.At(); n != len(list) || r != root {
		t.Errorf("At = %d, %x", n, r)
	}
}

// TestBatches_24_2: which leaves are asked for at once, and that none is behind a refusal.
func TestBatches_24_2(t *testing.T) {
	list := manyLeaves(5000)
	s := honest(8, list)
	for _, last := range []int{0, 1, 7, 1023, 1024, 1025} {
		for _, fresh := range []int{1, 2, 1023, 1024, 1025, 2047, 2048, 2049, 3500} {
			p := newPair(t, logKey, 8, "00")
			p.wants(api.OK, point(t, 8, list, last), s)
			p.wants(api.OK, point(t, 8, list, last+fresh), s)
			var want []string
			if last > 0 {
				want = append(want, fmt.Sprint("proof ", last, " ", last+fresh))
			}
			for lo := last; lo < last+fresh; lo += 1024 {
				want = append(want, fmt.Sprint("leaves ", lo, " ", min(lo+1024, last+fresh)))
			}
			if !slices.Equal(p.asks, want) {
				t.Errorf("from %d on, %d: asked %q, want %q", last, fresh, p.asks, want)
			}
		}
	}
	for stop := range 4 { // the batch of this number is told otherwise
		for _, fault := range []func(l []string) ([]string, api.Errno){
			func(l []string) ([]string, api.Errno) { return l, api.ErrSpoilt },
			func(l []string) ([]string, api.Errno) { return nil, api.OK },
			func(l []string) ([]string, api.Errno) { return l[1:], api.OK },
			func(l []string) ([]string, api.Errno) { return append(slices.Clone(l), "x"), api.OK },
			func(l []string) ([]string, api.Errno) { return append([]string{"x"}, l[1:]...), api.OK },
		} {
			p := newPair(t, logKey, 8, "")
			p.wants(api.OK, point(t, 8, list, 100), s)
			lying := Source{s.Proof, func(lo, hi int) ([]string, api.Errno) {
				l, e := s.Leaves(lo, hi)
				if lo == 100+1024*stop {
					return fault(l)
				}
				return l, e
			}}
			if x, e := p.see(point(t, 8, list, 4196), lying); e == api.OK {
				t.Errorf("See = %s, %d", told(x), int(e))
			}
			p.wants(api.OK, point(t, 8, list, 4196), s)
		}
	}
}

// TestRefusals_24_2: what a source refuses with comes as it is, whatever stands beside it.
func TestRefusals_24_2(t *testing.T) {
	s := honest(32, letters)
	for _, refusal := range []api.Errno{1, -1, 7, 9999, math.MinInt, math.MaxInt, api.ErrFork, api.ErrLied, api.ErrShrunk, api.ErrDown, api.ErrRoot} {
		no := refusing(32, letters, refusal)
		p := newPair(t, logKey, 32, "a")
		p.wants(refusal, point(t, 32, letters, 3), no)
		p.wants(api.OK, point(t, 32, letters, 3), Source{no.Proof, s.Leaves}) // from no leaves on there is no proof
		p.wants(refusal, point(t, 32, letters, 8), Source{no.Proof, s.Leaves})
		p.wants(refusal, point(t, 32, letters, 8), Source{s.Proof, no.Leaves})
		p.wants(api.OK, point(t, 32, letters, 8), s)
	}
	p := newPair(t, logKey, 32, "a")
	p.wants(api.OK, point(t, 32, letters, 3), refusing(32, letters, api.OK))
	p.wants(api.OK, point(t, 32, letters, 8), refusing(32, letters, api.OK))
}

// TestProofs_24_2: proofs that are none of that step.
func TestProofs_24_2(t *testing.T) {
	right, _ := mth.Proof(32, 3, letters[:7])
	for name, proof := range map[string][]string{
		"none":             nil,
		"one less":         right[:len(right)-1],
		"one more":         append(slices.Clone(right), right[0]),
		"another order":    {right[1], right[0], right[2], right[3]},
		"a short hash":     {right[0], right[1], right[2], right[3][1:]},
		"a long hash":      {right[0] + "x", right[1], right[2], right[3]},
		"an unlike hash":   {right[0], hashOf(32, "x"), right[2], right[3]},
		"of another step":  func() []string { p, _ := mth.Proof(32, 3, letters[:8]); return p }(),
		"of another list":  func() []string { p, _ := mth.Proof(32, 3, split[:7]); return p }(),
		"from another one": func() []string { p, _ := mth.Proof(32, 5, letters[:7]); return p }(),
	} {
		p := newPair(t, logKey, 32, "")
		p.wants(api.OK, point(t, 32, letters, 3), honest(32, letters))
		if _, e := p.see(point(t, 32, letters, 7), telling(proof, letters)); e != api.ErrFork || len(p.asks) != 1 {
			t.Errorf("%s: See = %d, asked %q", name, int(e), p.asks)
		}
		if _, has := p.mon.Proof(); has {
			t.Errorf("%s: there is evidence of two sizes", name)
		}
		p.wants(api.OK, point(t, 32, letters, 7), telling(right, letters))
	}
}

// TestLies_24_2: leaves that are as many as were asked for, and not those of the root, at each place.
func TestLies_24_2(t *testing.T) {
	for last := range 5 {
		for n := last + 1; n <= 9; n++ {
			for place := last; place < n; place++ {
				p := newPair(t, logKey, 32, "x")
				p.wants(api.OK, point(t, 32, letters, last), honest(32, letters))
				other := slices.Clone(letters)
				other[place] = "x"
				p.wants(api.ErrLied, point(t, 32, letters, n), Source{honest(32, letters).Proof, honest(32, other).Leaves})
				other[place], other[(place+1)%n] = letters[(place+1)%n], letters[place]
				if n > 1 {
					p.wants(api.ErrLied, point(t, 32, letters, n), Source{honest(32, letters).Proof, honest(32, other).Leaves})
				}
				p.wants(api.OK, point(t, 32, letters, n), honest(32, letters))
			}
		}
	}
}

// TestHits_24_2: which leaves hold the pattern, by all kinds of patterns; places count from the log's first leaf on.
func TestHits_24_2(t *testing.T) {
	list := []string{"", "a", "ab", "b", "ba", "cab", "aab", "a b", "AB", "a\x00b", "\xff", "abab", "é", "ab"}
	for pattern, want := range map[string][]int{
		"": nil, "a": {1, 2, 4, 5, 6, 7, 9, 11, 13}, "ab": {2, 5, 6, 11, 13}, "abab": {11}, "ababa": nil, "\x00": {9}, "\xff": {10}, "\xc3": {12}, "é": {12}, " ": {7}, "AB": {8}, ".": nil, "a*": nil,
	} {
		m, _ := New(logKey, 32, pattern)
		for i, n := range []int{0, 1, 3, 4, 4, 11, 13, 14} {
			x, e := m.See(point(t, 32, list, n), honest(32, list))
			last := []int{0, 0, 1, 3, 4, 4, 11, 13}[i]
			var hits []int
			for _, h := range want {
				if last <= h && h < n {
					hits = append(hits, h)
				}
			}
			if e != api.OK || x.Fresh != n-last || !slices.Equal(x.Hits, hits) {
				t.Errorf("%q, from %d to %d: %s, %d, want %v", pattern, last, n, told(x), int(e), hits)
			}
		}
	}
}

// TestLongLeaves_24_2: leaves of any length are looked at, those that no log would take, too.
func TestLongLeaves_24_2(t *testing.T) {
	list := []string{strings.Repeat("x", api.MaxLeaf), strings.Repeat("x", api.MaxLeaf+1), strings.Repeat("x", 1<<20) + "y", ""}
	p := newPair(t, logKey, 32, "xy")
	if x, e := p.see(point(t, 32, list, 4), honest(32, list)); e != api.OK || !slices.Equal(x.Hits, []int{2}) {
		t.Errorf("See = %v, %d", x.Hits, int(e))
	}
}

// TestEvidence_24_3: two roots of the last size, the latest ones; the last note is the one by which the leaves were taken.
func TestEvidence_24_3(t *testing.T) {
	p := newPair(t, logKey, 32, "")
	s := honest(32, letters)
	has := func(one, two string) {
		t.Helper()
		v, is := p.mon.Proof()
		if want := (api.Evidence{One: one, Two: two}); v != want || is != (one != "") {
			t.Errorf("Proof = %q, %v, want %q", v, is, want)
		}
	}
	p.wants(api.ErrFork, claim(t, 0, "r"), s) // there is no last note yet
	has("", "")
	p.wants(api.OK, claim(t, 0, hashOf(32)), s) // nor is that one
	p.wants(api.ErrFork, claim(t, 0, "r"), s)
	has("", "")
	three, five := point(t, 32, letters, 3), point(t, 32, letters, 5)
	p.wants(api.OK, three, s)
	has("", "")
	again := signed(t, api.Checkpoint{Origin: "log", Size: 3, Root: rootOf(32, letters[:3]), Ext: []string{"later"}}, logKey, witness)
	p.wants(api.OK, again, s)
	p.wants(api.ErrFork, claim(t, 3, "r"), Source{})
	has(three, claim(t, 3, "r"))
	p.wants(api.ErrFork, claim(t, 3, "R"), s)
	has(three, claim(t, 3, "R"))
	for _, other := range []string{"x", claim(t, 2, "r"), signed(t, api.Checkpoint{Origin: "other", Size: 3, Root: "r"}, logKey), signed(t, api.Checkpoint{Origin: "log", Size: 3, Root: "r"}, forger), claim(t, 1<<30, "r"), claim(t, 4, "r")} {
		if _, e := p.see(other, s); e == api.OK {
			t.Errorf("See(%q) = %d", other, int(e))
		}
		has(three, claim(t, 3, "R"))
	}
	p.wants(api.OK, three, s)
	p.wants(api.OK, five, s)
	has(three, claim(t, 3, "R")) // which goes on to show what was
	p.wants(api.ErrShrunk, claim(t, 3, "r"), s)
	has(three, claim(t, 3, "R"))
	cosigned, _ := note.Add(point(t, 32, split, 5), witness)
	p.wants(api.ErrFork, cosigned, honest(32, split))
	has(five, cosigned)
	if e := Judge(logKey, api.Evidence{One: five, Two: cosigned}); e != api.OK {
		t.Errorf("Judge = %d", int(e))
	}
}

// TestJudge_24_4: what shows two views, and what does not; the rule, written another way, says the same, whichever note comes first.
func TestJudge_24_4(t *testing.T) {
	c := func(size int, root string, ext ...string) api.Checkpoint {
		return api.Checkpoint{Origin: "log", Size: size, Root: root, Ext: ext}
	}
	other := api.Checkpoint{Origin: "other", Size: 5, Root: "q"}
	hello, _ := note.Sign("hello\n", []api.Key{logKey})
	five := signed(t, c(5, "r"), logKey)
	long := signed(t, c(5, "q", strings.Repeat("e", 60000)), logKey)
	for name, x := range map[string]struct {
		k        api.Key
		one, two string
		want     api.Errno
	}{
		"two roots":                       {logKey, five, signed(t, c(5, "q"), logKey), api.OK},
		"of other lengths":                {logKey, five, signed(t, c(5, "rr"), logKey), api.OK},
		"of no leaves":                    {logKey, signed(t, c(0, "r"), logKey), signed(t, c(0, "q"), logKey), api.OK},
		"of all leaves":                   {logKey, signed(t, c(api.MaxSize, "r"), logKey), signed(t, c(api.MaxSize, "q"), logKey), api.OK},
		"others have signed, too":         {logKey, signed(t, c(5, "r"), witness, logKey), signed(t, c(5, "q", "x"), logKey, forger), api.OK},
		"a long one":                      {logKey, five, long, api.OK},
		"one too long":                    {logKey, five, strings.Replace(long, "eee", strings.Repeat("e", 6000), 1), api.ErrJudge},
		"the same twice":                  {logKey, five, five, api.ErrJudge},
		"one root":                        {logKey, five, signed(t, c(5, "r", "x"), logKey), api.ErrJudge},
		"one root, cosigned":              {logKey, five, signed(t, c(5, "r"), logKey, witness), api.ErrJudge},
		"two sizes":                       {logKey, five, signed(t, c(6, "q"), logKey), api.ErrJudge},
		"two sizes, one root":             {logKey, five, signed(t, c(6, "r"), logKey), api.ErrJudge},
		"one of another log":              {logKey, five, signed(t, other, logKey), api.ErrJudge},
		"both of another log":             {logKey, signed(t, api.Checkpoint{Origin: "other", Size: 5, Root: "r"}, logKey), signed(t, other, logKey), api.ErrJudge},
		"one that is no checkpoint":       {logKey, five, hello, api.ErrJudge},
		"one that another key has signed": {logKey, five, signed(t, c(5, "q"), witness), api.ErrJudge},
		"one that a forger has signed":    {logKey, five, signed(t, c(5, "q"), forger), api.ErrJudge},
		"both that a forger has signed":   {logKey, signed(t, c(5, "r"), forger), signed(t, c(5, "q"), forger), api.ErrJudge},
		"the forger judged":               {forger, signed(t, c(5, "r"), forger), signed(t, c(5, "q"), forger), api.OK},
		"the forger's, and ours":          {forger, five, signed(t, c(5, "q"), logKey), api.ErrJudge},
		"one whose text is another":       {logKey, five, strings.Replace(signed(t, c(6, "q"), logKey), "\n6\n", "\n5\n", 1), api.ErrJudge},
		"one and nothing":                 {logKey, five, "", api.ErrJudge},
		"nothing":                         {logKey, "", "", api.ErrJudge},
		"one and a word":                  {logKey, five, "x", api.ErrJudge},
		"no leaves, and nothing":          {logKey, signed(t, c(0, "r"), logKey), "", api.ErrJudge},
		"no leaves, and no checkpoint":    {logKey, signed(t, c(0, "r"), logKey), hello, api.ErrJudge},
		"no leaves, and a forger's":       {logKey, signed(t, c(0, "r"), logKey), signed(t, c(0, "q"), forger), api.ErrJudge},
		"no leaves, and of another log":   {logKey, signed(t, c(0, "r"), logKey), signed(t, api.Checkpoint{Origin: "other", Root: "q"}, logKey), api.ErrJudge},
		"a key that has no name":          {api.Key{Secret: "s"}, five, signed(t, c(5, "q"), logKey), api.ErrJudge},
		"a key of another name":           {api.Key{Name: "other", Secret: "s"}, five, signed(t, c(5, "q"), logKey), api.ErrJudge},
		"the witness, of what it signed":  {witness, signed(t, c(5, "r"), logKey, witness), signed(t, c(5, "q"), logKey, witness), api.ErrJudge},
	} {
		for _, v := range []api.Evidence{{One: x.one, Two: x.two}, {One: x.two, Two: x.one}} {
			if e := Judge(x.k, v); e != x.want || judged(x.k, v) != x.want {
				t.Errorf("%s: Judge = %d, want %d (model: %d)", name, int(e), int(x.want), int(judged(x.k, v)))
			}
		}
	}
}

// TestKept_24_5: the chapter's steps in their order, at the edges of time; and what is not looked at.
func TestKept_24_5(t *testing.T) {
	list := []string{"a", "b", "", "abc", "b"}
	c := api.Checkpoint{Origin: "any", Size: 5, Root: rootOf(32, list), Ext: []string{"x"}}
	sized := func(n int) api.Checkpoint { return api.Checkpoint{Size: n, Root: c.Root} }
	promise := func(leaf string, due int) api.Promise {
		return api.Promise{Hash: hashOf(32, leaf), Time: math.MaxInt, Due: due, Mac: "any"}
	}
	for name, x := range map[string]struct {
		w    int
		p    api.Promise
		leaf string
		c    api.Checkpoint
		list []string
		at   int
		want bool
		e    api.Errno
	}{
		"the first leaf":                 {32, promise("a", 5), "a", c, list, 9, true, api.OK},
		"the last leaf":                  {32, promise("b", 5), "b", c, list, 9, true, api.OK},
		"the empty leaf":                 {32, promise("", 5), "", c, list, math.MaxInt, true, api.OK},
		"there, and time":                {32, promise("abc", 5), "abc", c, list, 5, true, api.OK},
		"the beginning of a leaf":        {32, promise("ab", 5), "ab", c, list, 6, false, api.OK},
		"not there, and time":            {32, promise("z", 5), "z", c, list, 5, true, api.OK},
		"not there, and time enough":     {32, promise("z", 5), "z", c, list, math.MinInt, true, api.OK},
		"not there, and no time":         {32, promise("z", 5), "z", c, list, 6, false, api.OK},
		"due before all times":           {32, promise("z", math.MinInt), "z", c, list, math.MinInt, true, api.OK},
		"due, and behind it":             {32, promise("z", math.MinInt), "z", c, list, math.MinInt + 1, false, api.OK},
		"due behind all times":           {32, promise("z", math.MaxInt), "z", c, list, math.MaxInt, true, api.OK},
		"due below 0":                    {32, promise("z", -5), "z", c, list, -4, false, api.OK},
		"no leaves":                      {32, promise("z", 5), "z", api.Checkpoint{Root: hashOf(32)}, nil, 6, false, api.OK},
		"no leaves, and time":            {32, promise("z", 5), "z", api.Checkpoint{Root: hashOf(32)}, nil, 5, true, api.OK},
		"a promise for another leaf":     {32, promise("a", 5), "b", c, list, 9, false, api.ErrJudge},
		"the same, and time":             {32, promise("a", 5), "b", c, list, 5, false, api.ErrJudge},
		"no hash":                        {32, api.Promise{Due: 5}, "a", c, list, 5, false, api.ErrJudge},
		"the hash of a tree's leaf":      {32, api.Promise{Hash: hashOf(32, "\x00", "a"), Due: 5}, "a", c, list, 9, false, api.ErrJudge},
		"a hash that is cut":             {32, api.Promise{Hash: hashOf(31, "a"), Due: 5}, "a", c, list, 9, false, api.ErrJudge},
		"a leaf less":                    {32, promise("a", 5), "a", c, list[:4], 5, false, api.ErrLied},
		"a leaf more":                    {32, promise("a", 5), "a", c, append(slices.Clone(list), "x"), 5, false, api.ErrLied},
		"none":                           {32, promise("a", 5), "a", c, nil, 5, false, api.ErrLied},
		"another order":                  {32, promise("a", 5), "a", c, []string{"b", "a", "", "abc", "b"}, 5, false, api.ErrLied},
		"another size":                   {32, promise("a", 5), "a", sized(4), list, 5, false, api.ErrLied},
		"a greater size":                 {32, promise("a", 5), "a", sized(6), list, 5, false, api.ErrLied},
		"a size below 0":                 {32, promise("a", 5), "a", api.Checkpoint{Size: -1, Root: hashOf(32)}, nil, 5, false, api.ErrLied},
		"the greatest size":              {32, promise("a", 5), "a", sized(math.MaxInt), list, 5, false, api.ErrLied},
		"another root":                   {32, promise("a", 5), "a", api.Checkpoint{Size: 5, Root: hashOf(32, "x")}, list, 5, false, api.ErrLied},
		"no root":                        {32, promise("a", 5), "a", api.Checkpoint{Size: 5}, list, 5, false, api.ErrLied},
		"another list, another promise":  {32, promise("x", 5), "a", c, list[:4], 5, false, api.ErrLied},
		"another width":                  {31, promise("a", 5), "a", c, list, 5, false, api.ErrLied},
		"no width":                       {0, promise("a", 5), "a", c, list, 9, true, api.OK},
		"a width below 0":                {math.MinInt, promise("a", 5), "a", c, list, 9, true, api.OK},
		"a width above 32":               {33, promise("z", 5), "z", c, list, 9, false, api.OK},
		"a byte wide, the hash is whole": {1, promise("z", 5), "z", api.Checkpoint{Size: 5, Root: rootOf(1, list)}, list, 9, false, api.OK},
	} {
		given := append(slices.Clone(x.list), "spare")
		kept, e := Kept(x.w, x.p, x.leaf, x.c, given[:len(x.list)], x.at)
		model, f := wasKept(x.w, x.p, x.leaf, x.c, x.list, x.at)
		if kept != x.want || e != x.e || model != x.want || f != x.e {
			t.Errorf("%s: Kept = %v, %d, want %v, %d (model: %v, %d)", name, kept, int(e), x.want, int(x.e), model, int(f))
		}
		if !slices.Equal(given, append(slices.Clone(x.list), "spare")) {
			t.Errorf("%s: the list is %q", name, given)
		}
	}
}

// TestKeptByChance_24_5: small lists and times, at widths of which some roots are alike.
func TestKeptByChance_24_5(t *testing.T) {
	r := rand.New(rand.NewSource(245))
	outcomes := map[string]int{}
	for range 20000 {
		some := func() []string {
			list := make([]string, r.Intn(6))
			for i := range list {
				list[i] = strings.Repeat("x", r.Intn(5))
			}
			return list
		}
		w := []int{0, 1, 32}[r.Intn(3)]
		list, leaf := some(), strings.Repeat("x", r.Intn(6))
		c := api.Checkpoint{Size: len(list), Root: rootOf(w, list)}
		if r.Intn(4) == 0 {
			c.Root = rootOf(w, some())
		}
		if r.Intn(4) == 0 {
			c.Size = r.Intn(6)
		}
		p := api.Promise{Hash: hashOf(32, leaf), Due: r.Intn(4)}
		if r.Intn(4) == 0 {
			p.Hash = hashOf(32, leaf+"x")
		}
		at := r.Intn(5)
		kept, e := Kept(w, p, leaf, c, list, at)
		if want, f := wasKept(w, p, leaf, c, list, at); kept != want || e != f {
			t.Fatalf("Kept(%d, %+v, %q, %+v, %q, %d) = %v, %d, want %v, %d", w, p, leaf, c, list, at, kept, int(e), want, int(f))
		}
		outcomes[fmt.Sprint(kept, int(e))]++
	}
	if len(outcomes) != 4 {
		t.Errorf("outcomes: %v", outcomes)
	}
}

// spoil is a source that does something wrong, or nothing.
func spoil(r *rand.Rand, s, other Source) Source {
	switch r.Intn(12) {
	case 0:
		s.Proof = nil
	case 1:
		s.Leaves = nil
	case 2:
		s.Proof = other.Proof
	case 3:
		s.Leaves = other.Leaves
	case 4:
		return other
	case 5:
		proof, turn := s.Proof, r.Intn(8)
		s.Proof = func(m, n int) ([]string, api.Errno) {
			p, e := proof(m, n)
			if p = slices.Clone(p); len(p) > 0 {
				p[turn%len(p)] = strings.Repeat("x", len(p[0]))
			}
			return p, e
		}
	case 6:
		proof := s.Proof
		s.Proof = func(m, n int) ([]string, api.Errno) {
			p, _ := proof(m, n)
			return p, 1234
		}
	case 7:
		leaves, turn := s.Leaves, r.Intn(100)
		s.Leaves = func(lo, hi int) ([]string, api.Errno) {
			l, e := leaves(lo, hi)
			if l = slices.Clone(l); len(l) > 0 {
				l[turn%len(l)] += "x"
			}
			return l, e
		}
	case 8:
		leaves := s.Leaves
		s.Leaves = func(lo, hi int) ([]string, api.Errno) {
			l, _ := leaves(lo, hi)
			return l, -5
		}
	}
	return s
}

// note is a checkpoint of a list, or something that is not quite one.
func (b branches) note(t *testing.T, r *rand.Rand, list []string, n int) string {
	c := api.Checkpoint{Origin: "log", Size: n, Root: rootOf(b.w, list[:n])}
	keys := []api.Key{logKey}
	switch r.Intn(24) {
	case 0:
		c.Origin = "other"
	case 1:
		keys = []api.Key{forger}
	case 2:
		keys = []api.Key{witness, logKey, forger}
	case 3:
		c.Root = hashOf(b.w, "x")
	case 4:
		c.Ext = []string{strconv.Itoa(r.Intn(100))}
	case 5:
		c.Size += 1 << (20 + r.Intn(40))
	case 6:
		c.Root = hashOf(31, c.Root)
	case 7:
		return strings.Replace(signed(t, c, keys...), "log\n", "lot\n", 1)
	case 8:
		return signed(t, c, keys...) + "x"
	case 9:
		s, _ := note.Sign("hello\n", keys)
		return s
	}
	return signed(t, c, keys...)
}

// branches are lists that begin alike.
type branches struct {
	w     int
	lists [][]string
}

func someBranches(r *rand.Rand) branches {
	b := branches{w: []int{0, 1, 1, 2, 3, 20, 32, 40}[r.Intn(8)]}
	trunk := make([]string, 60)
	for i := range trunk {
		trunk[i] = strings.Repeat("a", r.Intn(3)) + strings.Repeat("b", r.Intn(2))
	}
	for range 3 {
		list := slices.Clone(trunk)
		for i := r.Intn(60); i < len(list); i++ {
			list[i] += "c"
		}
		b.lists = append(b.lists, list)
	}
	return b
}

// TestByChance: many scripts of checkpoints, of lists that part, from sources that are honest, lie, refuse or are missing. What 24.6 to 24.8 promise is looked at behind each call (see pair).
func TestByChance(t *testing.T) {
	outcomes := map[api.Errno]int{}
	for seed := range 3000 {
		r := rand.New(rand.NewSource(int64(seed)))
		b := someBranches(r)
		p := newPair(t, logKey, b.w, []string{"", "a", "ab", "c"}[r.Intn(4)])
		list := b.lists[0]
		for range 12 {
			if r.Intn(6) == 0 {
				list = b.lists[r.Intn(3)]
			}
			last, _ := p.mon.At()
			n := min(max(0, last+r.Intn(14)-2), 60)
			x, e := p.see(b.note(t, r, list, n), spoil(r, honest(b.w, list), honest(b.w, b.lists[r.Intn(3)])))
			outcomes[e]++
			if e == api.OK && x.Fresh == 0 {
				outcomes[-1]++
			}
		}
	}
	for _, e := range []api.Errno{-1, api.OK, api.ErrNote, api.ErrSig, api.ErrUnsigned, api.ErrPoint, api.ErrOrigin, api.ErrShrunk, api.ErrFork, api.ErrMany, api.ErrLied, 1234, -5} {
		if outcomes[e] < 20 {
			t.Errorf("%d was answered %d times alone", int(e), outcomes[e])
		}
	}
}

// TestForged_24_8: roots that are made up to fit their proofs. Hashes are a byte wide, so that some leaves make such a root; what is taken then does so all the same, and is consistent by the proof that was shown (see pair).
func TestForged_24_8(t *testing.T) {
	taken := 0
	for first := range 256 {
		for second := range 16 {
			p := newPair(t, logKey, 1, "")
			p.wants(api.OK, point(t, 1, letters, 4), honest(1, letters))
			forged := telling([]string{string([]byte{byte(first)})}, append(slices.Clone(letters[:4]), strconv.Itoa(second)))
			if _, e := p.see(claim(t, 5, hashOf(1, "\x01", rootOf(1, letters[:4]), string([]byte{byte(first)}))), forged); e == api.OK {
				taken++
			}
		}
	}
	if taken == 0 || taken > 256 {
		t.Errorf("%d were taken", taken)
	}
}

// TestNothingShared_R4: who changes a list that was answered, or that was handed in, changes nothing of the monitor.
func TestNothingShared_R4(t *testing.T) {
	m, _ := New(logKey, 32, "a")
	list := []string{"a1", "a2", "a3", "a4", "a5", "a6"}
	s := honest(32, list)
	buffer := make([]string, 1024)
	reusing := Source{s.Proof, func(lo, hi int) ([]string, api.Errno) {
		l, e := s.Leaves(lo, hi)
		return buffer[:copy(buffer, l)], e
	}}
	x, e := m.See(point(t, 32, list, 3), reusing)
	if e != api.OK || !slices.Equal(x.Hits, []int{0, 1, 2}) {
		t.Fatalf("See = %s, %d", told(x), int(e))
	}
	clear(buffer)
	hits := x.Hits
	clear(hits[:cap(hits)])
	y, e := m.See(point(t, 32, list, 6), reusing)
	if e != api.OK || !slices.Equal(y.Hits, []int{3, 4, 5}) || !slices.Equal(hits, []int{0, 0, 0}) {
		t.Errorf("See = %s, %d, beside %v", told(y), int(e), hits)
	}
	twin, _ := New(logKey, 32, "a")
	if n, r := twin.At(); n != 0 || r != hashOf(32) {
		t.Errorf("another monitor is at %d, %x", n, r)
	}
}

// TestBreaks_R1: a source that panics has said nothing; no call panics, on no monitor either.
func TestBreaks_R1(t *testing.T) {
	p := newPair(t, logKey, 32, "")
	s := honest(32, letters)
	panics := []func(from, to int) ([]string, api.Errno){
		func(from, to int) ([]string, api.Errno) { panic("x") },
		func(from, to int) ([]string, api.Errno) { panic(nil) },
		func(from, to int) ([]string, api.Errno) { return letters[to:from], api.OK },
	}
	for _, f := range panics {
		if x, e := p.mon.See(point(t, 32, letters, 3), Source{f, f}); !same(x, api.Sighting{}) || e != api.ErrLied {
			t.Errorf("See = %s, %d", told(x), int(e))
		}
		p.alike()
	}
	p.wants(api.OK, point(t, 32, letters, 3), s)
	for _, f := range panics {
		for _, source := range []Source{{f, s.Leaves}, {s.Proof, f}} {
			if x, e := p.mon.See(point(t, 32, letters, 5), source); !same(x, api.Sighting{}) || e != api.ErrLied {
				t.Errorf("See = %s, %d", told(x), int(e))
			}
			p.alike()
		}
	}
	p.wants(api.OK, point(t, 32, letters, 5), s)
	for _, m := range []*Monitor{nil, {}} {
		if x, e := m.See(point(t, 32, letters, 3), s); !same(x, api.Sighting{}) || e != api.ErrName {
			t.Errorf("See of none = %s, %d", told(x), int(e))
		}
		if n, r := m.At(); n != 0 || r != "" {
			t.Errorf("At of none = %d, %x", n, r)
		}
		if v, has := m.Proof(); v != (api.Evidence{}) || has {
			t.Errorf("Proof of none = %q, %v", v, has)
		}
	}
}
