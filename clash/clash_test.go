package clash

import (
	"crypto/sha256"
	"encoding/hex"
	"fmt"
	"math"
	"math/rand"
	"slices"
	"strings"
	"testing"

	"annals/api"
	"annals/check"
	"annals/mth"
	"annals/prove"
	"annals/tree"
)

// MaxWidth and MaxBatch, written out, so that the tests do not lean on what they look at.
const (
	widest = 32
	most   = 1024
)

// The four calls, by what they are about.
const (
	ofLeaf = iota + 1
	ofOld
	ofRange
	ofMulti
)

func kinds() []int { return []int{ofLeaf, ofOld, ofRange, ofMulti} }

// cut is the hash of a text by another program, of so many bytes.
func cut(bytes int, text string) string {
	h := sha256.Sum256([]byte(text))
	return string(h[:bytes])
}

// outsideWidths are widths that count as 32, among them those whose low bits are a width that is less.
func outsideWidths() []int {
	return []int{0, -1, -2, -8, -31, -32, -33, 33, 34, 64, 255, 256, 257, 258, 264, 1 << 16, 1<<16 + 1, 1 << 32, 1<<32 + 1, 1<<32 + 8, 1<<62 + 1, math.MinInt, math.MinInt + 1, math.MinInt + 8, math.MaxInt}
}

// split is the greatest power of two below n, found from below.
func split(n int) int {
	k := 1
	for 2*k < n {
		k *= 2
	}
	return k
}

// piece is a part of a tree, as the tests have it.
type piece struct{ lo, hi int }

func (p piece) within(q piece) bool { return q.lo <= p.lo && p.hi <= q.hi }
func (p piece) size() int           { return p.hi - p.lo }

// below are the two parts of one of 2 leaves or more.
func (p piece) below() (piece, piece) {
	mid := p.lo + split(p.size())
	return piece{p.lo, mid}, piece{mid, p.hi}
}

// partsOf are all parts of a tree of n leaves, each ahead of what is in it and the left ones ahead of the right ones: by where they begin, then the greater one first.
func partsOf(n int) []piece {
	var list []piece
	for wait := []piece{{0, n}}; len(wait) > 0; {
		p := wait[len(wait)-1]
		wait = wait[:len(wait)-1]
		list = append(list, p)
		if p.size() > 1 {
			l, r := p.below()
			wait = append(wait, l, r)
		}
	}
	slices.SortFunc(list, func(p, q piece) int {
		if p.lo != q.lo {
			return p.lo - q.lo
		}
		return q.hi - p.hi
	})
	return list
}

// laid is a list with all hashes of its tree, by another program.
type laid struct {
	bytes int
	list  []string
	parts []piece
	sums  map[piece]string
}

func lay(bytes int, list []string) *laid {
	l := &laid{bytes: bytes, list: list, sums: map[piece]string{}}
	if len(list) == 0 {
		return l
	}
	l.parts = partsOf(len(list))
	for i := range l.parts { // from the last on, so that what is below is there
		p := l.parts[len(l.parts)-1-i]
		l.sums[p] = cut(bytes, l.text(p))
	}
	return l
}

// text is the text of a part in the list's tree.
func (l *laid) text(p piece) string {
	if p.size() == 1 {
		return "\x00" + l.list[p.lo]
	}
	left, right := p.below()
	return "\x01" + l.sums[left] + l.sums[right]
}

// root is the root of the first n leaves.
func (l *laid) root(n int) string {
	if n == 0 {
		return cut(l.bytes, "")
	}
	if n == len(l.list) {
		return l.sums[piece{0, n}]
	}
	return lay(l.bytes, l.list[:n]).root(n)
}

// claim is what one of the calls is handed: a is the leaf's place, the older size, or where the range begins; claimed are leaves, or the older root.
type claim struct {
	on      *laid
	kind    int
	a       int
	at      []int
	claimed []string
	proof   []string
}

func (c claim) String() string {
	list := c.on.list
	if len(list) > 10 {
		list = nil
	}
	at := c.at
	if len(at) > 10 {
		at = at[:10]
	}
	return fmt.Sprintf("kind %d, %d bytes, a %d, at %v, %d of %d claimed, %d proved, list %q", c.kind, c.on.bytes, c.a, at, len(c.claimed), len(c.on.list), len(c.proof), list)
}

// call hands the claim to its call.
func (c claim) call(w int) api.Clash {
	switch c.kind {
	case ofLeaf:
		return Leaf(w, c.on.list, c.a, c.claimed[0], c.proof)
	case ofOld:
		return Old(w, c.on.list, c.a, c.claimed[0], c.proof)
	case ofRange:
		return Range(w, c.on.list, c.a, c.claimed, c.proof)
	default:
		return Multi(w, c.on.list, c.at, c.claimed, c.proof)
	}
}

// accepted: does layer 9 accept the claim?
func (c claim) accepted(w int) bool {
	n, root := len(c.on.list), mth.Root(w, c.on.list)
	var hashes []string
	for _, leaf := range c.claimed {
		hashes = append(hashes, tree.Leaf(w, leaf))
	}
	switch c.kind {
	case ofLeaf:
		return check.Inclusion(w, c.a, n, hashes[0], c.proof, root) == api.OK
	case ofOld:
		return check.Consistency(w, c.a, n, c.claimed[0], root, c.proof) == api.OK
	case ofRange:
		return check.Range(w, c.a, n, hashes, c.proof, root) == api.OK
	default:
		return check.Multi(w, n, c.at, hashes, c.proof, root) == api.OK
	}
}

func (c claim) clone() claim {
	c.at, c.claimed, c.proof = slices.Clone(c.at), slices.Clone(c.claimed), slices.Clone(c.proof)
	return c
}

// items are all that is claimed and proved, to be written over.
func (c claim) items() []*string {
	var list []*string
	for k := range c.claimed {
		list = append(list, &c.claimed[k])
	}
	for k := range c.proof {
		list = append(list, &c.proof[k])
	}
	return list
}

// places are where leaves are claimed. The numbers are right.
func (c claim) places() []int {
	switch c.kind {
	case ofLeaf:
		return []int{c.a}
	case ofOld:
		return nil
	case ofRange:
		var list []int
		for k := range c.claimed {
			list = append(list, c.a+k)
		}
		return list
	default:
		return c.at
	}
}

// numbered: are there such places, with as many leaves?
func (c claim) numbered() bool {
	n := len(c.on.list)
	switch c.kind {
	case ofLeaf:
		return c.a >= 0 && c.a < n
	case ofOld:
		return c.a >= 0 && c.a <= n
	case ofRange:
		return len(c.claimed) > 0 && c.a >= 0 && c.a <= n-len(c.claimed)
	}
	if len(c.at) == 0 || len(c.at) > most || len(c.at) != len(c.claimed) {
		return false
	}
	for k, i := range c.at {
		if i < 0 || i >= n || k > 0 && i <= c.at[k-1] {
			return false
		}
	}
	return true
}

// knows: is a part known in the claimed tree (10.3)?
func (c claim) knows(p piece) bool {
	switch c.kind {
	case ofLeaf:
		return p.lo <= c.a && c.a < p.hi
	case ofOld:
		return p.lo < c.a && c.a < p.hi
	case ofRange:
		return p.lo < c.a+len(c.claimed) && c.a < p.hi
	}
	k, _ := slices.BinarySearch(c.at, p.lo)
	return k < len(c.at) && c.at[k] < p.hi
}

// pieces are the parts whose hashes the proof has, in its order.
func (c claim) pieces() []piece {
	n := len(c.on.list)
	if c.kind == ofRange || c.kind == ofMulti {
		return c.beside(piece{0, n})
	}
	if c.kind == ofOld {
		if c.a == 0 || c.a == n {
			return nil
		}
		return c.sub(piece{0, n}, true)
	}
	var list []piece
	for p := (piece{0, n}); p.size() > 1; {
		left, right := p.below()
		if c.a < left.hi {
			list = append([]piece{right}, list...)
			p = left
		} else {
			list = append([]piece{left}, list...)
			p = right
		}
	}
	return list
}

// beside are the parts of 9.3 and 9.4 from p on.
func (c claim) beside(p piece) []piece {
	if !c.knows(p) {
		return []piece{p}
	}
	if p.size() == 1 {
		return nil
	}
	left, right := p.below()
	return append(c.beside(left), c.beside(right)...)
}

// sub is SUB of 9.2.
func (c claim) sub(p piece, whole bool) []piece {
	if c.a == p.hi {
		if whole {
			return nil
		}
		return []piece{p}
	}
	left, right := p.below()
	if c.a <= left.hi {
		return append(c.sub(left, whole), right)
	}
	return append(c.sub(right, false), left)
}

// standing is what the claimed tree is made of: the leaves by their places, and the hashes of the parts that are not known.
type standing struct {
	claim
	leaves map[int]string
	given  map[piece]string
}

func (c claim) stand() standing {
	s := standing{c, map[int]string{}, map[piece]string{}}
	for k, i := range c.places() {
		s.leaves[i] = c.claimed[k]
	}
	if c.kind == ofOld && (c.a&(c.a-1) == 0 || c.a == len(c.on.list)) { // else the older tree is no part of the newer one
		s.given[piece{0, c.a}] = c.claimed[0]
	}
	for k, p := range c.pieces() {
		s.given[p] = c.proof[k]
	}
	return s
}

// text is the text of a known part in the claimed tree.
func (s standing) text(p piece) string {
	if p.size() == 1 {
		return "\x00" + s.leaves[p.lo]
	}
	left, right := p.below()
	return "\x01" + s.hash(left) + s.hash(right)
}

// hash is the hash of a part in the claimed tree.
func (s standing) hash(p piece) string {
	if s.knows(p) {
		return cut(s.on.bytes, s.text(p))
	}
	return s.given[p]
}

// older is the older root to which a proof leads.
func (s standing) older(p piece) string {
	if s.a == 0 {
		return s.given[piece{0, 0}]
	}
	if p.hi <= s.a {
		return s.given[p]
	}
	left, right := p.below()
	if s.a <= left.hi {
		return s.older(left)
	}
	return cut(s.on.bytes, "\x01"+s.given[left]+s.older(right))
}

// leads: does the proof lead to the root, and the older one's?
func (s standing) leads() bool {
	n := len(s.on.list)
	if s.kind == ofOld && (s.a == 0 || s.a == n) {
		return s.claimed[0] == s.on.root(s.a)
	}
	if s.kind == ofOld && s.older(piece{0, n}) != s.claimed[0] {
		return false
	}
	return s.hash(piece{0, n}) == s.on.root(n)
}

// hashed: are there as many hashes as there should be, all of the right length?
func (c claim) hashed() bool {
	texts := slices.Clone(c.proof)
	if c.kind == ofOld {
		texts = append(texts, c.claimed[0])
	}
	for _, h := range texts {
		if len(h) != c.on.bytes {
			return false
		}
	}
	return len(c.proof) == len(c.pieces())
}

// isTrue: is the claim the list's?
func (c claim) isTrue() bool {
	if c.kind == ofOld {
		return c.claimed[0] == c.on.root(c.a)
	}
	for k, i := range c.places() {
		if c.on.list[i] != c.claimed[k] {
			return false
		}
	}
	return true
}

// answer is what the call should answer, by the chapter's words.
func (c claim) answer() api.Clash {
	if !c.numbered() || !c.hashed() {
		return api.Clash{}
	}
	s := c.stand()
	if !s.leads() || c.isTrue() {
		return api.Clash{}
	}
	for _, p := range c.on.parts {
		if !c.knows(p) {
			continue
		}
		if a, b := s.text(p), c.on.text(p); a != b {
			return api.Clash{A: a, B: b, Found: true}
		}
	}
	panic("10.4: there always is one: " + c.String())
}

// look holds the call's answer against the chapter's words and against 10.6, and tells it.
func look(t *testing.T, w int, c claim) api.Clash {
	t.Helper()
	got, want := c.call(w), c.answer()
	if got != want {
		t.Fatalf("10.4: %v: %#v, want %#v", c, got, want)
	}
	if is := c.accepted(w) && !c.isTrue(); got.Found != is {
		t.Fatalf("10.6: %v: found is %v, accepted and wrong is %v", c, got.Found, is)
	}
	if got.Found && (got.A == got.B || cut(c.on.bytes, got.A) != cut(c.on.bytes, got.B)) {
		t.Fatalf("10.6: %v: %#v are alike, or their hashes are not", c, got)
	}
	if !got.Found && got != (api.Clash{}) {
		t.Fatalf("10.2: %v: %#v is not empty", c, got)
	}
	return got
}

// none asks for the answer Clash{}.
func none(t *testing.T, what string, got api.Clash) {
	t.Helper()
	if got != (api.Clash{}) {
		t.Errorf("%s: %#v, want nothing", what, got)
	}
}

// is asks for these two texts.
func is(t *testing.T, what string, got api.Clash, a, b string) {
	t.Helper()
	if want := (api.Clash{A: a, B: b, Found: true}); got != want {
		t.Errorf("%s: %#v, want %#v", what, got, want)
	}
}

// fill is the true claim of this shape, with the proof by the list's own hashes.
func (c claim) fill() claim {
	c.claimed, c.proof = nil, nil
	switch c.kind {
	case ofLeaf:
		c.claimed = []string{c.on.list[c.a]}
	case ofOld:
		c.claimed = []string{c.on.root(c.a)}
	case ofMulti:
		for _, i := range c.at {
			c.claimed = append(c.claimed, c.on.list[i])
		}
	}
	for _, p := range c.pieces() {
		c.proof = append(c.proof, c.on.sums[p])
	}
	return c
}

// The true claims.
func theLeaf(l *laid, i int) claim      { return claim{on: l, kind: ofLeaf, a: i}.fill() }
func theOld(l *laid, m int) claim       { return claim{on: l, kind: ofOld, a: m}.fill() }
func theMulti(l *laid, at ...int) claim { return claim{on: l, kind: ofMulti, at: at}.fill() }
func theRange(l *laid, lo, hi int) claim {
	c := claim{on: l, kind: ofRange, a: lo, claimed: slices.Clone(l.list[lo:hi])}
	for _, p := range c.pieces() {
		c.proof = append(c.proof, l.sums[p])
	}
	return c
}

// from are the places from lo up to hi.
func from(lo, hi int) []int {
	list := make([]int, 0, hi-lo)
	for i := lo; i < hi; i++ {
		list = append(list, i)
	}
	return list
}

// subset are the places below n whose bits a number has.
func subset(bits, n int) []int {
	return slices.DeleteFunc(from(0, n), func(i int) bool { return bits>>i&1 == 0 })
}

// allClaims are the true claims of all shapes there are.
func allClaims(l *laid) []claim {
	n := len(l.list)
	list := []claim{theOld(l, 0)}
	for i := range n {
		list = append(list, theLeaf(l, i), theOld(l, i+1))
		for hi := i + 1; hi <= n; hi++ {
			list = append(list, theRange(l, i, hi))
		}
	}
	for bits := 1; bits < 1<<n; bits++ {
		list = append(list, theMulti(l, subset(bits, n)...))
	}
	return list
}

// someClaims are true claims of a list that is too great for all of them.
func someClaims(r *rand.Rand, l *laid) []claim {
	n := len(l.list)
	places := []int{0, n / 2, n - 1, r.Intn(n), split(n) - 1, split(n)}
	var list []claim
	for _, i := range places {
		list = append(list, theLeaf(l, i), theOld(l, i), theRange(l, i, i+1+r.Intn(n-i)))
	}
	list = append(list, theRange(l, 0, n), theMulti(l, 0), theMulti(l, n-1), theMulti(l, 0, n-1))
	for _, k := range []int{2, 5, 50} {
		at := slices.Clone(places)
		for range k {
			at = append(at, r.Intn(n))
		}
		slices.Sort(at)
		list = append(list, theMulti(l, slices.Compact(at)...))
	}
	return list
}

// leaves are n unlike leaves, the empty one and a long one among them.
func leaves(n int) []string {
	list := make([]string, n)
	for i := range list {
		list[i] = fmt.Sprint("leaf ", i)
	}
	if n > 2 {
		list[n/2] = ""
	}
	if n > 4 {
		list[n-2] = strings.Repeat("long ", 100)
	}
	return list
}

// twins are texts by their leaf hash of one byte.
type twins map[string][]string

func makeTwins() twins {
	tw := twins{}
	for i := range 2000 {
		x := fmt.Sprint(i)
		h := cut(1, "\x00"+x)
		tw[h] = append(tw[h], x)
	}
	return tw
}

// of is a text with the same hash of one byte that is not s.
func (tw twins) of(r *rand.Rand, s string) string {
	list := tw[cut(1, "\x00"+s)]
	for {
		if x := list[r.Intn(len(list))]; x != s {
			return x
		}
	}
}

// slots are where something stands in the claimed tree within a part: claimed leaves, and parts that are not known.
func (s standing) slots(p piece) []piece {
	var list []piece
	for i := range s.leaves {
		if q := (piece{i, i + 1}); q.within(p) {
			list = append(list, q)
		}
	}
	for q := range s.given {
		if q.within(p) {
			list = append(list, q)
		}
	}
	slices.SortFunc(list, func(p, q piece) int { return p.lo - q.lo }) // so that every run of the tests makes the same claims
	return list
}

// now is the claim that has what stands in the tree.
func (s standing) now() claim {
	c := s.claim.clone()
	for k, i := range c.places() {
		c.claimed[k] = s.leaves[i]
	}
	for k, p := range c.pieces() {
		c.proof[k] = s.given[p]
	}
	if c.kind == ofOld {
		c.claimed[0] = s.older(piece{0, len(c.on.list)})
	}
	return c
}

// change puts something else into some slots and answers what undoes it. A leaf is changed into one with the same hash, if that is asked for.
func (s standing) change(r *rand.Rand, tw twins, slots []piece, alike bool) func() {
	var undo []func()
	for range 1 + r.Intn(4) {
		p := slots[r.Intn(len(slots))]
		if was, ok := s.leaves[p.lo]; ok && p.size() == 1 {
			undo = append(undo, func() { s.leaves[p.lo] = was })
			s.leaves[p.lo] = fmt.Sprint("other ", r.Intn(100000))
			if alike {
				s.leaves[p.lo] = tw.of(r, was)
			}
		} else {
			was := s.given[p]
			undo = append(undo, func() { s.given[p] = was })
			if !alike || s.kind == ofOld {
				s.given[p] = string([]byte{byte(r.Intn(256))})
			}
		}
	}
	return func() {
		for k := range undo {
			undo[len(undo)-1-k]()
		}
	}
}

// forge changes a true claim of one byte within a part until that part has the list's hash again, so that the claim is accepted.
func forge(r *rand.Rand, tw twins, right claim, p piece) (claim, bool) {
	s := right.clone().stand()
	slots := s.slots(p)
	alike := p.size() == 1 || r.Intn(4) == 0
	for range 2000 {
		undo := s.change(r, tw, slots, alike)
		if s.hash(p) == s.on.sums[p] {
			return s.now(), true
		}
		undo()
	}
	return right, false
}

// tally counts what was found: at leaves, at nodes, at the root; and what was accepted and nothing found.
type tally struct {
	leaf, node, root, nothing int
}

func (n *tally) count(c claim, got api.Clash) {
	switch {
	case !got.Found:
		n.nothing++
	case got.A[0] == 0:
		n.leaf++
	case got.B == c.on.text(piece{0, len(c.on.list)}):
		n.root++
	default:
		n.node++
	}
}

// other is a text that is not s and has its leaf hash of one byte.
func other(s string) string {
	for i := 0; ; i++ {
		if x := fmt.Sprint("x", i); x != s && cut(1, "\x00"+x) == cut(1, "\x00"+s) {
			return x
		}
	}
}

// hash1 and node1 are a leaf's and a node's hash of one byte.
func hash1(leaf string) string { return cut(1, "\x00"+leaf) }
func node1(l, r string) string { return cut(1, "\x01"+l+r) }

// each are the 256 hashes of one byte.
func each() []string {
	var list []string
	for i := range 256 {
		list = append(list, string([]byte{byte(i)}))
	}
	return list
}

func TestExampleLeaf_10_4(t *testing.T) {
	x := other("a")
	is(t, "one leaf", Leaf(1, []string{"a"}, 0, x, nil), "\x00"+x, "\x00a")
	none(t, "the leaf itself", Leaf(1, []string{"a"}, 0, "a", nil))
	for i := range 300 {
		x := fmt.Sprint(i)
		if hash1(x) != hash1("a") {
			none(t, "another hash", Leaf(1, []string{"a"}, 0, x, nil))
		}
	}
	A, B := hash1("a"), hash1("b")
	found := 0
	for i := range 50 {
		x := fmt.Sprint(i)
		for _, y := range each() {
			got := Leaf(1, []string{"a", "b"}, 0, x, []string{y})
			switch {
			case node1(hash1(x), y) != node1(A, B):
				none(t, "another root", got)
			case y == B && hash1(x) == A:
				is(t, "the leaf below", got, "\x00"+x, "\x00a")
			default:
				is(t, "the node", got, "\x01"+hash1(x)+y, "\x01"+A+B)
				found++
			}
		}
	}
	if found == 0 {
		t.Error("no example was met")
	}
}

func TestExampleOld_10_4(t *testing.T) {
	A, B := hash1("a"), hash1("b")
	found := 0
	for _, o := range each() {
		for _, y := range each() {
			got := Old(1, []string{"a", "b"}, 1, o, []string{y})
			if o == A || node1(o, y) != node1(A, B) {
				none(t, "true, or another root", got)
				continue
			}
			is(t, "older root", got, "\x01"+o+y, "\x01"+A+B)
			found++
		}
		for _, list := range [][]string{{"a"}, {"a", "b"}, {"a", "b", "c"}} {
			for _, proof := range [][]string{nil, {o}, {A}, {B}} {
				none(t, "of none", Old(1, list, 0, o, proof))
				none(t, "of all", Old(1, list, len(list), o, proof))
			}
		}
	}
	if found == 0 {
		t.Error("no example was met")
	}
}

func TestExampleRange_10_4(t *testing.T) {
	x, y := other("b"), other("a")
	ab := []string{"a", "b"}
	is(t, "the second", Range(1, ab, 0, []string{"a", x}, nil), "\x00"+x, "\x00b")
	is(t, "the first of two", Range(1, ab, 0, []string{y, x}, nil), "\x00"+y, "\x00a")
	is(t, "one of a range", Range(1, ab, 1, []string{x}, []string{hash1("a")}), "\x00"+x, "\x00b")
	is(t, "one of the places", Multi(1, ab, []int{0, 1}, []string{"a", x}, nil), "\x00"+x, "\x00b")
	is(t, "one place", Multi(1, ab, []int{1}, []string{x}, []string{hash1("a")}), "\x00"+x, "\x00b")
	none(t, "they are", Range(1, ab, 0, ab, nil))
	none(t, "they are", Multi(1, ab, []int{0, 1}, ab, nil))
	none(t, "the places are others", Range(1, ab, 0, []string{x, "a"}, nil))
}

// An empty list has no wrong claims (10.7).
func TestEmptyList_10_7(t *testing.T) {
	for _, list := range [][]string{nil, {}} {
		for _, w := range append(outsideWidths(), 1, 2, 8, 32) {
			empty := tree.Empty(w)
			for _, h := range []string{"", "a", "\x00", "\xe3", empty, tree.Leaf(w, "a"), tree.Leaf(w, "")} {
				for _, proof := range [][]string{nil, {}, {h}, {h, h}, {empty}} {
					for _, i := range []int{0, 1, -1, math.MaxInt, math.MinInt} {
						none(t, "leaf", Leaf(w, list, i, h, proof))
						none(t, "old", Old(w, list, i, h, proof))
						none(t, "range", Range(w, list, i, []string{h}, proof))
						none(t, "no range", Range(w, list, i, nil, proof))
						none(t, "places", Multi(w, list, []int{i}, []string{h}, proof))
						none(t, "no places", Multi(w, list, nil, nil, proof))
					}
				}
			}
		}
	}
}

// Of none and of all nothing can be claimed wrongly (10.7).
func TestOldOfNoneAndAll_10_7(t *testing.T) {
	for n := 1; n <= 9; n++ {
		l := lay(1, leaves(n))
		for _, old := range append(each(), "", "ab") {
			for _, m := range []int{0, n} {
				c := theOld(l, m)
				c.claimed = []string{old}
				none(t, c.String(), look(t, 1, c))
				for _, h := range []string{old, l.root(n), l.root(0), l.sums[piece{0, 1}]} {
					c.proof = []string{h}
					none(t, c.String(), look(t, 1, c))
				}
			}
		}
	}
}

// What is claimed truly is no clash, at every width (10.2).
func TestTrueClaims_10_2(t *testing.T) {
	r := rand.New(rand.NewSource(1))
	for w := 1; w <= widest; w++ {
		for n := 1; n <= 6; n++ {
			for _, c := range allClaims(lay(w, leaves(n))) {
				if !c.accepted(w) {
					t.Fatalf("%v: a true claim is not accepted", c)
				}
				none(t, c.String(), look(t, w, c))
			}
		}
		for _, c := range someClaims(r, lay(w, leaves(30+w))) {
			none(t, c.String(), look(t, w, c))
		}
	}
	for _, w := range outsideWidths() {
		for _, c := range someClaims(r, lay(widest, leaves(13))) {
			if !c.accepted(w) {
				t.Fatalf("%v: a true claim is not accepted with the width %d", c, w)
			}
			none(t, c.String(), look(t, w, c))
		}
	}
}

// The proofs are those of layers 6 and 8.
func TestProofsOfOtherLayers_10_3(t *testing.T) {
	for n := 1; n <= 9; n++ {
		for _, w := range []int{1, 4, 32} {
			list := leaves(n)
			l := lay(w, list)
			var hashes []string
			for _, leaf := range list {
				hashes = append(hashes, tree.Leaf(w, leaf))
			}
			reader := prove.Of(w, hashes)
			for _, c := range allClaims(l) {
				var want []string
				switch c.kind {
				case ofLeaf:
					want, _ = mth.Path(w, c.a, list)
				case ofOld:
					want, _ = mth.Proof(w, c.a, list)
				case ofRange:
					want, _ = prove.Range(reader, c.a, c.a+len(c.claimed), n)
				default:
					want, _ = prove.Multi(reader, c.at, n)
				}
				if !slices.Equal(c.proof, want) {
					t.Fatalf("%v: the tests' proof is %x, that of the layers below %x", c, c.proof, want)
				}
			}
		}
	}
}

// Every claim of some texts and every hash, for lists of one and two leaves (10.6).
func TestEveryClaim_10_6(t *testing.T) {
	texts := []string{"a", "b", "", other("a"), other("b"), other("")}
	for i := range 14 {
		texts = append(texts, fmt.Sprint(i))
	}
	var n tally
	for _, list := range [][]string{{"a", "b"}, {"", "b"}, {"a", "a"}} {
		l := lay(1, list)
		for _, x := range texts {
			for _, h := range each() {
				for i := range 2 {
					for _, c := range []claim{
						{on: l, kind: ofLeaf, a: i, claimed: []string{x}, proof: []string{h}},
						{on: l, kind: ofRange, a: i, claimed: []string{x}, proof: []string{h}},
						{on: l, kind: ofMulti, at: []int{i}, claimed: []string{x}, proof: []string{h}},
					} {
						n.count(c, look(t, 1, c))
					}
				}
			}
			for _, y := range texts {
				for _, c := range []claim{
					{on: l, kind: ofRange, a: 0, claimed: []string{x, y}},
					{on: l, kind: ofMulti, at: []int{0, 1}, claimed: []string{x, y}},
				} {
					n.count(c, look(t, 1, c))
				}
			}
		}
	}
	if n.leaf == 0 || n.root == 0 || n.nothing == 0 {
		t.Errorf("met too little: %+v", n)
	}
}

// Wrong claims within each known part of all shapes of small trees (10.4, 10.6).
func TestForged_10_4(t *testing.T) {
	r, tw := rand.New(rand.NewSource(2)), makeTwins()
	got := map[int]*tally{}
	for _, k := range kinds() {
		got[k] = &tally{}
	}
	for n := 1; n <= 7; n++ {
		l := lay(1, leaves(n))
		for _, right := range allClaims(l) {
			for _, p := range l.parts {
				if !right.knows(p) {
					continue
				}
				times := 1
				if right.kind == ofLeaf || right.kind == ofOld { // there are few shapes of them
					times = 10
				}
				for range times {
					if c, ok := forge(r, tw, right, p); ok {
						got[c.kind].count(c, look(t, 1, c))
					}
				}
			}
		}
	}
	for k, n := range got {
		t.Logf("kind %d: %+v", k, *n)
		if n.node == 0 || n.root == 0 || n.nothing == 0 || n.leaf == 0 && k != ofOld {
			t.Errorf("kind %d: met too little: %+v", k, *n)
		}
	}
}

// Wrong claims in greater trees (10.4, 10.6).
func TestForgedInGreatTrees_10_4(t *testing.T) {
	r, tw := rand.New(rand.NewSource(3)), makeTwins()
	var sum tally
	for _, n := range []int{8, 9, 15, 16, 17, 31, 33, 63, 64, 65, 100, 127, 129, 255, 256, 257, 511, 513} {
		l := lay(1, leaves(n))
		for _, right := range someClaims(r, l) {
			known := slices.DeleteFunc(slices.Clone(l.parts), func(p piece) bool { return !right.knows(p) })
			if len(known) == 0 {
				continue
			}
			for _, p := range []piece{known[0], known[r.Intn(len(known))], known[r.Intn(len(known))], known[len(known)-1]} {
				if c, ok := forge(r, tw, right, p); ok {
					sum.count(c, look(t, 1, c))
				}
			}
		}
	}
	t.Logf("%+v", sum)
	if sum.leaf < 50 || sum.node < 50 || sum.root < 50 || sum.nothing == 0 {
		t.Errorf("met too little: %+v", sum)
	}
}

// A true claim with a proof of other hashes that is accepted is no clash, though texts in the claimed tree are unlike the list's (10.2).
func TestTrueClaimWithOtherProof_10_2(t *testing.T) {
	r := rand.New(rand.NewSource(4))
	got := map[int]int{}
	for n := 2; n <= 7; n++ {
		l := lay(1, leaves(n))
		for _, right := range allClaims(l) {
			if len(right.proof) < 1 {
				continue
			}
			for range 200 {
				c := right.clone()
				c.proof[r.Intn(len(c.proof))] = string([]byte{byte(r.Intn(256))})
				c.proof[r.Intn(len(c.proof))] = string([]byte{byte(r.Intn(256))})
				if slices.Equal(c.proof, right.proof) || !c.accepted(1) {
					continue
				}
				none(t, c.String(), look(t, 1, c))
				got[c.kind]++
			}
		}
	}
	for _, k := range kinds() {
		if got[k] == 0 {
			t.Errorf("kind %d: no such claim was met", k)
		}
	}
}

// Whatever is claimed: other places, other texts, other hashes, other numbers of them (10.6).
func TestWhatever_10_6(t *testing.T) {
	r, tw := rand.New(rand.NewSource(5)), makeTwins()
	var sum tally
	for range 30000 {
		n := 1 + r.Intn(5)
		list := leaves(n)
		if r.Intn(3) == 0 { // leaves that are alike
			for i := range list {
				list[i] = fmt.Sprint(r.Intn(2))
			}
		}
		l := lay(1, list)
		all := allClaims(l)
		c := all[r.Intn(len(all))].clone()
		if s := c.stand(); r.Intn(2) == 0 {
			s.change(r, tw, s.slots(piece{0, n}), r.Intn(2) == 0)
			c = s.now()
		}
		switch r.Intn(12) {
		case 0:
			c.a += r.Intn(3) - 1
		case 1:
			c.proof = append(c.proof, string([]byte{byte(r.Intn(256))}))
		case 2:
			c.proof = c.proof[:len(c.proof)/2]
		case 3:
			r.Shuffle(len(c.proof), func(i, j int) { c.proof[i], c.proof[j] = c.proof[j], c.proof[i] })
		case 4:
			r.Shuffle(len(c.claimed), func(i, j int) { c.claimed[i], c.claimed[j] = c.claimed[j], c.claimed[i] })
		case 5:
			if len(c.at) > 0 {
				c.at[r.Intn(len(c.at))] = r.Intn(n+2) - 1
			}
		case 6:
			if len(c.proof) > 0 {
				c.proof[r.Intn(len(c.proof))] = "ab"[:2*r.Intn(2)]
			}
		}
		is := c.numbered() && c.accepted(1) && !c.isTrue()
		got := c.call(1)
		if want := c.answer(); got != want || got.Found != is {
			t.Fatalf("%v: %#v, want %#v", c, got, want)
		}
		sum.count(c, got)
	}
	if sum.leaf == 0 || sum.node == 0 || sum.root == 0 || sum.nothing == 0 {
		t.Errorf("met too little: %+v", sum)
	}
}

// pair are two unlike leaves, other than those of a list, whose node above is the same as that of c and d, and whose hashes are others.
func pair(c, d string) (string, string) {
	for i := range 1000 {
		for k := range 1000 {
			x, y := fmt.Sprint("p", i), fmt.Sprint("q", k)
			if node1(hash1(x), hash1(y)) == node1(hash1(c), hash1(d)) && hash1(x) != hash1(c) && hash1(y) != hash1(d) {
				return x, y
			}
		}
	}
	panic("no pair")
}

// Of several texts that are unlike the first one is told: a part ahead of what is in it, the left one with all that is in it ahead of the right one (10.4).
func TestWhichIsFirst_10_4(t *testing.T) {
	list := []string{"a", "b", "c", "d"}
	A, B, C, D := hash1("a"), hash1("b"), hash1("c"), hash1("d")
	a, b, c, d := other("a"), other("b"), other("c"), other("d")
	x, y := pair("a", "b")
	u, v := pair("c", "d")
	for _, row := range []struct {
		claimed []string
		a, b    string
	}{
		{[]string{a, "b", "c", "d"}, "\x00" + a, "\x00a"},
		{[]string{"a", b, "c", "d"}, "\x00" + b, "\x00b"},
		{[]string{"a", "b", c, d}, "\x00" + c, "\x00c"},
		{[]string{"a", "b", "c", d}, "\x00" + d, "\x00d"},
		{[]string{a, b, c, d}, "\x00" + a, "\x00a"},
		{[]string{"a", b, c, d}, "\x00" + b, "\x00b"},
		{[]string{"a", "b", u, v}, "\x01" + hash1(u) + hash1(v), "\x01" + C + D},
		{[]string{a, "b", u, v}, "\x00" + a, "\x00a"},
		{[]string{"a", b, u, v}, "\x00" + b, "\x00b"},
		{[]string{x, y, "c", "d"}, "\x01" + hash1(x) + hash1(y), "\x01" + A + B},
		{[]string{x, y, u, v}, "\x01" + hash1(x) + hash1(y), "\x01" + A + B},
		{[]string{x, y, c, d}, "\x01" + hash1(x) + hash1(y), "\x01" + A + B},
	} {
		is(t, "range", Range(1, list, 0, row.claimed, nil), row.a, row.b)
		is(t, "places", Multi(1, list, []int{0, 1, 2, 3}, row.claimed, nil), row.a, row.b)
	}
	is(t, "a node of a place and a hash", Multi(1, list, []int{1, 2}, []string{y, c}, []string{hash1(x), D}), "\x01"+hash1(x)+hash1(y), "\x01"+A+B)
	is(t, "a leaf on the left", Multi(1, list, []int{1, 2}, []string{b, u}, []string{A, hash1(v)}), "\x00"+b, "\x00b")
	is(t, "a node on the right", Multi(1, list, []int{1, 2}, []string{"b", u}, []string{A, hash1(v)}), "\x01"+hash1(u)+hash1(v), "\x01"+C+D)
	is(t, "the same in a range", Range(1, list, 1, []string{"b", u}, []string{A, hash1(v)}), "\x01"+hash1(u)+hash1(v), "\x01"+C+D)
	is(t, "a node of one leaf", Leaf(1, list, 3, v, []string{hash1(u), node1(A, B)}), "\x01"+hash1(u)+hash1(v), "\x01"+C+D)
	is(t, "a leaf below", Leaf(1, list, 3, d, []string{C, node1(A, B)}), "\x00"+d, "\x00d")
	is(t, "a node below the older size", Old(1, list, 3, node1(node1(A, B), hash1(u)), []string{hash1(u), hash1(v), node1(A, B)}), "\x01"+hash1(u)+hash1(v), "\x01"+C+D)
}

// In a part that is not known nothing is looked at: the one who claims has its hash alone (10.3).
func TestNotKnown_10_3(t *testing.T) {
	list := []string{"a", "b", "c", "d"}
	A, B, D := hash1("a"), hash1("b"), hash1("d")
	c := other("c")
	is(t, "leaf", Leaf(1, list, 2, c, []string{D, node1(A, B)}), "\x00"+c, "\x00c")
	for _, o := range each() { // of an older size of 2 the root alone is known
		for _, y := range each() {
			if o != node1(A, B) && node1(o, y) == mth.Root(1, list) {
				is(t, "old", Old(1, list, 2, o, []string{y}), "\x01"+o+y, "\x01"+node1(A, B)+node1(hash1("c"), D))
				return
			}
		}
	}
	t.Error("no example was met")
}

// unhex is a text out of its hexadecimal digits.
func unhex(s string) string {
	b, err := hex.DecodeString(s)
	if err != nil {
		panic(err)
	}
	return string(b)
}

// Two leaves whose hashes of 8 bytes are alike, found by a search of some 2^32 hashes: so they are at each width up to 8.
const (
	leafOne = "d2134e76d0660f8a"
	leafTwo = "8c587779096b6a33"
)

// nodePair are two leaves x and y, with unlike hashes of w bytes, such that the nodes above them and the leaf b are alike.
func nodePair(w int) (string, string) {
	switch w {
	case 5:
		return unhex("59414fb7ce"), unhex("f796adf2f1")
	case 6:
		return unhex("c73c8591f8f6"), unhex("5c28596d2300")
	case 7:
		return unhex("ee15e819cc3cca"), unhex("ce07e2fed42e9f")
	case 8:
		return unhex("a2b21604d4f816c2"), unhex("b7e6727131e87467")
	}
	met := map[string]string{}
	for i := 0; ; i++ {
		x := fmt.Sprint(i)
		h := cut(w, "\x01"+cut(w, "\x00"+x)+cut(w, "\x00b"))
		y, ok := met[h]
		if ok && cut(w, "\x00"+x) != cut(w, "\x00"+y) {
			return x, y
		}
		met[h] = x
	}
}

// Two leaves with one hash, at each place of lists, at every width at which they are alike, and nothing at the next ones (10.4, 10.6).
func TestLeavesAtWidths_10_4(t *testing.T) {
	x, y := unhex(leafOne), unhex(leafTwo)
	for w := 1; w <= widest; w++ {
		for _, n := range []int{1, 2, 3, 4, 5, 7, 8, 13} {
			for i := range n {
				list := leaves(n)
				list[i] = x
				l := lay(w, list)
				for _, c := range []claim{theLeaf(l, i), theRange(l, i, i+1), theRange(l, 0, n), theRange(l, i/2, n), theMulti(l, i), theMulti(l, from(0, n)...)} {
					for k, leaf := range c.claimed {
						if leaf == x {
							c.claimed[k] = y
						}
					}
					got := look(t, w, c)
					if w > 8 {
						none(t, c.String(), got)
					} else {
						is(t, c.String(), got, "\x00"+y, "\x00"+x)
					}
				}
			}
		}
	}
}

// The same for two nodes with one hash, each width having others.
func TestNodesAtWidths_10_4(t *testing.T) {
	for w := 1; w <= 8; w++ {
		x, y := nodePair(w)
		X, Y, B := cut(w, "\x00"+x), cut(w, "\x00"+y), cut(w, "\x00b")
		a, b := "\x01"+Y+B, "\x01"+X+B
		is(t, "leaf", Leaf(w, []string{x, "b"}, 0, y, []string{B}), a, b)
		is(t, "old", Old(w, []string{x, "b"}, 1, Y, []string{B}), a, b)
		is(t, "range", Range(w, []string{x, "b"}, 0, []string{y}, []string{B}), a, b)
		is(t, "whole range", Range(w, []string{x, "b"}, 0, []string{y, "b"}, nil), a, b)
		is(t, "place", Multi(w, []string{x, "b"}, []int{0}, []string{y}, []string{B}), a, b)
		for n := 3; n <= 9; n++ {
			for i := 0; i+1 < n; i += 2 {
				list := leaves(n)
				list[i], list[i+1] = x, "b"
				l := lay(w, list)
				for _, c := range []claim{theLeaf(l, i), theRange(l, i, i+1), theRange(l, 0, n), theMulti(l, i), theMulti(l, from(0, i+1)...)} {
					for k, leaf := range c.claimed {
						if leaf == x {
							c.claimed[k] = y
						}
					}
					is(t, c.String(), look(t, w, c), a, b)
				}
				if i > 0 {
					c := theOld(l, i+1)
					for k, h := range c.proof {
						if h == X {
							c.proof[k] = Y
						}
					}
					c.claimed[0] = c.stand().older(piece{0, n})
					is(t, c.String(), look(t, w, c), a, b)
				}
			}
		}
		for v := 1; v <= widest; v++ {
			if v != w && v > 4 {
				none(t, "another width", Leaf(v, []string{x, "b"}, 0, y, []string{B}))
				none(t, "another width", Old(v, []string{x, "b"}, 1, Y, []string{B}))
			}
		}
	}
}

// A width outside 1 to 32 is none of those whose low bits it has: it counts as 32, where these claims are refused.
func TestWidthsOutside_10_1(t *testing.T) {
	x, y := unhex(leafOne), unhex(leafTwo)
	one := other("a")
	for _, w := range outsideWidths() {
		none(t, "one byte", Leaf(w, []string{"a"}, 0, one, nil))
		none(t, "eight bytes", Leaf(w, []string{x}, 0, y, nil))
		none(t, "eight bytes", Range(w, []string{x, "b"}, 0, []string{y, "b"}, nil))
		none(t, "eight bytes", Multi(w, []string{x, "b"}, []int{0, 1}, []string{y, "b"}, nil))
		for _, bytes := range []int{1, 2, 8, 32} {
			for _, c := range allClaims(lay(bytes, leaves(4))) {
				none(t, c.String(), c.call(w))
				if c.kind == ofOld {
					c.claimed[0] = cut(bytes, "any")
				} else {
					c.claimed[0] = "any"
				}
				none(t, c.String(), c.call(w))
			}
		}
		l := lay(widest, leaves(6))
		for _, c := range allClaims(l) { // nor does the tree of full width answer anything else than with 32
			c = c.clone()
			for _, item := range c.items() {
				was := *item
				*item = cut(widest, was)
				look(t, w, c)
				*item = was
			}
		}
	}
}

// wrongly are claims that find a clash, one of each kind, with places and proofs of several.
func wrongly(t *testing.T) []claim {
	r, tw := rand.New(rand.NewSource(6)), makeTwins()
	l := lay(1, leaves(7))
	var list []claim
	for _, right := range []claim{theLeaf(l, 3), theLeaf(l, 6), theOld(l, 3), theOld(l, 4), theOld(l, 6), theRange(l, 1, 6), theRange(l, 0, 7), theMulti(l, 1, 2, 5), theMulti(l, 6)} {
		for {
			c, ok := forge(r, tw, right, piece{0, 7})
			if ok && look(t, 1, c).Found {
				list = append(list, c)
				break
			}
		}
	}
	return list
}

// What layer 9 refuses is no clash, whatever it refuses and however many of its refusals apply (10.2).
func TestRefused_10_2(t *testing.T) {
	type fault struct {
		kinds string
		make  func(c *claim)
	}
	faults := []fault{
		{"1234", func(c *claim) { c.proof = append(c.proof, "x") }},
		{"1234", func(c *claim) { c.proof = append([]string{""}, c.proof...) }},
		{"124", func(c *claim) { c.proof = c.proof[1:] }},
		{"1234", func(c *claim) {
			if len(c.proof) > 0 {
				c.proof[len(c.proof)-1] = "xy"
			} else {
				c.proof = []string{"xy"}
			}
		}},
		{"124", func(c *claim) { c.proof = nil }},
		{"2", func(c *claim) { c.claimed[0] = "" }},
		{"2", func(c *claim) { c.claimed[0] += "x" }},
		{"123", func(c *claim) { c.a = -1 }},
		{"123", func(c *claim) { c.a = 8 }},
		{"13", func(c *claim) { c.a = 7 }},
		{"123", func(c *claim) { c.a = math.MaxInt }},
		{"123", func(c *claim) { c.a = math.MinInt }},
		{"3", func(c *claim) { c.a = math.MaxInt - len(c.claimed) + 1 }},
		{"3", func(c *claim) { c.claimed = nil }},
		{"3", func(c *claim) { c.claimed = append(c.claimed, "x", "x") }},
		{"4", func(c *claim) { c.at, c.claimed = nil, nil }},
		{"4", func(c *claim) { c.at = nil }},
		{"4", func(c *claim) { c.claimed = nil }},
		{"4", func(c *claim) { c.claimed = append(c.claimed, "x") }},
		{"4", func(c *claim) { c.at = append(c.at, 6, 6) }},
		{"4", func(c *claim) { c.at = append(c.at, 7); c.claimed = append(c.claimed, "x") }},
		{"4", func(c *claim) { c.at = append([]int{-1}, c.at...); c.claimed = append(c.claimed, "x") }},
		{"4", func(c *claim) { c.at = append(c.at, 0); c.claimed = append(c.claimed, "x") }},
		{"4", func(c *claim) { c.at = append(c.at, math.MaxInt, math.MinInt); c.claimed = append(c.claimed, "x", "x") }},
		{"4", func(c *claim) { slices.Reverse(c.at); c.at = append(c.at, c.at[0]); c.claimed = append(c.claimed, "x") }},
		{"4", func(c *claim) {
			c.at, c.claimed = slices.Repeat([]int{5}, most+1), slices.Repeat([]string{"x"}, most+1)
		}},
	}
	for _, right := range wrongly(t) {
		for _, one := range faults {
			for _, two := range append(faults, fault{"1234", func(*claim) {}}) {
				kind := fmt.Sprint(right.kind)
				if !strings.Contains(one.kinds, kind) || !strings.Contains(two.kinds, kind) {
					continue
				}
				c := right.clone()
				one.make(&c)
				if len(c.proof) == 0 || len(c.at) == 0 && c.kind == ofMulti || len(c.claimed) == 0 {
					continue // the second one would have nothing to spoil
				}
				two.make(&c)
				if c.numbered() && c.hashed() {
					continue // the one undid the other
				}
				none(t, c.String(), c.call(1))
			}
			c := right.clone()
			if strings.Contains(one.kinds, fmt.Sprint(c.kind)) && len(c.proof) > 0 {
				one.make(&c)
				none(t, c.String(), c.call(1))
			}
		}
	}
}

// A proof that leads to another root is no clash (10.2), at each of its hashes and leaves.
func TestOtherRoot_10_2(t *testing.T) {
	for _, w := range []int{8, 20, 32} {
		for n := 1; n <= 6; n++ {
			for _, right := range allClaims(lay(w, leaves(n))) {
				c := right.clone()
				for _, item := range c.items() {
					was := *item
					for _, now := range []string{cut(w, was), was[:len(was)/2], was + "x", c.on.root(n), ""} {
						if now != was {
							*item = now
							none(t, c.String(), look(t, w, c))
						}
					}
					*item = was
				}
			}
		}
	}
}

// extremes are ints of note.
func extremes() []int {
	list := []int{0, 1, 2, 3, 4, 5, math.MaxInt, math.MaxInt - 1, math.MinInt, math.MinInt + 1, api.MaxSize, api.MaxSize + 1}
	for k := range 63 {
		list = append(list, 1<<k, -1<<k)
	}
	return list
}

// No numbers make a call panic (R1).
func TestNumbers_R1(t *testing.T) {
	list := []string{"a", "b", "c"}
	for _, w := range []int{1, 32, 0} {
		h := tree.Leaf(w, "a")
		for _, i := range extremes() {
			for _, hashes := range [][]string{nil, {h}, {h, h}, {h, h, h}} {
				if i < 0 || i >= 3 {
					none(t, "leaf", Leaf(w, list, i, "x", hashes))
					none(t, "range", Range(w, list, i, []string{"x"}, hashes))
					none(t, "range of two", Range(w, list, i-1, []string{"x", "y", "z", "u", "v"}, hashes))
					none(t, "place", Multi(w, list, []int{i}, []string{"x"}, hashes))
					none(t, "places", Multi(w, list, []int{0, i}, []string{"x", "y"}, hashes))
					none(t, "places", Multi(w, list, []int{i, 1}, []string{"x", "y"}, hashes))
				}
				if i <= 0 || i >= 3 {
					none(t, "old", Old(w, list, i, h, hashes))
				}
			}
		}
	}
}

// Lists of thousands of leaves, whole ranges and as many places as may be (10.4), and one more than that (10.2).
func TestGreatLists_10_4(t *testing.T) {
	for _, n := range []int{most - 1, most, most + 1, 5000} {
		list := leaves(n)
		for _, i := range []int{0, n/2 - 1, n / 2, n - 1} {
			x := other(list[i])
			a, b := "\x00"+x, "\x00"+list[i]
			path, _ := mth.Path(1, i, list)
			is(t, "leaf", Leaf(1, list, i, x, path), a, b)
			claimed := slices.Clone(list)
			claimed[i] = x
			is(t, "range", Range(1, list, 0, claimed, nil), a, b)
			if n <= most {
				is(t, "places", Multi(1, list, from(0, n), claimed, nil), a, b)
			} else {
				none(t, "too many places", Multi(1, list, from(0, n), claimed, nil))
			}
			at, proof := spread(list, i)
			var some []string
			for _, place := range at {
				some = append(some, claimed[place])
			}
			is(t, "some places", Multi(1, list, at, some, proof), a, b)
		}
	}
}

// spread are as many places of a list as may be, or all, the place i among them, and their proof.
func spread(list []string, i int) ([]int, []string) {
	step := (len(list) + most - 1) / most
	c := claim{on: &laid{bytes: 1, list: list}, kind: ofMulti}
	for place := i % step; place < len(list); place += step {
		c.at = append(c.at, place)
	}
	for _, p := range c.pieces() {
		c.proof = append(c.proof, mth.Root(1, list[p.lo:p.hi]))
	}
	return c.at, c.proof
}

// Lists whose first half is an older tree: the root's text is what an older root clashes in (10.4).
func TestOldHalf_10_4(t *testing.T) {
	for _, n := range []int{2, 3, 4, 5, 8, 9, 1024, 1500} {
		list, m := leaves(n), split(n)
		left, right := mth.Root(1, list[:m]), mth.Root(1, list[m:])
		found := 0
		for _, o := range each() {
			for _, h := range each()[:64] {
				if o != left && node1(o, h) == node1(left, right) {
					is(t, "old", Old(1, list, m, o, []string{h}), "\x01"+o+h, "\x01"+left+right)
					found++
				}
			}
		}
		if found == 0 {
			t.Errorf("%d leaves: no example was met", n)
		}
	}
}

// A range is the places of it; a leaf is one place, its hashes in another order: they answer alike.
func TestKindsAreAlike_10_4(t *testing.T) {
	r, tw := rand.New(rand.NewSource(7)), makeTwins()
	found := 0
	for n := 1; n <= 12; n++ {
		l := lay(1, leaves(n))
		for lo := range n {
			for hi := lo + 1; hi <= n; hi++ {
				c, _ := forge(r, tw, theRange(l, lo, hi), piece{0, n})
				m := claim{on: l, kind: ofMulti, at: from(lo, hi), claimed: c.claimed, proof: c.proof}
				if a, b := look(t, 1, c), look(t, 1, m); a != b {
					t.Fatalf("%v: %#v, as places %#v", c, a, b)
				} else if a.Found {
					found++
				}
			}
			c, _ := forge(r, tw, theLeaf(l, lo), piece{0, n})
			pieces := c.pieces()
			order := from(0, len(pieces))
			slices.SortFunc(order, func(i, k int) int { return pieces[i].lo - pieces[k].lo })
			m := claim{on: l, kind: ofRange, a: lo, claimed: c.claimed}
			for _, k := range order {
				m.proof = append(m.proof, c.proof[k])
			}
			if a, b := look(t, 1, c), look(t, 1, m); a != b {
				t.Fatalf("%v: %#v, as a range %#v", c, a, b)
			}
		}
	}
	if found < 100 {
		t.Errorf("met too little: %d", found)
	}
}

// within is a list that stands in a greater one, with marks ahead of it and behind it.
func within[T any](list []T, mark T) ([]T, []T) {
	room := append([]T{mark, mark}, list...)
	room = append(room, mark, mark, mark)
	return room, room[2 : 2+len(list)]
}

// Lists that are handed in stay as they were, their spare room included (10.5).
func TestListsStay_10_5(t *testing.T) {
	claims := wrongly(t)
	for _, c := range allClaims(lay(1, leaves(5))) {
		claims = append(claims, c)
	}
	for _, right := range claims {
		for _, more := range []int{0, 1} {
			c := right.clone()
			for range more {
				c.proof = append(c.proof, "x")
			}
			on := *c.on
			c.on = &on
			want := c.call(1)
			var list, claimed, proof []string
			var at []int
			list, c.on.list = within(c.on.list, "mark")
			claimed, c.claimed = within(c.claimed, "mark")
			proof, c.proof = within(c.proof, "mark")
			at, c.at = within(c.at, -7)
			was := [][]string{slices.Clone(list), slices.Clone(claimed), slices.Clone(proof)}
			wasAt := slices.Clone(at)
			got := c.call(1)
			if got != want {
				t.Errorf("%v: %#v with room behind the lists, %#v without", c, got, want)
			}
			for k, now := range [][]string{list, claimed, proof} {
				if !slices.Equal(now, was[k]) {
					t.Errorf("%v: list %d is %q, was %q", c, k, now, was[k])
				}
			}
			if !slices.Equal(at, wasAt) {
				t.Errorf("%v: the places are %v, were %v", c, at, wasAt)
			}
		}
	}
}

// Nothing is kept: what is written into the lists later shows neither in an answer that was given nor in the next one (10.5, R2).
func TestNothingIsKept_10_5(t *testing.T) {
	for _, c := range wrongly(t) {
		want := c.answer()
		on := *c.on
		on.list = slices.Clone(on.list)
		d := c.clone()
		d.on = &on
		got := d.call(1)
		for _, list := range [][]string{d.on.list, d.claimed, d.proof} {
			for k := range list {
				list[k] = "!"
			}
		}
		for k := range d.at {
			d.at[k] = -1
		}
		none(t, "of what was written over", d.call(1))
		if got != want {
			t.Errorf("%v: %#v, want %#v", c, got, want)
		}
		for range 3 {
			if again := c.call(1); again != want {
				t.Errorf("%v: %#v when asked again, want %#v", c, again, want)
			}
		}
	}
}

// No list and one without elements are the same (R4).
func TestNilOrEmpty_R4(t *testing.T) {
	x := other("a")
	for _, nothing := range [][]string{nil, {}} {
		is(t, "leaf", Leaf(1, []string{"a"}, 0, x, nothing), "\x00"+x, "\x00a")
		is(t, "range", Range(1, []string{"a"}, 0, []string{x}, nothing), "\x00"+x, "\x00a")
		is(t, "places", Multi(1, []string{"a"}, []int{0}, []string{x}, nothing), "\x00"+x, "\x00a")
		none(t, "old", Old(1, []string{"a"}, 1, x, nothing))
		none(t, "no range", Range(1, []string{"a"}, 0, nothing, nothing))
		none(t, "no places", Multi(1, []string{"a"}, []int{}, nothing, nothing))
		none(t, "no places", Multi(1, []string{"a"}, nil, nothing, nothing))
	}
}

// A leaf may look like a node's text, and be empty: the first byte tells them apart (10.3).
func TestTextsOfLeaves_10_3(t *testing.T) {
	A, B := hash1("a"), hash1("b")
	for _, leaf := range []string{"", "\x00", "\x01", "\x01" + A + B, "\x00a", "\xff\xfe", "ä\n", strings.Repeat("x", 10000)} {
		x := other(leaf)
		is(t, "claimed", Leaf(1, []string{leaf}, 0, x, nil), "\x00"+x, "\x00"+leaf)
		is(t, "the list's", Leaf(1, []string{x}, 0, leaf, nil), "\x00"+leaf, "\x00"+x)
		is(t, "range", Range(1, []string{"a", x}, 0, []string{"a", leaf}, nil), "\x00"+leaf, "\x00"+x)
	}
}
