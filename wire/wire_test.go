package wire

import (
	"encoding/binary"
	"encoding/hex"
	"fmt"
	"math"
	"math/big"
	"math/rand"
	"slices"
	"strings"
	"testing"
	"unsafe"

	"annals/api"
	"annals/check"
	"annals/mth"
	"annals/tree"
)

// The limits, written out, so that the tests do not lean on what they look at.
const (
	widest   = 32
	most     = 1024
	longest  = 4096
	tileMost = 256
	greatest = 1 << 62
)

// outsideWidths are widths that count as 32 or are refused, among them those whose low bits are a width.
func outsideWidths() []int {
	return []int{0, -1, -2, -8, -31, -32, -33, 33, 34, 64, 255, 256, 257, 258, 264, 288, 1 << 16, 1<<16 + 1, 1 << 32, 1<<32 + 1, 1<<32 + 8, 1<<62 + 1, math.MinInt, math.MinInt + 1, math.MinInt + 8, math.MaxInt}
}

// counted is the width that w counts as.
func counted(w int) int {
	for ok := 1; ok <= widest; ok++ {
		if w == ok {
			return w
		}
	}
	return widest
}

// unhex are the bytes that are told in hexadecimal.
func unhex(s string) string {
	b, err := hex.DecodeString(strings.ReplaceAll(s, " ", ""))
	if err != nil {
		panic(err)
	}
	return string(b)
}

// number is a number as another program writes it.
func number(v uint64) string { return string(binary.AppendUvarint(nil, v)) }

// run are numbers, one behind the other.
func run(list ...int) string {
	var out []byte
	for _, v := range list {
		out = binary.AppendUvarint(out, uint64(v))
	}
	return string(out)
}

// hashesOf are so many hashes of one width, no two of them alike where the width has room for that.
func hashesOf(width, count, salt int) []string {
	var list []string
	for i := range count {
		v := uint64(i+1)*0x9e3779b97f4a7c15 + uint64(salt)*0xbf58476d1ce4e5b9
		b := make([]byte, width)
		for k := range b {
			b[k] = byte(v >> (8 * (k % 8)))
		}
		list = append(list, string(b))
	}
	return list
}

// split is the greatest power of two below n, found from below.
func split(n int) int {
	k := 1
	for 2*k < n {
		k *= 2
	}
	return k
}

// inclusionCount: the steps down to leaf i of n.
func inclusionCount(i, n int) int {
	count := 0
	for n > 1 {
		count++
		if k := split(n); i < k {
			n = k
		} else {
			i, n = i-k, n-k
		}
	}
	return count
}

// consistencyCount: SUB of the standard.
func consistencyCount(m, n int, whole bool) int {
	if m == 0 {
		return 0
	}
	if m == n {
		if whole {
			return 0
		}
		return 1
	}
	if k := split(n); m <= k {
		return 1 + consistencyCount(m, k, whole)
	} else {
		return 1 + consistencyCount(m-k, n-k, false)
	}
}

// rangeCount: the parts of [a, b) that have no leaf of [lo, hi), the greatest ones.
func rangeCount(lo, hi, a, b int) int {
	if b <= lo || hi <= a {
		return 1
	}
	if lo <= a && b <= hi {
		return 0
	}
	k := split(b - a)
	return rangeCount(lo, hi, a, a+k) + rangeCount(lo, hi, a+k, b)
}

// multiCount: the parts of [a, b) that have none of the places, the greatest ones.
func multiCount(at []int, a, b int) int {
	if len(at) == 0 {
		return 1
	}
	if b-a == 1 {
		return 0
	}
	k := split(b - a)
	cut, _ := slices.BinarySearch(at, a+k)
	return multiCount(at[:cut], a, a+k) + multiCount(at[cut:], a+k, b)
}

// countOf is how many hashes a proof has, or why there is none, by chapter 9 written another way.
func countOf(p api.Proof) (int, api.Errno) {
	if !slices.Contains([]int{1, 2, 3, 4}, p.Kind) {
		return 0, api.ErrKind
	}
	if p.Size < 0 || p.Size > greatest {
		return 0, api.ErrSize
	}
	switch p.Kind {
	case 1:
		if p.A < 0 || p.A > p.Size-1 {
			return 0, api.ErrIndex
		}
		return inclusionCount(p.A, p.Size), api.OK
	case 2:
		if p.A < 0 || p.A > p.Size {
			return 0, api.ErrSize
		}
		return consistencyCount(p.A, p.Size, true), api.OK
	case 3:
		if !(0 <= p.A && p.A < p.B && p.B <= p.Size) {
			return 0, api.ErrIndex
		}
		return rangeCount(p.A, p.B, 0, p.Size), api.OK
	}
	if len(p.At) == 0 {
		return 0, api.ErrEmpty
	}
	if len(p.At) > most {
		return 0, api.ErrMany
	}
	ahead := -1
	for _, place := range p.At {
		if place < 0 || place > p.Size-1 {
			return 0, api.ErrIndex
		}
		if place <= ahead {
			return 0, api.ErrOrder
		}
		ahead = place
	}
	return multiCount(p.At, 0, p.Size), api.OK
}

// coverCount is how many whole subtrees a range falls into: the greatest at each place, found from below.
func coverCount(lo, hi int) int {
	count := 0
	for p := lo; p < hi; count++ {
		size := 1
		for size < greatest && p%(2*size) == 0 && 2*size <= hi-p {
			size *= 2
		}
		p += size
	}
	return count
}

// writtenProof is what a proof is written as, by 11.1 and 11.2 written another way.
func writtenProof(p api.Proof) (string, api.Errno) {
	if p.Width != counted(p.Width) {
		return "", api.ErrRange
	}
	count, e := countOf(p)
	if e != api.OK {
		return "", e
	}
	unnamed := map[int]bool{
		1: p.B != 0 || len(p.At) > 0,
		2: p.B != 0 || len(p.At) > 0,
		3: len(p.At) > 0,
		4: p.A != 0 || p.B != 0,
	}
	if unnamed[p.Kind] {
		return "", api.ErrForm
	}
	for _, h := range p.Hashes {
		if len(h) != p.Width {
			return "", api.ErrHash
		}
	}
	if len(p.Hashes) != count {
		return "", api.ErrCount
	}
	out := "P" + string(rune(p.Width)) + run(p.Kind)
	switch p.Kind {
	case 1, 2:
		out += run(p.A, p.Size)
	case 3:
		out += run(p.A, p.B, p.Size)
	case 4:
		out += run(len(p.At), p.At[0])
		for k := 1; k < len(p.At); k++ {
			out += run(p.At[k] - p.At[k-1] - 1)
		}
		out += run(p.Size)
	}
	all := []byte(out)
	for _, h := range p.Hashes {
		all = append(all, h...)
	}
	return string(all), api.OK
}

// writtenFrontier: by 11.4.
func writtenFrontier(w int, f api.Frontier) (string, api.Errno) {
	if !(0 <= f.Lo && f.Lo <= f.Hi && f.Hi <= greatest) {
		return "", api.ErrRange
	}
	if len(f.Hashes) != coverCount(f.Lo, f.Hi) {
		return "", api.ErrCount
	}
	out := "F" + string(rune(counted(w))) + run(f.Lo, f.Hi)
	for _, h := range f.Hashes {
		if len(h) != counted(w) {
			return "", api.ErrHash
		}
		out += h
	}
	return out, api.OK
}

// writtenHashes: by 11.5.
func writtenHashes(w int, list []string) (string, api.Errno) {
	if len(list) > tileMost {
		return "", api.ErrMany
	}
	out := "H" + string(rune(counted(w))) + run(len(list))
	for _, h := range list {
		if len(h) != counted(w) {
			return "", api.ErrHash
		}
		out += h
	}
	return out, api.OK
}

// writtenLeaves: by 11.6.
func writtenLeaves(list []string) (string, api.Errno) {
	if len(list) > most {
		return "", api.ErrMany
	}
	out := []byte("L" + run(len(list)))
	for _, leaf := range list {
		if len(leaf) > longest {
			return "", api.ErrBig
		}
		out = append(out, run(len(leaf))+leaf...)
	}
	return string(out), api.OK
}

// eater takes bytes from the left, as the chapter says it, and leaves off by a panic of an Errno at the first refusal.
type eater struct{ rest string }

func (e *eater) eat(count int) string {
	if len(e.rest) < count {
		panic(api.ErrShort)
	}
	got := e.rest[:count]
	e.rest = e.rest[count:]
	return got
}

func ask(holds bool, e api.Errno) {
	if !holds {
		panic(e)
	}
}

// number: by 1.7, with numbers that have no bound.
func (e *eater) number() *big.Int {
	sum := new(big.Int)
	for i := 0; ; i++ {
		c := e.eat(1)[0]
		ask(i < 9 || c <= 1, api.ErrOver)
		ask(i == 0 || c != 0, api.ErrForm)
		sum.Add(sum, new(big.Int).Lsh(big.NewInt(int64(c%128)), uint(7*i)))
		if c < 128 {
			return sum
		}
	}
}

// upTo is a number that is at most so great.
func (e *eater) upTo(bound int, refusal api.Errno) int {
	v := e.number()
	ask(v.Cmp(big.NewInt(int64(bound))) <= 0, refusal)
	return int(v.Int64())
}

func (e *eater) kind(mark string) { ask(e.eat(1) == mark, api.ErrKind) }

func (e *eater) width() int {
	w := int(e.eat(1)[0])
	ask(w >= 1 && w <= widest, api.ErrRange)
	return w
}

func (e *eater) hashes(width, count int) []string {
	var list []string
	for range count {
		list = append(list, e.eat(width))
	}
	return list
}

// told is what a reader answers, whichever of the four it is.
type told struct {
	proof    api.Proof
	frontier api.Frontier
	list     []string
	width    int
	e        api.Errno
}

// by is what reading the bytes tells, or the refusal alone.
func by(b string, read func(e *eater) told) (t told) {
	defer func() {
		if r := recover(); r != nil {
			t = told{e: r.(api.Errno)}
		}
	}()
	e := &eater{b}
	t = read(e)
	ask(e.rest == "", api.ErrLong)
	return t
}

// readProof: by 11.3.
func readProof(b string) told {
	return by(b, func(e *eater) told {
		var p api.Proof
		e.kind("P")
		p.Width = e.width()
		kind := e.number()
		ask(kind.Sign() > 0 && kind.Cmp(big.NewInt(4)) <= 0, api.ErrKind)
		p.Kind = int(kind.Int64())
		if p.Kind < 4 {
			p.A = e.upTo(greatest, api.ErrRange)
		}
		if p.Kind == 3 {
			p.B = e.upTo(greatest, api.ErrRange)
		}
		if p.Kind == 4 {
			count := e.upTo(most, api.ErrMany)
			place := big.NewInt(-1)
			for range count {
				place.Add(place, e.number())
				place.Add(place, big.NewInt(1))
				ask(place.Cmp(big.NewInt(greatest)) <= 0, api.ErrRange)
				p.At = append(p.At, int(place.Int64()))
			}
		}
		p.Size = e.upTo(greatest, api.ErrRange)
		count, err := countOf(p)
		ask(err == api.OK, err)
		p.Hashes = e.hashes(p.Width, count)
		return told{proof: p}
	})
}

// readFrontier: by 11.4.
func readFrontier(b string) told {
	return by(b, func(e *eater) told {
		var f api.Frontier
		e.kind("F")
		w := e.width()
		f.Lo = e.upTo(greatest, api.ErrRange)
		f.Hi = e.upTo(greatest, api.ErrRange)
		ask(f.Lo <= f.Hi, api.ErrRange)
		f.Hashes = e.hashes(w, coverCount(f.Lo, f.Hi))
		return told{frontier: f, width: w}
	})
}

// readHashes: by 11.5.
func readHashes(b string) told {
	return by(b, func(e *eater) told {
		e.kind("H")
		w := e.width()
		return told{list: e.hashes(w, e.upTo(tileMost, api.ErrMany)), width: w}
	})
}

// readLeaves: by 11.6.
func readLeaves(b string) told {
	return by(b, func(e *eater) told {
		var list []string
		e.kind("L")
		for range e.upTo(most, api.ErrMany) {
			list = append(list, e.eat(e.upTo(longest, api.ErrBig)))
		}
		return told{list: list}
	})
}

// sameProof: are two proofs alike, lists without elements being so?
func sameProof(p, q api.Proof) bool {
	return p.Kind == q.Kind && p.Width == q.Width && p.A == q.A && p.B == q.B && p.Size == q.Size && slices.Equal(p.At, q.At) && slices.Equal(p.Hashes, q.Hashes)
}

func sameFrontier(f, g api.Frontier) bool {
	return f.Lo == g.Lo && f.Hi == g.Hi && slices.Equal(f.Hashes, g.Hashes)
}

func (t told) like(u told) bool {
	return sameProof(t.proof, u.proof) && sameFrontier(t.frontier, u.frontier) && slices.Equal(t.list, u.list) && t.width == u.width && t.e == u.e
}

func (t told) String() string {
	s := fmt.Sprintf("%+v %+v %q %d %d", t.proof, t.frontier, t.list, t.width, t.e)
	return s[:min(len(s), 400)]
}

// form is one of the four kinds of bytes: how the program reads them, how the chapter does, and how the program writes again what it read.
type form struct {
	name  string
	mark  byte
	read  func(b string) told
	want  func(b string) told
	write func(t told) (string, api.Errno)
}

func forms() []form {
	return []form{
		{"Proof", 'P', func(b string) told { p, e := UnProof(b); return told{proof: p, e: e} }, readProof, func(t told) (string, api.Errno) { return Proof(t.proof) }},
		{"Frontier", 'F', func(b string) told { f, w, e := UnFrontier(b); return told{frontier: f, width: w, e: e} }, readFrontier, func(t told) (string, api.Errno) { return Frontier(t.width, t.frontier) }},
		{"Hashes", 'H', func(b string) told { l, w, e := UnHashes(b); return told{list: l, width: w, e: e} }, readHashes, func(t told) (string, api.Errno) { return Hashes(t.width, t.list) }},
		{"Leaves", 'L', func(b string) told { l, e := UnLeaves(b); return told{list: l, e: e} }, readLeaves, func(t told) (string, api.Errno) { return Leaves(t.list) }},
	}
}

// short is the beginning of a text, in hexadecimal.
func short(b string) string {
	return fmt.Sprintf("%d bytes %x", len(b), b[:min(len(b), 40)])
}

// look holds all four readers against the chapter, and what they took against what is written again.
func look(t *testing.T, b string) {
	t.Helper()
	for _, f := range forms() {
		got, want := f.read(b), f.want(b)
		if !got.like(want) {
			t.Fatalf("Un%s(%s) = %v, want %v", f.name, short(b), got, want)
		}
		if got.e != api.OK {
			continue
		}
		if again, e := f.write(got); again != b || e != api.OK {
			t.Fatalf("11.7: %s, read and written again: %s, %d", short(b), short(again), e)
		}
	}
}

// wroteProof holds a writer against the chapter; the bytes are what it wrote.
func wroteProof(t *testing.T, p api.Proof) string {
	t.Helper()
	got, e := Proof(p)
	want, we := writtenProof(p)
	if got != want || e != we {
		t.Fatalf("Proof(Kind %d Width %d A %d B %d Size %d, %d places, %d hashes) = %s, %d, want %s, %d", p.Kind, p.Width, p.A, p.B, p.Size, len(p.At), len(p.Hashes), short(got), e, short(want), we)
	}
	if e != api.OK {
		return ""
	}
	if back, e := UnProof(got); !sameProof(back, p) || e != api.OK {
		t.Fatalf("11.7: UnProof(%s) = %+v, %d, want %+v", short(got), back, e, p)
	}
	return got
}

func wroteFrontier(t *testing.T, w int, f api.Frontier) string {
	t.Helper()
	got, e := Frontier(w, f)
	want, we := writtenFrontier(w, f)
	if got != want || e != we {
		t.Fatalf("Frontier(%d, %d to %d, %d hashes) = %s, %d, want %s, %d", w, f.Lo, f.Hi, len(f.Hashes), short(got), e, short(want), we)
	}
	if e != api.OK {
		return ""
	}
	if back, bw, e := UnFrontier(got); !sameFrontier(back, f) || bw != counted(w) || e != api.OK {
		t.Fatalf("11.7: UnFrontier(%s) = %+v, %d, %d, want %+v, %d", short(got), back, bw, e, f, counted(w))
	}
	return got
}

func wroteHashes(t *testing.T, w int, list []string) string {
	t.Helper()
	got, e := Hashes(w, list)
	want, we := writtenHashes(w, list)
	if got != want || e != we {
		t.Fatalf("Hashes(%d, %d hashes) = %s, %d, want %s, %d", w, len(list), short(got), e, short(want), we)
	}
	if e != api.OK {
		return ""
	}
	if back, bw, e := UnHashes(got); !slices.Equal(back, list) || bw != counted(w) || e != api.OK {
		t.Fatalf("11.7: UnHashes(%s): %d hashes, %d, %d, want %d, %d", short(got), len(back), bw, e, len(list), counted(w))
	}
	return got
}

func wroteLeaves(t *testing.T, list []string) string {
	t.Helper()
	got, e := Leaves(list)
	want, we := writtenLeaves(list)
	if got != want || e != we {
		t.Fatalf("Leaves(%d leaves) = %s, %d, want %s, %d", len(list), short(got), e, short(want), we)
	}
	if e != api.OK {
		return ""
	}
	if back, e := UnLeaves(got); !slices.Equal(back, list) || e != api.OK {
		t.Fatalf("11.7: UnLeaves(%s): %d leaves, %d, want %d", short(got), len(back), e, len(list))
	}
	return got
}

// fit is a proof with as many hashes as its shape asks for.
func fit(p api.Proof, salt int) api.Proof {
	count, e := countOf(p)
	if e != api.OK {
		panic(e)
	}
	p.Hashes = hashesOf(p.Width, count, salt)
	return p
}

// cover is a compact range with as many hashes as it asks for.
func cover(w, lo, hi, salt int) api.Frontier {
	return api.Frontier{Lo: lo, Hi: hi, Hashes: hashesOf(counted(w), coverCount(lo, hi), salt)}
}

func TestExamples_11_2(t *testing.T) {
	three := []string{"\xaa", "\xbb", "\xcc"}
	base := api.Proof{Kind: 1, Width: 1, A: 3, Size: 7, Hashes: three}
	with := func(change func(p *api.Proof)) api.Proof {
		p := base
		change(&p)
		return p
	}
	for _, c := range []struct {
		p    api.Proof
		want string
		e    api.Errno
	}{
		{base, "50 01 01 03 07 aa bb cc", api.OK},
		{with(func(p *api.Proof) { p.A = 7 }), "", api.ErrIndex},
		{with(func(p *api.Proof) { p.Hashes = three[:2] }), "", api.ErrCount},
		{with(func(p *api.Proof) { p.B = 1 }), "", api.ErrForm},
		{with(func(p *api.Proof) { p.Hashes = []string{"\xaa", "\xbb\xbb", "\xcc"} }), "", api.ErrHash},
		{with(func(p *api.Proof) { p.Width = 0 }), "", api.ErrRange},
		{api.Proof{Kind: 4, Width: 1, At: []int{1, 5}, Size: 7, Hashes: []string{"\xaa", "\xbb", "\xcc", "\xdd"}}, "50 01 04 02 01 03 07 aa bb cc dd", api.OK},
		{api.Proof{Kind: 2, Width: 2, A: 300, Size: 300}, "50 02 02 ac 02 ac 02", api.OK},
	} {
		if got, e := Proof(c.p); got != unhex(c.want) || e != c.e {
			t.Errorf("Proof(%+v) = %x, %d, want %s, %d", c.p, got, e, c.want, c.e)
		}
	}
}

func TestExamples_11_3(t *testing.T) {
	for _, c := range []struct {
		b string
		e api.Errno
	}{
		{"50 01 01 03 07 aa bb", api.ErrShort}, {"50 01 01 03 07 aa bb cc dd", api.ErrLong},
		{"", api.ErrShort}, {"51", api.ErrKind}, {"50", api.ErrShort}, {"50 00", api.ErrRange}, {"50 01 05", api.ErrKind}, {"50 01 81 00", api.ErrForm},
		{"50 01 01 07 07", api.ErrIndex},
		{"50 01 04 81 08", api.ErrMany}, {"50 01 04 81 08" + strings.Repeat("00", 1025) + "81 08", api.ErrMany},
	} {
		if p, e := UnProof(unhex(c.b)); !sameProof(p, api.Proof{}) || e != c.e {
			t.Errorf("UnProof(%s) = %+v, %d, want %d", c.b, p, e, c.e)
		}
	}
	p, e := UnProof(unhex("50 01 01 03 07 aa bb cc"))
	if !sameProof(p, api.Proof{Kind: 1, Width: 1, A: 3, Size: 7, Hashes: []string{"\xaa", "\xbb", "\xcc"}}) || e != api.OK {
		t.Errorf("UnProof: %+v, %d", p, e)
	}
	p, e = UnProof(unhex("50 01 04 02 01 03 07 aa bb cc dd"))
	if !sameProof(p, api.Proof{Kind: 4, Width: 1, At: []int{1, 5}, Size: 7, Hashes: []string{"\xaa", "\xbb", "\xcc", "\xdd"}}) || e != api.OK {
		t.Errorf("UnProof: %+v, %d", p, e)
	}
}

func TestExamples_11_4(t *testing.T) {
	if b, e := Frontier(1, api.Frontier{Lo: 0, Hi: 3, Hashes: []string{"\xaa", "\xbb"}}); b != unhex("46 01 00 03 aa bb") || e != api.OK {
		t.Errorf("Frontier: %x, %d", b, e)
	}
	if f, w, e := UnFrontier(unhex("46 01 03 02")); !sameFrontier(f, api.Frontier{}) || w != 0 || e != api.ErrRange {
		t.Errorf("UnFrontier: %+v, %d, %d", f, w, e)
	}
	if f, w, e := UnFrontier(unhex("46 01 00 03 aa bb")); !sameFrontier(f, api.Frontier{Lo: 0, Hi: 3, Hashes: []string{"\xaa", "\xbb"}}) || w != 1 || e != api.OK {
		t.Errorf("UnFrontier: %+v, %d, %d", f, w, e)
	}
}

func TestExamples_11_5(t *testing.T) {
	for w, want := range map[int]string{2: "48 02 00", 33: "48 20 00"} {
		if b, e := Hashes(w, nil); b != unhex(want) || e != api.OK {
			t.Errorf("Hashes(%d, none) = %x, %d", w, b, e)
		}
	}
	for _, b := range []string{"48 01 81 02", "48 01 81 02" + strings.Repeat("aa", 257)} {
		if l, w, e := UnHashes(unhex(b)); len(l) != 0 || w != 0 || e != api.ErrMany {
			t.Errorf("UnHashes(%s) = %q, %d, %d", b, l, w, e)
		}
	}
}

func TestExamples_11_6(t *testing.T) {
	if b, e := Leaves([]string{"a", "", "bc"}); b != unhex("4c 03 01 61 00 02 62 63") || e != api.OK {
		t.Errorf("Leaves: %x, %d", b, e)
	}
	if l, e := UnLeaves(unhex("4c 03 01 61 00 02 62 63")); !slices.Equal(l, []string{"a", "", "bc"}) || e != api.OK {
		t.Errorf("UnLeaves: %q, %d", l, e)
	}
	if l, e := UnLeaves(unhex("4c 01 81 20")); len(l) != 0 || e != api.ErrBig {
		t.Errorf("UnLeaves: %q, %d", l, e)
	}
}

// The tests' own counts are held against the layers that the chapter names, so that a fault in them does not stay unseen.
func TestOracle_11_2(t *testing.T) {
	for n := range 40 {
		for a := -1; a <= n+1; a++ {
			for b := -1; b <= n+1; b++ {
				for kind := 0; kind <= 3; kind++ {
					p := api.Proof{Kind: kind, A: a, B: b, Size: n}
					got, e := countOf(p)
					if want, we := check.Count(kind, a, b, n, nil); got != want || e != we {
						t.Fatalf("count of %+v: %d, %d, want %d, %d", p, got, e, want, we)
					}
				}
			}
		}
	}
	for lo := range 40 {
		for hi := lo; hi < 80; hi++ {
			if list, e := tree.Cover(lo, hi); e != api.OK || len(list) != coverCount(lo, hi) {
				t.Fatalf("cover of %d to %d: %d, want %d", lo, hi, coverCount(lo, hi), len(list))
			}
		}
	}
}

// smallProofs are all proofs in trees of at most n leaves, of one width.
func smallProofs(n, width int) []api.Proof {
	var list []api.Proof
	for size := 0; size <= n; size++ {
		for a := range size + 1 {
			if a < size {
				list = append(list, fit(api.Proof{Kind: 1, Width: width, A: a, Size: size}, a))
			}
			list = append(list, fit(api.Proof{Kind: 2, Width: width, A: a, Size: size}, a))
			for b := a + 1; b <= size; b++ {
				list = append(list, fit(api.Proof{Kind: 3, Width: width, A: a, B: b, Size: size}, b))
			}
		}
		for set := 1; set < 1<<size; set++ {
			var at []int
			for place := range size {
				if set>>place&1 == 1 {
					at = append(at, place)
				}
			}
			list = append(list, fit(api.Proof{Kind: 4, Width: width, At: at, Size: size}, set))
		}
	}
	return list
}

// edges are sizes and places where the number of bytes or of hashes changes.
func edges() []int {
	list := []int{0}
	for k := range 63 {
		list = append(list, 1<<k-1, 1<<k, 1<<k+1)
	}
	list = append(list, greatest-2, 0x2aaaaaaaaaaaaaaa, 0x1555555555555555)
	list = slices.DeleteFunc(list, func(v int) bool { return v > greatest })
	slices.Sort(list)
	return slices.Compact(list)
}

// few are some of the edges.
func few() []int {
	return []int{0, 1, 2, 3, 7, 127, 128, 129, 16383, 16384, 1<<31 - 1, 1 << 31, 1<<56 - 1, 1 << 56, 1 << 61, 0x2aaaaaaaaaaaaaaa, greatest - 2, greatest - 1, greatest}
}

// greatProofs are proofs in trees of any size.
func greatProofs(width int) []api.Proof {
	var list []api.Proof
	for _, size := range few() {
		for _, a := range few() {
			if a < size {
				list = append(list, fit(api.Proof{Kind: 1, Width: width, A: a, Size: size}, a))
			}
			if a <= size {
				list = append(list, fit(api.Proof{Kind: 2, Width: width, A: a, Size: size}, a))
			}
			for _, b := range few() {
				if a < b && b <= size {
					list = append(list, fit(api.Proof{Kind: 3, Width: width, A: a, B: b, Size: size}, a+b))
				}
			}
		}
		at := slices.DeleteFunc(few(), func(v int) bool { return v >= size })
		for from := range at {
			for to := from + 1; to <= len(at); to++ {
				list = append(list, fit(api.Proof{Kind: 4, Width: width, At: at[from:to], Size: size}, from))
			}
		}
	}
	return list
}

func TestProofSmall_11_1(t *testing.T) {
	for _, width := range []int{1, 2, 3} {
		for _, p := range smallProofs(9, width) {
			wroteProof(t, p)
		}
	}
}

func TestProofWidths_11_1(t *testing.T) {
	for width := 1; width <= widest; width++ {
		for _, p := range smallProofs(4, width) {
			if b := wroteProof(t, p); b[1] != byte(width) {
				t.Fatalf("width byte of %d: %d", width, b[1])
			}
		}
	}
}

func TestProofGreat_11_1(t *testing.T) {
	for _, width := range []int{1, 8, 32} {
		for _, p := range greatProofs(width) {
			wroteProof(t, p)
		}
	}
	for _, size := range edges() {
		for _, a := range edges() {
			if a < size {
				wroteProof(t, fit(api.Proof{Kind: 1, Width: 1, A: a, Size: size}, 1))
				wroteProof(t, fit(api.Proof{Kind: 3, Width: 1, A: a, B: size, Size: size}, 1))
			}
			if a <= size {
				wroteProof(t, fit(api.Proof{Kind: 2, Width: 1, A: a, Size: size}, 1))
			}
		}
	}
}

// manyPlaces are rising places, as many as may be asked for, of some gaits.
func manyPlaces(count int) [][]int {
	var tight, wide, far, grown []int
	next := 0
	for i := range count {
		tight = append(tight, i)
		wide = append(wide, i*(greatest/count))
		far = append(far, greatest-count+i)
		grown = append(grown, next)
		next += 1 + i%300*i
	}
	return [][]int{tight, wide, far, grown}
}

func TestProofMany_11_1(t *testing.T) {
	for _, count := range []int{1, 2, 127, 128, 129, 1023, 1024} {
		for _, at := range manyPlaces(count) {
			for _, size := range []int{at[count-1] + 1, greatest} {
				wroteProof(t, fit(api.Proof{Kind: 4, Width: 2, At: at, Size: size}, count))
			}
		}
	}
	at := manyPlaces(1025)[0]
	for _, size := range []int{1025, greatest} {
		if b, e := Proof(api.Proof{Kind: 4, Width: 2, At: at, Size: size}); b != "" || e != api.ErrMany {
			t.Errorf("Proof of 1025 places in %d: %d bytes, %d", size, len(b), e)
		}
	}
}

// change is a way in which a proof is spoilt.
type change func(p api.Proof) api.Proof

// none leaves it as it is.
func none(p api.Proof) api.Proof { return p }

func widthFaults() []change {
	list := []change{none}
	for _, w := range outsideWidths() {
		list = append(list, func(p api.Proof) api.Proof { p.Width = w; return p })
	}
	return list
}

func kindFaults() []change {
	list := []change{none}
	for _, kind := range []int{0, 5, -1, 6, 257, 1<<32 + 1, math.MinInt + 1, math.MaxInt} {
		list = append(list, func(p api.Proof) api.Proof { p.Kind = kind; return p })
	}
	return list
}

func shapeFaults() []change {
	list := []change{none}
	for _, v := range []int{-1, greatest + 1, math.MinInt, math.MaxInt} {
		list = append(list,
			func(p api.Proof) api.Proof { p.Size = v; return p },
			func(p api.Proof) api.Proof { p.A = v; return p },
			func(p api.Proof) api.Proof { p.B = v; return p },
			func(p api.Proof) api.Proof { p.At = append(slices.Clone(p.At), v); return p },
			func(p api.Proof) api.Proof { p.At = []int{v}; return p })
	}
	return append(list,
		func(p api.Proof) api.Proof { p.Size = 0; return p },
		func(p api.Proof) api.Proof { p.A = p.Size; return p },
		func(p api.Proof) api.Proof { p.A = p.Size + 1; return p },
		func(p api.Proof) api.Proof { p.B = p.A; return p },
		func(p api.Proof) api.Proof { p.B = p.Size + 1; return p },
		func(p api.Proof) api.Proof { p.At = nil; return p },
		func(p api.Proof) api.Proof { p.At = []int{}; return p },
		func(p api.Proof) api.Proof { p.At = []int{3, 3}; return p },
		func(p api.Proof) api.Proof { p.At = []int{3, 7, 2}; return p },
		func(p api.Proof) api.Proof { p.At = []int{3, 2, 7}; return p },
		func(p api.Proof) api.Proof { p.At = make([]int, most+1); return p })
}

func formFaults() []change {
	return []change{none,
		func(p api.Proof) api.Proof { p.A = 1; return p },
		func(p api.Proof) api.Proof { p.A = -1; return p },
		func(p api.Proof) api.Proof { p.B = 1; return p },
		func(p api.Proof) api.Proof { p.B = -1; return p },
		func(p api.Proof) api.Proof { p.B = math.MinInt; return p },
		func(p api.Proof) api.Proof { p.At = []int{0}; return p },
		func(p api.Proof) api.Proof { p.At = []int{}; return p },
		func(p api.Proof) api.Proof { p.At = []int{-5, -5}; return p },
		func(p api.Proof) api.Proof { p.At = make([]int, 2000); return p }}
}

func hashFaults() []change {
	list := []change{none}
	for _, k := range []int{0, 1, -1} { // the first, the second, the last
		for _, h := range []string{"", "xx", "xxx", strings.Repeat("x", 33)} {
			list = append(list, func(p api.Proof) api.Proof {
				if len(p.Hashes) < 2 {
					p.Hashes = append(slices.Clone(p.Hashes), "x", "y")
				}
				p.Hashes = slices.Clone(p.Hashes)
				p.Hashes[(k+len(p.Hashes))%len(p.Hashes)] = h
				return p
			})
		}
	}
	return list
}

func countFaults() []change {
	return []change{none,
		func(p api.Proof) api.Proof { p.Hashes = nil; return p },
		func(p api.Proof) api.Proof { p.Hashes = []string{}; return p },
		func(p api.Proof) api.Proof { p.Hashes = p.Hashes[:max(0, len(p.Hashes)-1)]; return p },
		func(p api.Proof) api.Proof { p.Hashes = append(slices.Clone(p.Hashes), "z"); return p },
		func(p api.Proof) api.Proof { p.Hashes = hashesOf(1, 3000, 1); return p }}
}

// Each refusal, alone and with each other one, in a proof of each kind.
func TestProofRefusals_11_2(t *testing.T) {
	bases := []api.Proof{
		fit(api.Proof{Kind: 1, Width: 1, A: 3, Size: 7}, 1),
		fit(api.Proof{Kind: 2, Width: 1, A: 3, Size: 7}, 2),
		fit(api.Proof{Kind: 2, Width: 1, A: 7, Size: 7}, 2),
		fit(api.Proof{Kind: 3, Width: 1, A: 1, B: 6, Size: 7}, 3),
		fit(api.Proof{Kind: 3, Width: 1, A: 0, B: 7, Size: 7}, 3),
		fit(api.Proof{Kind: 4, Width: 1, At: []int{1, 5}, Size: 7}, 4),
		fit(api.Proof{Kind: 1, Width: 1, A: 1 << 60, Size: greatest}, 5),
		fit(api.Proof{Kind: 4, Width: 1, At: []int{0, greatest - 1}, Size: greatest}, 6),
	}
	groups := [][]change{widthFaults(), kindFaults(), shapeFaults(), formFaults(), hashFaults(), countFaults()}
	seen := map[api.Errno]int{}
	for _, p := range bases {
		for i, first := range groups {
			for _, second := range groups[i:] {
				for _, f := range first {
					for _, g := range second {
						q := g(f(p))
						wroteProof(t, q)
						_, e := Proof(q)
						seen[e]++
					}
				}
			}
		}
	}
	for _, e := range []api.Errno{api.OK, api.ErrRange, api.ErrKind, api.ErrSize, api.ErrIndex, api.ErrEmpty, api.ErrMany, api.ErrOrder, api.ErrForm, api.ErrHash, api.ErrCount} {
		if seen[e] == 0 {
			t.Errorf("%d was never met", e)
		}
	}
}

// Of three faults at once the first one is told.
func TestProofThreeFaults_11_2(t *testing.T) {
	r := rand.New(rand.NewSource(112))
	groups := [][]change{widthFaults(), kindFaults(), shapeFaults(), formFaults(), hashFaults(), countFaults()}
	proofs := smallProofs(5, 1)
	for range 60000 {
		p := proofs[r.Intn(len(proofs))]
		for _, g := range groups {
			if r.Intn(3) == 0 {
				p = g[r.Intn(len(g))](p)
			}
		}
		wroteProof(t, p)
	}
}

// numberForms are numbers as bytes: right ones at each bound, and all that is wrong.
func numberForms() []string {
	list := []string{"", "\x80", "\xff\xff", "\x80\x00", "\x81\x00", "\xff\x80\x00", strings.Repeat("\xff", 9) + "\x02", strings.Repeat("\x80", 9) + "\x00", strings.Repeat("\x80", 10), strings.Repeat("\xff", 9)}
	for _, v := range []uint64{0, 1, 2, 3, 4, 5, 7, 8, 127, 128, 255, 256, 257, 1023, 1024, 1025, 4095, 4096, 4097, greatest - 1, greatest, greatest + 1, 1<<63 - 1, 1 << 63, 1<<64 - 2, 1<<64 - 1} {
		list = append(list, number(v))
	}
	return list
}

// everyRow looks that every row of parts, one of each column, is read as the chapter says it.
func everyRow(t *testing.T, columns ...[]string) {
	t.Helper()
	var fill func(ahead string, rest [][]string)
	fill = func(ahead string, rest [][]string) {
		if len(rest) == 0 {
			look(t, ahead)
			return
		}
		for _, part := range rest[0] {
			fill(ahead+part, rest[1:])
		}
	}
	fill("", columns)
}

func TestReadShort_11_3(t *testing.T) {
	look(t, "")
	for a := range 256 {
		look(t, string([]byte{byte(a)}))
		for b := range 256 {
			look(t, string([]byte{byte(a), byte(b)}))
		}
	}
	bytes := []string{"\x00", "\x01", "\x02", "\x03", "\x04", "\x05", "\x07", "\x20", "\x21", "\x7f", "\x80", "\x81", "\xff"}
	for _, mark := range []string{"P", "F", "H", "L"} {
		everyRow(t, []string{mark}, bytes, bytes)
		everyRow(t, []string{mark}, bytes, bytes, bytes)
		everyRow(t, []string{mark}, bytes, bytes, bytes, bytes)
		everyRow(t, []string{mark}, []string{"\x01"}, bytes, bytes, bytes, bytes)
	}
}

func TestReadFaults_11_3(t *testing.T) {
	heads := []string{"", "P", "p", "Q", "P\x00", "P\x01", "P\x20", "P\x21", "P\xff"}
	kinds := []string{"\x00", "\x01", "\x02", "\x03", "\x04", "\x05", "\x7f", "\x81\x00", "\x80", number(257), number(1<<32 + 1), number(1 << 63), number(1<<64 - 1), strings.Repeat("\xff", 9) + "\x02"}
	everyRow(t, heads, kinds, []string{"", "\x00\x01", "\x80\x00"}, []string{"", "\x01"})
	everyRow(t, []string{"P\x01\x01", "P\x01\x02"}, numberForms(), numberForms(), []string{"", "a", "abc", "abcd"})
	everyRow(t, []string{"P\x01\x03"}, numberForms(), numberForms(), numberForms(), []string{"", "ab"})
}

func TestReadPlaces_11_3(t *testing.T) {
	counts := []string{"\x00", "\x01", "\x02", "\x03", "\x80", "\x81\x00", number(1023), number(1024), number(1025), number(1 << 32), number(1<<32 + 1), number(greatest + 1), number(1<<64 - 1), strings.Repeat("\xff", 9) + "\x02"}
	sizes := []string{"", "\x00", "\x01", "\x07", "\x87\x00", number(greatest - 1), number(greatest), number(greatest + 1), number(1<<64 - 1)}
	everyRow(t, []string{"P\x01\x04"}, counts, numberForms(), sizes, []string{"", "a"})
	everyRow(t, []string{"P\x01\x04\x02"}, numberForms(), numberForms(), sizes, []string{"", "ab"})
	some := []string{"\x00", "\x01", "\x80\x00", number(1 << 61), number(greatest - 2), number(greatest - 1), number(greatest), number(greatest + 1), number(1 << 63), number(1<<64 - greatest - 1), number(1<<64 - greatest - 2), number(1<<64 - 2), number(1<<64 - 1)}
	everyRow(t, []string{"P\x01\x04\x03"}, some, some, some, sizes)
}

// The place that is a sum: at MaxSize it is read on (and refused by Count, behind the Size), above it is refused at once, and no sum wraps.
func TestReadPlaceBound_11_3(t *testing.T) {
	for _, c := range []struct {
		strides []uint64
		size    string
		e       api.Errno
	}{
		{[]uint64{greatest}, "\x07", api.ErrIndex},
		{[]uint64{greatest}, "", api.ErrShort},
		{[]uint64{greatest}, number(greatest), api.ErrIndex},
		{[]uint64{greatest + 1}, "", api.ErrRange},
		{[]uint64{0, greatest - 1}, "", api.ErrShort},
		{[]uint64{0, greatest - 1}, "\x07", api.ErrIndex},
		{[]uint64{0, greatest}, "", api.ErrRange},
		{[]uint64{greatest, 0}, "", api.ErrRange},
		{[]uint64{greatest - 1, 0}, "", api.ErrShort},
		{[]uint64{greatest - 1, 1}, "", api.ErrRange},
		{[]uint64{greatest - 1, 1<<64 - greatest - 1}, "\x07", api.ErrRange},
		{[]uint64{5, 1<<64 - 6}, "\x07", api.ErrRange},
		{[]uint64{5, 1<<64 - 1}, "\x07", api.ErrRange},
		{[]uint64{5, 1<<64 - 3}, "\x07", api.ErrRange},
		{[]uint64{1 << 61, 1 << 61, 1 << 61, 1 << 61}, "\x07", api.ErrRange},
		{[]uint64{greatest - 1}, number(greatest), api.ErrShort}, // the hashes
	} {
		b := "P\x01\x04" + run(len(c.strides))
		for _, v := range c.strides {
			b += number(v)
		}
		if p, e := UnProof(b + c.size); !sameProof(p, api.Proof{}) || e != c.e {
			t.Errorf("UnProof of the strides %d and the size %x: %+v, %d, want %d", c.strides, c.size, p, e, c.e)
		}
		look(t, b+c.size)
	}
}

// All hashes of the greatest proof are asked for: one byte less is too few, one more too many.
func TestReadEnds_11_3(t *testing.T) {
	for _, p := range []api.Proof{
		fit(api.Proof{Kind: 1, Width: 32, A: 0, Size: greatest}, 1),
		fit(api.Proof{Kind: 2, Width: 32, A: greatest - 1, Size: greatest}, 1),
		fit(api.Proof{Kind: 3, Width: 32, A: 1, B: greatest - 1, Size: greatest}, 1),
		fit(api.Proof{Kind: 4, Width: 32, At: manyPlaces(most)[1], Size: greatest}, 1),
	} {
		b := wroteProof(t, p)
		for cut := 1; cut <= 65; cut++ {
			if q, e := UnProof(b[:len(b)-cut]); !sameProof(q, api.Proof{}) || e != api.ErrShort {
				t.Fatalf("Kind %d, %d bytes less: %d", p.Kind, cut, e)
			}
		}
		for _, more := range []string{"\x00", "x", b, strings.Repeat("x", 32)} {
			if q, e := UnProof(b + more); !sameProof(q, api.Proof{}) || e != api.ErrLong {
				t.Fatalf("Kind %d, %d bytes more: %d", p.Kind, len(more), e)
			}
		}
	}
}

func TestFrontierSmall_11_4(t *testing.T) {
	for width := 1; width <= widest; width++ {
		for lo := 0; lo <= 9; lo++ {
			for hi := lo; hi <= 20; hi++ {
				wroteFrontier(t, width, cover(width, lo, hi, lo))
			}
		}
	}
	for _, w := range outsideWidths() {
		if b := wroteFrontier(t, w, cover(w, 3, 13, 1)); b[1] != 32 {
			t.Fatalf("width byte of %d: %d", w, b[1])
		}
		wroteFrontier(t, w, api.Frontier{})
		wroteFrontier(t, w, api.Frontier{Lo: 3, Hi: 4, Hashes: []string{"x"}})
		wroteFrontier(t, w, api.Frontier{Lo: 3, Hi: 4, Hashes: hashesOf(33, 1, 1)})
	}
}

func TestFrontierGreat_11_4(t *testing.T) {
	for _, lo := range edges() {
		for _, hi := range edges() {
			if lo <= hi {
				wroteFrontier(t, 1, cover(1, lo, hi, lo))
			}
		}
	}
	for _, lo := range few() {
		for _, hi := range few() {
			if lo <= hi {
				wroteFrontier(t, 32, cover(32, lo, hi, lo))
			}
		}
	}
}

func TestFrontierRefusals_11_4(t *testing.T) {
	places := append(few(), -1, -2, greatest+1, 1<<63-1, math.MinInt, math.MinInt+1)
	for _, lo := range places {
		for _, hi := range places {
			count := 1
			if 0 <= lo && lo <= hi && hi <= greatest {
				count = coverCount(lo, hi)
			}
			for _, many := range []int{0, count - 1, count, count + 1, 122, 123} {
				if many < 0 {
					continue
				}
				wroteFrontier(t, 2, api.Frontier{Lo: lo, Hi: hi, Hashes: hashesOf(2, many, 1)})
				if many == 0 {
					continue
				}
				for _, spoilt := range []string{"", "x", "xxx"} {
					for _, k := range []int{0, many - 1} {
						list := hashesOf(2, many, 1)
						list[k] = spoilt
						wroteFrontier(t, 2, api.Frontier{Lo: lo, Hi: hi, Hashes: list})
					}
				}
			}
		}
	}
	for _, c := range []struct {
		f api.Frontier
		e api.Errno
	}{
		{api.Frontier{Lo: 3, Hi: 2, Hashes: []string{"xx"}}, api.ErrRange},
		{api.Frontier{Lo: -1, Hi: 2}, api.ErrRange},
		{api.Frontier{Lo: 0, Hi: greatest + 1, Hashes: []string{""}}, api.ErrRange},
		{api.Frontier{Lo: 0, Hi: 3, Hashes: []string{"xx"}}, api.ErrCount},
		{api.Frontier{Lo: 0, Hi: 3, Hashes: []string{"x", "yy"}}, api.ErrHash},
	} {
		if b, e := Frontier(1, c.f); b != "" || e != c.e {
			t.Errorf("Frontier(1, %+v) = %x, %d, want %d", c.f, b, e, c.e)
		}
	}
}

func TestFrontierRead_11_4(t *testing.T) {
	heads := []string{"", "F", "f", "P\x01", "F\x00", "F\x01", "F\x20", "F\x21", "F\xff"}
	everyRow(t, heads, numberForms(), numberForms(), []string{"", "a", "ab", "abc"})
}

func TestHashes_11_5(t *testing.T) {
	for width := 1; width <= widest; width++ {
		for _, count := range []int{0, 1, 2, 3, 127, 128, 129, 255, 256, 257, 300} {
			list := hashesOf(width, count, count)
			wroteHashes(t, width, list)
			for _, k := range []int{0, count / 2, count - 1} {
				for _, spoilt := range []string{"", strings.Repeat("x", width-1), strings.Repeat("x", width+1)} {
					if count > 0 {
						other := slices.Clone(list)
						other[k] = spoilt
						wroteHashes(t, width, other)
					}
				}
			}
		}
	}
	for count := range 300 {
		wroteHashes(t, 1, hashesOf(1, count, count))
	}
	for _, w := range outsideWidths() {
		for _, count := range []int{0, 1, 2, 256, 257} {
			wroteHashes(t, w, hashesOf(32, count, 1))
			wroteHashes(t, w, hashesOf(1, count, 1))
			wroteHashes(t, w, hashesOf(31, count, 1))
			wroteHashes(t, w, hashesOf(33, count, 1))
		}
	}
	for _, c := range []struct {
		w    int
		list []string
		e    api.Errno
	}{
		{1, slices.Repeat([]string{"xx"}, 257), api.ErrMany}, {2, slices.Repeat([]string{"xx"}, 257), api.ErrMany}, {1, slices.Repeat([]string{"xx"}, 256), api.ErrHash}, {1, make([]string, 100000), api.ErrMany}, {0, []string{"x"}, api.ErrHash}, {2, []string{"xx", "x"}, api.ErrHash},
	} {
		if b, e := Hashes(c.w, c.list); b != "" || e != c.e {
			t.Errorf("Hashes(%d, %d hashes) = %s, %d, want %d", c.w, len(c.list), short(b), e, c.e)
		}
	}
}

func TestHashesRead_11_5(t *testing.T) {
	heads := []string{"", "H", "h", "L\x01", "H\x00", "H\x01", "H\x02", "H\x20", "H\x21", "H\xff"}
	rests := []string{"", "a", "ab", "abc", strings.Repeat("x", 255), strings.Repeat("x", 256), strings.Repeat("x", 257), strings.Repeat("x", 512), strings.Repeat("x", 8192), strings.Repeat("x", 8193)}
	everyRow(t, heads, numberForms(), rests)
	for count := range 258 {
		everyRow(t, []string{"H\x01"}, []string{run(count)}, []string{strings.Repeat("x", count), strings.Repeat("x", count+1), strings.Repeat("x", max(0, count-1))})
	}
}

// leafLengths are lengths where the number of bytes changes, and the bound.
func leafLengths() []int { return []int{0, 1, 2, 126, 127, 128, 129, 4094, 4095, 4096} }

func TestLeaves_11_6(t *testing.T) {
	text := strings.Repeat("\x00L\xff\x80abc", 1000)
	for _, a := range leafLengths() {
		wroteLeaves(t, []string{text[:a]})
		for _, b := range leafLengths() {
			wroteLeaves(t, []string{text[:a], text[7 : 7+b]})
			wroteLeaves(t, []string{text[:a], "", text[3 : 3+b], "x"})
		}
	}
	for _, count := range []int{0, 1, 2, 127, 128, 1023, 1024, 1025, 5000} {
		wroteLeaves(t, make([]string, count))
		wroteLeaves(t, hashesOf(9, count, count))
		for _, k := range []int{0, count / 2, count - 1} {
			if count > 0 {
				list := make([]string, count)
				list[k] = text[:4097]
				wroteLeaves(t, list)
				list[k] = text[:4096]
				wroteLeaves(t, list)
			}
		}
	}
	for _, c := range []struct {
		list []string
		e    api.Errno
	}{
		{[]string{text[:4097]}, api.ErrBig}, {[]string{"", text}, api.ErrBig}, {append(make([]string, 1024), text), api.ErrMany}, {slices.Repeat([]string{text}, 1025), api.ErrMany}, {slices.Repeat([]string{text}, 1024), api.ErrBig},
	} {
		if b, e := Leaves(c.list); b != "" || e != c.e {
			t.Errorf("Leaves(%d leaves) = %s, %d, want %d", len(c.list), short(b), e, c.e)
		}
	}
}

func TestLeavesRead_11_6(t *testing.T) {
	long := strings.Repeat("x", 4097)
	heads := []string{"", "L", "l", "H", "P\x01"}
	everyRow(t, heads, numberForms(), []string{"", "\x00", "\x01a", "\x01", "\x02a", "\x81\x00a", number(4096) + long[:4096], number(4096) + long[:4095], number(4096) + long, number(4097) + long})
	everyRow(t, []string{"L\x01"}, numberForms(), []string{"", "a", "aa", long[:4095], long[:4096], long})
	everyRow(t, []string{"L\x02"}, []string{"\x00", "\x01", "\x80\x00", "\x01a"}, numberForms(), []string{"", "a", long[:4096]})
	for _, count := range []int{1023, 1024, 1025} {
		for _, leaves := range []int{1022, 1023, 1024, 1025, 1026} {
			look(t, "L"+run(count)+strings.Repeat("\x00", leaves))
		}
	}
}

// wild is any int.
func wild(r *rand.Rand) int {
	switch r.Intn(6) {
	case 0:
		return r.Intn(5) - 1
	case 1:
		return []int{-1, math.MinInt, math.MaxInt, greatest, greatest + 1, greatest - 1}[r.Intn(6)]
	case 2:
		return r.Int() >> r.Intn(63)
	case 3:
		return int(r.Uint64())
	default:
		return r.Intn(40)
	}
}

// things are the bytes of many things, by each of the writers.
func things(t *testing.T, r *rand.Rand) []string {
	var list []string
	for _, p := range slices.Concat(smallProofs(5, 1), smallProofs(3, 2), greatProofs(1)) {
		list = append(list, wroteProof(t, p))
	}
	for _, lo := range few() {
		for _, hi := range few() {
			for _, w := range []int{1, 2} {
				if lo <= hi {
					list = append(list, wroteFrontier(t, w, cover(w, lo, hi, lo)))
				}
			}
		}
	}
	for count := range 40 {
		for _, w := range []int{1, 2, 32} {
			list = append(list, wroteHashes(t, w, hashesOf(w, count, count)))
		}
		var leaves []string
		for range count {
			leaves = append(leaves, strings.Repeat(string(rune(r.Intn(128))), r.Intn(5)))
		}
		list = append(list, wroteLeaves(t, leaves), wroteLeaves(t, make([]string, count)))
	}
	return list
}

// Bytes that are nearly those of a thing: what is taken, written again, is the same.
func TestSpoilt_11_7(t *testing.T) {
	r := rand.New(rand.NewSource(117))
	list := things(t, r)
	took := 0
	for range 60000 {
		b := []byte(list[r.Intn(len(list))])
		for range r.Intn(3) {
			at := r.Intn(len(b) + 1)
			if r.Intn(2) == 0 {
				at = min(at, r.Intn(8))
			}
			switch r.Intn(3) {
			case 0:
				b = slices.Insert(b, at, byte(r.Intn(256)))
			case 1:
				if at < len(b) {
					b = slices.Delete(b, at, at+1)
				}
			case 2:
				if at < len(b) {
					b[at] = []byte{0, 1, 2, 3, 4, 0x7f, 0x80, 0x81, 0xff, byte(r.Intn(256))}[r.Intn(10)]
				}
			}
		}
		look(t, string(b))
		for _, f := range forms() {
			if f.read(string(b)).e == api.OK {
				took++
			}
		}
	}
	if took < 1000 {
		t.Errorf("only %d were taken", took)
	}
}

func TestThereAndBack_11_7(t *testing.T) {
	r := rand.New(rand.NewSource(118))
	for range 3000 {
		width := 1 + r.Intn(32)
		size := 1 + r.Int()>>r.Intn(62)
		size = 1 + (size-1)&(greatest-1)
		a := r.Intn(size)
		b := a + 1 + r.Intn(size-a)
		at := []int{a}
		for len(at) < 8 && at[len(at)-1]+1 < size {
			ahead := at[len(at)-1] + 1
			at = append(at, ahead+r.Intn(size-ahead)>>r.Intn(8))
		}
		wroteProof(t, fit(api.Proof{Kind: 1, Width: width, A: a, Size: size}, a))
		wroteProof(t, fit(api.Proof{Kind: 2, Width: width, A: b, Size: size}, a))
		wroteProof(t, fit(api.Proof{Kind: 3, Width: width, A: a, B: b, Size: size}, a))
		wroteProof(t, fit(api.Proof{Kind: 4, Width: width, At: at, Size: size}, a))
		wroteFrontier(t, width, cover(width, a, b, a))
	}
}

// The layers' own proofs of a list, written, read and accepted.
func TestRealProofs_11_7(t *testing.T) {
	for _, w := range []int{1, 8, 32} {
		leaves := hashesOf(3, 13, 1)
		for i := range leaves {
			path, e := mth.Path(w, i, leaves)
			if e != api.OK {
				t.Fatal(e)
			}
			b := wroteProof(t, api.Proof{Kind: api.Inclusion, Width: w, A: i, Size: len(leaves), Hashes: path})
			p, _ := UnProof(b)
			if e := check.Inclusion(p.Width, p.A, p.Size, tree.Leaf(w, leaves[i]), p.Hashes, mth.Root(w, leaves)); e != api.OK {
				t.Fatalf("leaf %d, width %d: %d", i, w, e)
			}
		}
	}
}

// No thing is the beginning of another one: in the order of their bytes it would stand ahead of one that it begins, with none between that it does not begin.
func TestNoBeginning_11_8(t *testing.T) {
	list := things(t, rand.New(rand.NewSource(119)))
	slices.Sort(list)
	list = slices.Compact(list)
	for i := range list[1:] {
		if strings.HasPrefix(list[i+1], list[i]) {
			t.Fatalf("%s begins %s", short(list[i]), short(list[i+1]))
		}
	}
}

// Every beginning of a thing is too short for its reader, and of another kind for the others; so is, or is too long, what has a byte more.
func TestCutAndMore_11_8(t *testing.T) {
	for _, b := range things(t, rand.New(rand.NewSource(120))) {
		for _, f := range forms() {
			cut, more := api.ErrKind, api.ErrKind
			if f.mark == b[0] {
				cut, more = api.ErrShort, api.ErrLong
			}
			if got := f.read(""); !got.like(told{e: api.ErrShort}) {
				t.Fatalf("Un%s of no bytes: %v", f.name, got)
			}
			for end := 1; end < len(b); end++ {
				if got := f.read(b[:end]); !got.like(told{e: cut}) {
					t.Fatalf("Un%s(%s): %v, want %d", f.name, short(b[:end]), got, cut)
				}
			}
			for _, c := range []string{"\x00", "\x01", "P", "\x80", "\xff"} {
				if got := f.read(b + c); !got.like(told{e: more}) {
					t.Fatalf("Un%s(%s and %x): %v, want %d", f.name, short(b), c, got, more)
				}
			}
		}
	}
}

// Unlike things have unlike bytes.
func TestUnlike_11_8(t *testing.T) {
	seen := map[string]string{}
	tell := func(b, what string) {
		if was, ok := seen[b]; ok && was != what {
			t.Fatalf("%s is %s and %s", short(b), was, what)
		}
		seen[b] = what
	}
	for _, width := range []int{1, 2} {
		for _, p := range smallProofs(7, width) {
			tell(wroteProof(t, p), fmt.Sprintf("proof %+v", p))
		}
		for lo := range 9 {
			for hi := lo; hi < 20; hi++ {
				f := cover(width, lo, hi, 1)
				tell(wroteFrontier(t, width, f), fmt.Sprintf("frontier %d %+v", width, f))
			}
		}
	}
	texts := []string{"", "\x00", "\x01", "\x02", "\x00\x00", "\x01\x00", "\x00\x01", "\x01\x01"}
	for _, a := range texts {
		for _, b := range texts {
			for _, list := range [][]string{{a}, {a, b}, {a, b, ""}, {"", a, b}, {a, a, b}} {
				tell(wroteLeaves(t, list), fmt.Sprintf("leaves %q", list))
				for _, w := range []int{1, 2} {
					if got, e := Hashes(w, list); e == api.OK {
						tell(got, fmt.Sprintf("hashes %d %q", w, list))
					}
				}
			}
		}
	}
}

func TestBounds_11_9(t *testing.T) {
	if b := wroteLeaves(t, slices.Repeat([]string{strings.Repeat("x", longest)}, 64)); len(b) != 262274 {
		t.Errorf("64 leaves: %d bytes", len(b))
	}
	if b := wroteHashes(t, 32, hashesOf(32, 256, 1)); len(b) != 8196 {
		t.Errorf("a tile's hashes: %d bytes", len(b))
	}
	longestYet := 0
	for _, lo := range edges() {
		for _, hi := range edges() {
			if lo <= hi {
				b := wroteFrontier(t, 32, cover(32, lo, hi, 1))
				longestYet = max(longestYet, len(b))
			}
		}
	}
	if longestYet > 3924 || longestYet < 3904 {
		t.Errorf("frontier: %d bytes", longestYet)
	}
	for _, at := range manyPlaces(most) {
		p := fit(api.Proof{Kind: 4, Width: 1, At: at, Size: greatest}, 1)
		if b := wroteProof(t, p); len(b)-len(p.Hashes) > 9230 {
			t.Errorf("multiproof: %d bytes beside its hashes", len(b)-len(p.Hashes))
		}
	}
	for _, p := range greatProofs(32) {
		if b := wroteProof(t, p); len(b)-32*len(p.Hashes) > 9230 {
			t.Errorf("proof: %d bytes beside its hashes", len(b)-32*len(p.Hashes))
		}
	}
}

func TestWild_R1(t *testing.T) {
	r := rand.New(rand.NewSource(1))
	for range 30000 {
		p := api.Proof{Kind: r.Intn(6), Width: 1, A: wild(r), B: wild(r), Size: wild(r)}
		if r.Intn(8) == 0 {
			p.Kind, p.Width = wild(r), wild(r)
		}
		for range r.Intn(4) {
			p.At = append(p.At, wild(r))
		}
		p.Hashes = hashesOf(r.Intn(2)+1, r.Intn(5), 1)
		wroteProof(t, p)
		wroteFrontier(t, wild(r), api.Frontier{Lo: p.A, Hi: p.B, Hashes: p.Hashes})
		wroteHashes(t, wild(r), p.Hashes)
		b := make([]byte, r.Intn(30))
		r.Read(b)
		if len(b) > 0 {
			b[0] = "PFHL"[r.Intn(4)]
		}
		if len(b) > 1 && r.Intn(2) == 0 {
			b[1] = byte(r.Intn(4))
		}
		look(t, string(b))
	}
}

// within is a list with marks in its spare room, ahead of it and behind it, and a look whether all of that is as it was.
func within[T any](list []T, mark T, same func(a, b T) bool) ([]T, func() bool) {
	room := append([]T{mark, mark}, list...)
	room = append(room, mark, mark, mark)
	was := slices.Clone(room)
	return room[2 : 2+len(list) : len(room)], func() bool { return slices.EqualFunc(room, was, same) }
}

func TestHandedIn_R4(t *testing.T) {
	texts := func(a, b string) bool { return a == b }
	ints := func(a, b int) bool { return a == b }
	for _, p := range slices.Concat(smallProofs(6, 2), greatProofs(1)) {
		var hashesAsWere, atAsWas func() bool
		was := p
		p.Hashes, hashesAsWere = within(p.Hashes, "mark", texts)
		p.At, atAsWas = within(p.At, -9, ints)
		first, e := Proof(p)
		again, e2 := Proof(p)
		if !hashesAsWere() || !atAsWas() || !sameProof(p, was) {
			t.Fatalf("Proof changed %+v", was)
		}
		if first != again || e != e2 || e != api.OK {
			t.Fatalf("Proof twice: %s, %d and %s, %d", short(first), e, short(again), e2)
		}
		list, asWas := within(was.Hashes, "mark", texts)
		Frontier(was.Width, api.Frontier{Lo: was.A, Hi: was.Size, Hashes: list})
		Hashes(was.Width, list)
		Leaves(list)
		if !asWas() {
			t.Fatalf("a list of %d was changed", len(list))
		}
	}
	list, asWas := within(hashesOf(2, 2, 1), "mark", texts)
	Frontier(2, api.Frontier{Lo: 0, Hi: 3, Hashes: list})
	if !asWas() {
		t.Fatal("Frontier changed its list")
	}
}

// Nothing is kept of what is handed in: what is changed behind the call is not seen in the answer.
func TestNotKept_R4(t *testing.T) {
	hashes, at := []string{"a", "b", "c", "d"}, []int{1, 5}
	b, _ := Proof(api.Proof{Kind: 4, Width: 1, At: at, Size: 7, Hashes: hashes})
	hashes[0], at[0] = "z", 3
	if b != "P\x01\x04\x02\x01\x03\x07abcd" {
		t.Errorf("%q", b)
	}
	if b, e := Proof(api.Proof{Kind: 4, Width: 1, At: []int{1, 5}, Size: 7, Hashes: []string{"a", "b", "c", "d"}}); b != "P\x01\x04\x02\x01\x03\x07abcd" || e != api.OK {
		t.Errorf("%q, %d", b, e)
	}
}

// inside: does a text stand in the memory of another?
func inside(part, whole string) bool {
	if part == "" || whole == "" {
		return false
	}
	a, b := uintptr(unsafe.Pointer(unsafe.StringData(part))), uintptr(unsafe.Pointer(unsafe.StringData(whole)))
	return b <= a && a < b+uintptr(len(whole))
}

// spoil writes over a list and its spare room.
func spoil[T any](list []T, mark T) {
	list = list[:cap(list)]
	for i := range list {
		list[i] = mark
	}
}

func TestOwnMemory_R4(t *testing.T) {
	for _, b := range things(t, rand.New(rand.NewSource(121))) {
		b = strings.Clone(b)
		for _, f := range forms() {
			one, two := f.read(b), f.read(b)
			for _, list := range [][]string{one.proof.Hashes, one.frontier.Hashes, one.list} {
				for _, part := range list {
					if inside(part, b) {
						t.Fatalf("Un%s(%s) answers the memory that it was handed", f.name, short(b))
					}
				}
				spoil(list, "spoilt")
			}
			spoil(one.proof.At, -7)
			if want := f.want(b); !two.like(want) || !f.read(b).like(want) {
				t.Fatalf("Un%s(%s): an answer hangs on another one's memory", f.name, short(b))
			}
		}
	}
}

// What is written stands in memory of its own, even where it is one text alone.
func TestOwnBytes_R4(t *testing.T) {
	leaf := strings.Repeat("leaf", 20)
	hash := strings.Repeat("h", 32)
	leaves, _ := Leaves([]string{leaf})
	hashes, _ := Hashes(32, []string{hash})
	frontier, _ := Frontier(32, api.Frontier{Lo: 0, Hi: 1, Hashes: []string{hash}})
	proof, _ := Proof(api.Proof{Kind: 2, Width: 32, A: 4, Size: 5, Hashes: []string{hash}})
	for _, b := range []string{leaves, hashes, frontier, proof} {
		if len(b) == 0 || inside(b[len(b)-1:], leaf) || inside(b[len(b)-1:], hash) {
			t.Errorf("%s stands in what was handed in", short(b))
		}
	}
}

// A list without elements is nil or empty, and means the same.
func TestNoElements_R4(t *testing.T) {
	for _, at := range [][]int{nil, {}} {
		for _, hashes := range [][]string{nil, {}} {
			if b, e := Proof(api.Proof{Kind: 2, Width: 3, A: 5, Size: 5, At: at, Hashes: hashes}); b != "P\x03\x02\x05\x05" || e != api.OK {
				t.Errorf("Proof: %q, %d", b, e)
			}
			if b, e := Proof(api.Proof{Kind: 3, Width: 3, A: 0, B: 5, Size: 5, At: at, Hashes: hashes}); b != "P\x03\x03\x00\x05\x05" || e != api.OK {
				t.Errorf("Proof: %q, %d", b, e)
			}
			if b, e := Proof(api.Proof{Kind: 4, Width: 3, Size: 5, At: at, Hashes: hashes}); b != "" || e != api.ErrEmpty {
				t.Errorf("Proof: %q, %d", b, e)
			}
			if b, e := Frontier(3, api.Frontier{Lo: 4, Hi: 4, Hashes: hashes}); b != "F\x03\x04\x04" || e != api.OK {
				t.Errorf("Frontier: %q, %d", b, e)
			}
			if b, e := Hashes(3, hashes); b != "H\x03\x00" || e != api.OK {
				t.Errorf("Hashes: %q, %d", b, e)
			}
			if b, e := Leaves(hashes); b != "L\x00" || e != api.OK {
				t.Errorf("Leaves: %q, %d", b, e)
			}
		}
	}
}
