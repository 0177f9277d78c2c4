package mth

import (
	"crypto/sha256"
	"encoding/hex"
	"fmt"
	"math"
	"math/rand"
	"slices"
	"strings"
	"sync"
	"testing"

	"annals/api"
	"annals/tree"
)

const widest = 32

// cut is the hash of a text by another program, of w bytes.
func cut(w int, text string) string {
	h := sha256.Sum256([]byte(text))
	return string(h[:w])
}

func at(level, index int) api.Addr {
	return api.Addr{Level: level, Index: index}
}

// widths are all widths that count, each with how many bytes it asks for, and those outside.
func widths() map[int]int {
	m := map[int]int{}
	for w := 1; w <= widest; w++ {
		m[w] = w
	}
	for _, w := range []int{0, -1, -32, -33, 33, 34, 64, 256, 257, 1 << 32, 1<<32 + 4, math.MinInt, math.MinInt + 4, math.MaxInt} {
		m[w] = widest
	}
	return m
}

// leaves are n leaves of all kinds: empty ones, like ones, those that look like the texts of leaves and nodes, those of several blocks.
func leaves(n int) []string {
	r := rand.New(rand.NewSource(6))
	list := make([]string, n)
	for i := range list {
		switch r.Intn(8) {
		case 0:
			list[i] = ""
		case 1:
			list[i] = "like"
		case 2:
			list[i] = "\x01" + cut(widest, "l") + cut(widest, "r")
		case 3:
			list[i] = "\x00" + fmt.Sprint(i)
		default:
			b := make([]byte, r.Intn(100))
			r.Read(b)
			list[i] = fmt.Sprint(i) + string(b)
		}
	}
	return list
}

// known tells what the calls should answer of one list. Its hashes are another program's; each part's is reckoned once.
type known struct {
	w    int
	list []string
	root map[[2]int]string
}

func knownOf(w int, list []string) *known {
	return &known{w, list, map[[2]int]string{}}
}

// part is the root of the leaves from lo up to hi.
func (k *known) part(lo, hi int) string {
	if h, ok := k.root[[2]int{lo, hi}]; ok {
		return h
	}
	var h string
	switch hi - lo {
	case 0:
		h = cut(k.w, "")
	case 1:
		h = cut(k.w, "\x00"+k.list[lo])
	default:
		mid := 1
		for 2*mid < hi-lo {
			mid *= 2
		}
		h = cut(k.w, "\x01"+k.part(lo, lo+mid)+k.part(lo+mid, hi))
	}
	k.root[[2]int{lo, hi}] = h
	return h
}

// up are the hashes beside the way from a node to the root of the first n leaves, from below: on each level what stands beside the way, as far as it goes, if it is there at all.
func (k *known) up(a api.Addr, n int) []string {
	var list []string
	for l, i := a.Level, a.Index; 1<<l < n; l, i = l+1, i/2 {
		beside := i - 1
		if i%2 == 0 {
			beside = i + 1
		}
		if lo := beside << l; lo < n {
			list = append(list, k.part(lo, min(lo+1<<l, n)))
		}
	}
	return list
}

// path is Path of the first n leaves, from below.
func (k *known) path(i, n int) []string {
	return k.up(at(0, i), n)
}

// proof is Proof of the first n leaves, from below: the greatest whole subtree that ends at m, if it is not all of them, and the way from it up.
func (k *known) proof(m, n int) []string {
	if m == 0 || m == n {
		return nil
	}
	l := 0
	for m%(2<<l) == 0 {
		l++
	}
	a := at(l, m>>l-1)
	way := k.up(a, n)
	if a.Index == 0 {
		return way
	}
	return append([]string{k.part(m-1<<l, m)}, way...)
}

// halvings are the steps from n down to 1 by halving, rounded up.
func halvings(n int) int {
	steps := 0
	for ; n > 1; n = (n + 1) / 2 {
		steps++
	}
	return steps
}

func isPower(n int) bool {
	return n > 0 && n&(n-1) == 0
}

// around are sizes of lists: none, one, two, each power of two up to most, one less and one more.
func around(most int) []int {
	list := []int{0, 1, 2}
	for p := 4; p <= most; p *= 2 {
		list = append(list, p-1, p, p+1)
	}
	slices.Sort(list)
	return slices.Compact(list)
}

// outside are numbers that neither a place in a list of n leaves nor a size of a part of it may be; n itself is left out.
func outside(n int) []int {
	list := []int{-1, -2, -n - 1, n + 1, n + 2, 2*n + 2, math.MinInt, math.MinInt + 1, math.MinInt + n, math.MaxInt, math.MaxInt - 1, 1 << 32, 1<<32 + 1, 1 << 62, 1<<62 + 1, -1 << 62, -1 << 32}
	for k := 33; k < 63; k++ {
		list = append(list, 1<<k, -1<<k)
	}
	return list
}

// answer is what Path or Proof answers.
type answer struct {
	hashes []string
	e      api.Errno
}

// asked are the answers of Path for all places and of Proof for all sizes, of width 32, of each list of lengths.
type asked struct {
	paths  map[int][]answer
	proofs map[int][]answer
}

// lengths are those of the lists that are asked for all that there is.
func lengths() []int {
	var list []int
	for n := range 201 {
		list = append(list, n)
	}
	return append(list, 255, 256, 257)
}

// all asks once for what several tests look at: the calls are slow.
var all = sync.OnceValue(func() asked {
	got := asked{map[int][]answer{}, map[int][]answer{}}
	list := leaves(257)
	var workers sync.WaitGroup
	for _, n := range lengths() {
		paths, proofs := make([]answer, n), make([]answer, n+1)
		got.paths[n], got.proofs[n] = paths, proofs
		workers.Go(func() {
			for i := range paths {
				paths[i].hashes, paths[i].e = Path(widest, i, list[:n])
			}
			for m := range proofs {
				proofs[m].hashes, proofs[m].e = Proof(widest, m, list[:n])
			}
		})
	}
	workers.Wait()
	return got
})

func mustPath(t *testing.T, w, i int, list []string) []string {
	t.Helper()
	p, e := Path(w, i, list)
	if e != api.OK {
		t.Fatalf("Path(%d, %d) of %d leaves: %d", w, i, len(list), e)
	}
	return p
}

func mustProof(t *testing.T, w, m int, list []string) []string {
	t.Helper()
	p, e := Proof(w, m, list)
	if e != api.OK {
		t.Fatalf("Proof(%d, %d) of %d leaves: %d", w, m, len(list), e)
	}
	return p
}

// named are the examples' seven leaves and the hashes that they name, of width w.
func named(w int) ([]string, map[string]string) {
	seven := []string{"a", "b", "c", "d", "e", "f", "g"}
	h := map[string]string{}
	for _, l := range seven {
		h[strings.ToUpper(l)] = tree.Leaf(w, l)
	}
	for _, n := range [][2]string{{"A", "B"}, {"C", "D"}, {"E", "F"}, {"AB", "C"}, {"AB", "CD"}, {"EF", "G"}, {"ABCD", "EFG"}} {
		h[n[0]+n[1]] = tree.Node(w, h[n[0]], h[n[1]])
	}
	return seven, h
}

// pick are the hashes of such names.
func pick(h map[string]string, names string) []string {
	var list []string
	for _, n := range strings.Fields(names) {
		list = append(list, h[n])
	}
	return list
}

func TestRoot_6_1(t *testing.T) {
	list := leaves(1025)
	k := knownOf(widest, list)
	for n := range 500 {
		if got, want := Root(widest, list[:n]), k.part(0, n); got != want {
			t.Errorf("Root of %d leaves = %x, want %x", n, got, want)
		}
	}
	for _, n := range around(1024) {
		if got, want := Root(widest, list[:n]), k.part(0, n); got != want {
			t.Errorf("Root of %d leaves = %x, want %x", n, got, want)
		}
	}
}

func TestRootWidths_6_1(t *testing.T) {
	list := leaves(70)
	for w, bytes := range widths() {
		k := knownOf(bytes, list)
		for n := range 71 {
			if got, want := Root(w, list[:n]), k.part(0, n); got != want {
				t.Errorf("Root(%d) of %d leaves = %x, want %x", w, n, got, want)
			}
		}
	}
}

func TestRootExamples_6_1(t *testing.T) {
	for w := range widths() {
		seven, h := named(w)
		for n, want := range map[int]string{0: tree.Empty(w), 1: h["A"], 2: h["AB"], 3: h["ABC"], 4: h["ABCD"], 7: h["ABCDEFG"]} {
			if got := Root(w, seven[:n]); got != want {
				t.Errorf("Root(%d) of %d leaves = %x, want %x", w, n, got, want)
			}
		}
		if got := Root(w, nil); got != tree.Empty(w) {
			t.Errorf("Root(%d) of no list = %x", w, got)
		}
	}
}

// The roots of eight leaves that others who keep to the standard look at, too.
func TestRootsOfTheStandard_6_1(t *testing.T) {
	list := []string{"", "\x00", "\x10", " !", "01", "@ABC", "PQRSTUVW", "`abcdefghijklmno"}
	for n, want := range []string{
		"e3b0c44298fc1c149afbf4c8996fb92427ae41e4649b934ca495991b7852b855",
		"6e340b9cffb37a989ca544e6bb780a2c78901d3fb33738768511a30617afa01d",
		"fac54203e7cc696cf0dfcb42c92a1d9dbaf70ad9e621f4bd8d98662f00e3c125",
		"aeb6bcfe274b70a14fb067a5e5578264db0fa9b51af5e0ba159158f329e06e77",
		"d37ee418976dd95753c1c73862b9398fa2a2cf9b4ff0fdfe8b30cd95209614b7",
		"4e3bbb1f7b478dcfe71fb631631519a3bca12c9aefca1612bfce4c13a86264d4",
		"76e67dadbcdf1e10e1b74ddc608abd2f98dfb16fbce75277b5232a127f2087ef",
		"ddb89be403809e325750d3d263cd78929c2942b7942a34b77e122c9594a74c8c",
		"5dc9da79a70659a9ad559cb701ded9a2ab9d823aad2f4960cfe370eff4604328",
	} {
		if got := hex.EncodeToString([]byte(Root(widest, list[:n]))); got != want {
			t.Errorf("Root of %d leaves = %s, want %s", n, got, want)
		}
	}
}

func TestPath_6_2(t *testing.T) {
	k := knownOf(widest, leaves(257))
	for n, paths := range all().paths {
		for i, got := range paths {
			if want := k.path(i, n); got.e != api.OK || !slices.Equal(got.hashes, want) {
				t.Errorf("Path(%d) of %d leaves = %x, %d, want %x", i, n, got.hashes, got.e, want)
			}
		}
	}
}

func TestPathOfLongLists_6_2(t *testing.T) {
	list := leaves(1025)
	k := knownOf(widest, list)
	for _, n := range []int{200, 255, 256, 257, 300, 511, 512, 513, 777, 1023, 1024, 1025} {
		for _, i := range []int{0, 1, 2, 63, 64, 127, 128, 129, n / 2, n - 65, n - 3, n - 2, n - 1} {
			if got, want := mustPath(t, widest, i, list[:n]), k.path(i, n); !slices.Equal(got, want) {
				t.Errorf("Path(%d) of %d leaves = %x, want %x", i, n, got, want)
			}
		}
	}
}

func TestPathWidths_6_2(t *testing.T) {
	list := leaves(33)
	for w, bytes := range widths() {
		k := knownOf(bytes, list)
		for _, n := range around(32) {
			for i := range n {
				if got, want := mustPath(t, w, i, list[:n]), k.path(i, n); !slices.Equal(got, want) {
					t.Errorf("Path(%d, %d) of %d leaves = %x, want %x", w, i, n, got, want)
				}
			}
		}
	}
}

func TestPathExamples_6_2(t *testing.T) {
	for w := range widths() {
		seven, h := named(w)
		for i, names := range map[int]string{0: "B CD EFG", 3: "C AB EFG", 4: "F G ABCD", 6: "EF ABCD"} {
			if got, want := mustPath(t, w, i, seven), pick(h, names); !slices.Equal(got, want) {
				t.Errorf("Path(%d, %d) of the seven = %x, want %x", w, i, got, want)
			}
		}
		if got := mustPath(t, w, 0, seven[:1]); len(got) != 0 {
			t.Errorf("Path(%d, 0) of one leaf = %x", w, got)
		}
	}
}

func TestPathRefuses_6_2(t *testing.T) {
	list := leaves(130)
	for n := range 131 {
		for _, i := range append(outside(n), n) {
			for _, w := range []int{1, widest, 0, math.MinInt} {
				if p, e := Path(w, i, list[:n]); len(p) != 0 || e != api.ErrIndex {
					t.Errorf("Path(%d, %d) of %d leaves: %x, %d", w, i, n, p, e)
				}
			}
		}
	}
	if p, e := Path(widest, 0, nil); len(p) != 0 || e != api.ErrIndex {
		t.Errorf("Path(0) of no list: %x, %d", p, e)
	}
}

func TestProof_6_3(t *testing.T) {
	k := knownOf(widest, leaves(257))
	for n, proofs := range all().proofs {
		for m, got := range proofs {
			if want := k.proof(m, n); got.e != api.OK || !slices.Equal(got.hashes, want) {
				t.Errorf("Proof(%d) of %d leaves = %x, %d, want %x", m, n, got.hashes, got.e, want)
			}
		}
	}
}

func TestProofOfLongLists_6_3(t *testing.T) {
	list := leaves(1025)
	k := knownOf(widest, list)
	for _, n := range []int{200, 255, 256, 257, 300, 511, 512, 513, 777, 1023, 1024, 1025} {
		for _, m := range []int{0, 1, 2, 3, 63, 64, 65, 127, 128, 129, n / 2, n - 64, n - 3, n - 2, n - 1, n} {
			if got, want := mustProof(t, widest, m, list[:n]), k.proof(m, n); !slices.Equal(got, want) {
				t.Errorf("Proof(%d) of %d leaves = %x, want %x", m, n, got, want)
			}
		}
	}
}

func TestProofWidths_6_3(t *testing.T) {
	list := leaves(33)
	for w, bytes := range widths() {
		k := knownOf(bytes, list)
		for _, n := range around(32) {
			for m := range n + 1 {
				if got, want := mustProof(t, w, m, list[:n]), k.proof(m, n); !slices.Equal(got, want) {
					t.Errorf("Proof(%d, %d) of %d leaves = %x, want %x", w, m, n, got, want)
				}
			}
		}
	}
}

func TestProofExamples_6_3(t *testing.T) {
	for w := range widths() {
		seven, h := named(w)
		for m, names := range map[int]string{0: "", 1: "B CD EFG", 2: "CD EFG", 3: "C D AB EFG", 4: "EFG", 6: "EF G ABCD", 7: ""} {
			if got, want := mustProof(t, w, m, seven), pick(h, names); !slices.Equal(got, want) {
				t.Errorf("Proof(%d, %d) of the seven = %x, want %x", w, m, got, want)
			}
		}
		if got := mustProof(t, w, 0, nil); len(got) != 0 {
			t.Errorf("Proof(%d, 0) of no leaves = %x", w, got)
		}
	}
}

func TestProofRefuses_6_3(t *testing.T) {
	list := leaves(130)
	for n := range 131 {
		for _, m := range outside(n) {
			for _, w := range []int{1, widest, 0, math.MinInt} {
				if p, e := Proof(w, m, list[:n]); len(p) != 0 || e != api.ErrSize {
					t.Errorf("Proof(%d, %d) of %d leaves: %x, %d", w, m, n, p, e)
				}
			}
		}
	}
	if p, e := Proof(widest, 1, nil); len(p) != 0 || e != api.ErrSize {
		t.Errorf("Proof(1) of no list: %x, %d", p, e)
	}
}

func TestNode_6_4(t *testing.T) {
	list := leaves(257)
	k := knownOf(widest, list)
	for _, n := range lengths() {
		for l := range 10 {
			for i := range n>>l + 3 {
				want, code := "", api.ErrSize
				if hi := (i + 1) << l; hi <= n {
					want, code = k.part(i<<l, hi), api.OK
				}
				if got, e := Node(widest, at(l, i), list[:n]); got != want || e != code {
					t.Errorf("Node(%v) of %d leaves = %x, %d, want %x, %d", at(l, i), n, got, e, want, code)
				}
			}
		}
	}
}

func TestNodeWidths_6_4(t *testing.T) {
	list := leaves(16)
	for w, bytes := range widths() {
		k := knownOf(bytes, list)
		for l := range 5 {
			for i := range 16 >> l {
				if got, e := Node(w, at(l, i), list); got != k.part(i<<l, (i+1)<<l) || e != api.OK {
					t.Errorf("Node(%d, %v) = %x, %d", w, at(l, i), got, e)
				}
			}
		}
	}
}

func TestNodeExamples_6_4(t *testing.T) {
	for w := range widths() {
		seven, h := named(w)
		for _, c := range []struct {
			a    api.Addr
			want string
			e    api.Errno
		}{
			{at(0, 6), h["G"], api.OK}, {at(1, 1), h["CD"], api.OK}, {at(2, 0), h["ABCD"], api.OK},
			{at(1, 3), "", api.ErrSize}, {at(2, 1), "", api.ErrSize}, {at(3, 0), "", api.ErrSize}, {at(0, 7), "", api.ErrSize},
			{at(-1, 0), "", api.ErrAddr}, {at(63, 0), "", api.ErrAddr},
		} {
			if got, e := Node(w, c.a, seven); got != c.want || e != c.e {
				t.Errorf("Node(%d, %v) of the seven = %x, %d, want %x, %d", w, c.a, got, e, c.want, c.e)
			}
		}
	}
}

// An address that may not be is refused as such whatever the list is, though its span would end above it or wrap to places within.
func TestNodeRefusesAddresses_6_4(t *testing.T) {
	list := leaves(20)
	bad := []api.Addr{at(62, 1), at(61, 2), at(0, 1<<62), at(0, math.MaxInt), at(0, math.MinInt), at(3, -1), at(0, -1), at(1, -1), at(62, -1), at(math.MinInt, 0), at(math.MaxInt, 0), at(-64, 0), at(64, 0), at(65, 1), at(128, 0), at(math.MaxInt, math.MaxInt), at(math.MinInt, math.MinInt)}
	for l := 1; l < 63; l++ {
		bad = append(bad, at(l, 1<<(62-l)), at(l, 1<<(63-l)-1), at(l, math.MaxInt), at(l, math.MinInt), at(-l, 0), at(-l, 1), at(62+l, 0))
		if l > 1 {
			bad = append(bad, at(l, 1<<(64-l)-1), at(l, 1<<(64-l)), at(l, 1<<(64-l)+1))
		}
	}
	for _, a := range bad {
		for _, n := range []int{0, 1, 2, 8, 20} {
			if h, e := Node(widest, a, list[:n]); h != "" || e != api.ErrAddr {
				t.Errorf("Node(%v) of %d leaves = %x, %d", a, n, h, e)
			}
		}
	}
}

// The greatest subtrees that there are end above every list.
func TestNodeRefusesGreatSpans_6_4(t *testing.T) {
	list := leaves(20)
	for l := range 63 {
		last := 1<<(62-l) - 1
		for _, i := range []int{0, last / 2, last} {
			if (i+1)<<l <= len(list) {
				continue
			}
			if h, e := Node(widest, at(l, i), list); h != "" || e != api.ErrSize {
				t.Errorf("Node(%v) of 20 leaves = %x, %d", at(l, i), h, e)
			}
		}
	}
	for _, a := range []api.Addr{at(0, 0), at(1, 0), at(62, 0)} {
		if h, e := Node(widest, a, nil); h != "" || e != api.ErrSize {
			t.Errorf("Node(%v) of no list = %x, %d", a, h, e)
		}
	}
}

func TestHowMany_6_5(t *testing.T) {
	for n, paths := range all().paths {
		most, longest := halvings(n), 0
		for i, p := range paths {
			if longest = max(longest, len(p.hashes)); len(p.hashes) > most {
				t.Errorf("Path(%d) of %d leaves has %d hashes", i, n, len(p.hashes))
			}
		}
		if longest != most {
			t.Errorf("the longest Path of %d leaves has %d hashes", n, longest)
		}
		for m, p := range all().proofs[n] {
			if len(p.hashes) > most+1 {
				t.Errorf("Proof(%d) of %d leaves has %d hashes", m, n, len(p.hashes))
			}
		}
	}
}

func TestHowManyOfLongLists_6_5(t *testing.T) {
	list := make([]string, 5000)
	for n, want := range map[int]int{1000: 10, 1024: 10, 1025: 11, 2047: 11, 2048: 11, 2049: 12, 4096: 12, 4097: 13, 5000: 13} {
		for _, i := range []int{0, 1, n / 3, n / 2, n - 2, n - 1} {
			if p := len(mustPath(t, 1, i, list[:n])); p > want || i == 0 && p != want {
				t.Errorf("Path(%d) of %d leaves has %d hashes", i, n, p)
			}
			if p := len(mustProof(t, 1, i, list[:n])); p > want+1 {
				t.Errorf("Proof(%d) of %d leaves has %d hashes", i, n, p)
			}
		}
	}
}

// led is the root to which the hashes lead from the leaf at place i of n, as a client that has nothing else goes: f is the node's number on its level, l the last one there.
func led(w, i, n int, leaf string, hashes []string) string {
	r, f, l := tree.Leaf(w, leaf), i, n-1
	for _, h := range hashes {
		if f%2 == 0 && f != l {
			r = tree.Node(w, r, h)
		} else {
			for f%2 == 0 && f > 0 {
				f, l = f/2, l/2
			}
			r = tree.Node(w, h, r)
		}
		f, l = f/2, l/2
	}
	if l != 0 {
		return "the hashes end below the root"
	}
	return r
}

func TestPathLeadsToRoot_6_6(t *testing.T) {
	list := leaves(257)
	for n, paths := range all().paths {
		root := Root(widest, list[:n])
		for i, p := range paths {
			if got := led(widest, i, n, list[i], p.hashes); got != root {
				t.Errorf("Path(%d) of %d leaves leads to %x, not to %x", i, n, got, root)
			}
		}
	}
}

func TestPathLeadsToRootWidths_6_6(t *testing.T) {
	list := leaves(257)
	for w := range widths() {
		for _, n := range []int{1, 2, 3, 7, 8, 21, 257} {
			root := Root(w, list[:n])
			for _, i := range []int{0, n / 3, n / 2, n - 1} {
				if got := led(w, i, n, list[i], mustPath(t, w, i, list[:n])); got != root {
					t.Errorf("Path(%d, %d) of %d leaves leads to %x, not to %x", w, i, n, got, root)
				}
			}
		}
	}
}

// bothRoots are the two roots that can be reckoned from the hashes of a proof from m to n leaves, m from 1 to n - 1; older, the root of the first m, is taken only if m is a power of two.
func bothRoots(w, m, n int, older string, hashes []string) (string, string) {
	if !isPower(m) {
		if len(hashes) == 0 {
			return "no hashes", "no hashes"
		}
		older, hashes = hashes[0], hashes[1:]
	}
	f, l := m-1, n-1
	for f%2 == 1 {
		f, l = f/2, l/2
	}
	one, two := older, older
	for _, h := range hashes {
		if f%2 == 1 || f == l {
			one, two = tree.Node(w, h, one), tree.Node(w, h, two)
			for f%2 == 0 && f > 0 {
				f, l = f/2, l/2
			}
		} else {
			two = tree.Node(w, two, h)
		}
		f, l = f/2, l/2
	}
	return one, two
}

func TestProofLeadsToBothRoots_6_7(t *testing.T) {
	list := leaves(257)
	var roots []string
	for n := range 258 {
		roots = append(roots, Root(widest, list[:n]))
	}
	for n, proofs := range all().proofs {
		for m := 1; m < n; m++ {
			one, two := bothRoots(widest, m, n, roots[m], proofs[m].hashes)
			if one != roots[m] || two != roots[n] {
				t.Errorf("Proof(%d) of %d leaves leads to %x and %x, not to %x and %x", m, n, one, two, roots[m], roots[n])
			}
		}
	}
}

func TestProofLeadsToBothRootsWidths_6_7(t *testing.T) {
	list := leaves(257)
	for w := range widths() {
		for _, n := range []int{2, 3, 7, 8, 21, 257} {
			for _, m := range []int{1, n / 2, (n + 1) / 2, n - 1} {
				older, root := Root(w, list[:m]), Root(w, list[:n])
				one, two := bothRoots(w, m, n, older, mustProof(t, w, m, list[:n]))
				if one != older || two != root {
					t.Errorf("Proof(%d, %d) of %d leaves leads to %x and %x", w, m, n, one, two)
				}
			}
		}
	}
}

// The leaves are unlike here, so that a hash tells where its node stands.
func TestFirstOfProof_6_7(t *testing.T) {
	list := make([]string, 100)
	for i := range list {
		list[i] = fmt.Sprint("leaf ", i)
	}
	for n := range 101 {
		for m := 1; m < n; m++ {
			lo, hi := m, min(2*m, n)
			if !isPower(m) {
				lo, hi = m&(m-1), m
			}
			p := mustProof(t, widest, m, list[:n])
			if len(p) == 0 || p[0] != Root(widest, list[lo:hi]) {
				t.Errorf("Proof(%d) of %d leaves: the first is not the node of %d to %d: %x", m, n, lo, hi, p)
			}
		}
	}
}

// others are texts that a leaf may be changed into.
func others(leaf string) []string {
	list := []string{leaf + "\x00", "\x00" + leaf, "\x01" + leaf, leaf + leaf + "x", "other"}
	if leaf != "" {
		list = append(list, leaf[1:], "", leaf[:len(leaf)-1]+string(leaf[len(leaf)-1]^1))
	}
	return slices.DeleteFunc(list, func(s string) bool { return s == leaf })
}

// clash looks for two unlike texts with one hash in two lists of one length, which have one root, from the root down to the changed leaf.
func clash(w int, one, two []string) (string, string, bool) {
	a, b := knownOf(w, one), knownOf(w, two)
	lo, hi := 0, len(one)
	for hi-lo > 1 {
		mid := lo + 1
		for 2*(mid-lo) < hi-lo {
			mid += mid - lo
		}
		x := "\x01" + a.part(lo, mid) + a.part(mid, hi)
		y := "\x01" + b.part(lo, mid) + b.part(mid, hi)
		if x != y {
			return x, y, cut(w, x) == cut(w, y)
		}
		if slices.Equal(one[lo:mid], two[lo:mid]) {
			lo = mid
		} else {
			hi = mid
		}
	}
	x, y := "\x00"+one[lo], "\x00"+two[lo]
	return x, y, x != y && cut(w, x) == cut(w, y)
}

func TestChangedLeaf_6_8(t *testing.T) {
	list := leaves(64)
	for n := range 65 {
		root := Root(widest, list[:n])
		for i := range n {
			changed := slices.Clone(list[:n])
			for _, leaf := range others(list[i])[:4] {
				changed[i] = leaf
				if Root(widest, changed) == root {
					t.Errorf("%d leaves: the root does not change with leaf %d from %q to %q", n, i, list[i], leaf)
				}
			}
		}
	}
}

func TestChangedLeafOrClash_6_8(t *testing.T) {
	list := leaves(20)
	alike := 0
	for w := 1; w <= 3; w++ {
		for n := range 21 {
			root := Root(w, list[:n])
			for i := range n {
				for _, leaf := range others(list[i]) {
					changed := slices.Clone(list[:n])
					changed[i] = leaf
					if Root(w, changed) != root {
						continue
					}
					alike++
					if x, y, found := clash(w, list[:n], changed); !found || x == y {
						t.Errorf("width %d, %d leaves: one root with leaf %d as %q and %q, and no clash", w, n, i, list[i], leaf)
					}
				}
			}
		}
	}
	if alike == 0 {
		t.Error("no two lists with one root were met: the search for a clash was not tried")
	}
}

// roomFor is a list of n leaves within a greater one, with other texts ahead of it and behind it.
func roomFor(n int) (room, list []string) {
	room = append(append([]string{"ahead 1", "ahead 2"}, leaves(n)...), "behind 1", "behind 2", "behind 3")
	return room, room[2 : 2+n]
}

func TestListStaysAsItWas_R4(t *testing.T) {
	for n := range 70 {
		room, list := roomFor(n)
		was := slices.Clone(room)
		look := func(call string) {
			if !slices.Equal(room, was) {
				t.Fatalf("%s of %d leaves changed its list, or what lies beside it", call, n)
			}
		}
		Root(widest, list)
		look("Root")
		for i := -1; i <= n+1; i++ {
			Path(widest, i, list)
			look("Path")
			Proof(widest, i, list)
			look("Proof")
			for l := -1; l < 8; l++ {
				Node(widest, at(l, i), list)
				look("Node")
			}
		}
	}
}

// What is done with a list behind a call is not to be seen in what the call answered, nor in what the next one answers of an equal list.
func TestListIsNotKept_R4(t *testing.T) {
	for _, n := range []int{1, 2, 3, 7, 8, 9, 40} {
		k := knownOf(widest, leaves(n))
		room, list := roomFor(n)
		path, proof := mustPath(t, widest, n/2, list), mustProof(t, widest, n/2, list)
		for i := range room {
			room[i] = "written over"
		}
		for range 2 {
			if !slices.Equal(path, k.path(n/2, n)) || !slices.Equal(proof, k.proof(n/2, n)) {
				t.Errorf("%d leaves: Path or Proof changes with the list", n)
			}
			path, proof = mustPath(t, widest, n/2, k.list), mustProof(t, widest, n/2, k.list)
		}
		if got := Root(widest, k.list); got != k.part(0, n) {
			t.Errorf("%d leaves: Root = %x behind another list", n, got)
		}
	}
}

// spoil writes into a list and into all the room behind it.
func spoil(list []string) {
	list = list[:cap(list)]
	for i := range list {
		list[i] = "spoilt"
	}
}

// lookApart asks twice and once more, writes into one answer and puts something behind the others, and looks whether any of it shows in another.
func lookApart(t *testing.T, name string, ask func() []string, want []string) {
	t.Helper()
	first, second := ask(), ask()
	spoil(first)
	if !slices.Equal(second, want) {
		t.Errorf("%s: the second answer is %x behind a spoilt one", name, second)
	}
	longer := append(second, "behind")
	third := append(ask(), "other")
	if !slices.Equal(third[:len(want)], want) || !slices.Equal(second, want) || longer[len(want)] != "behind" {
		t.Errorf("%s: what is put behind one answer shows in another", name)
	}
}

func TestAnswersAreApart_R4(t *testing.T) {
	for _, n := range []int{1, 2, 3, 4, 7, 8, 9, 31, 32, 33} {
		room, list := roomFor(n)
		was := slices.Clone(room)
		k := knownOf(widest, leaves(n))
		for i := range n {
			path, proof := mustPath(t, widest, i, list), mustProof(t, widest, i, list)
			lookApart(t, fmt.Sprintf("Path(%d) of %d", i, n), func() []string { return mustPath(t, widest, i, list) }, k.path(i, n))
			lookApart(t, fmt.Sprintf("Proof(%d) of %d", i, n), func() []string { return mustProof(t, widest, i, list) }, k.proof(i, n))
			if !slices.Equal(path, k.path(i, n)) || !slices.Equal(proof, k.proof(i, n)) {
				t.Errorf("%d leaves: an answer for %d changed with later ones", n, i)
			}
		}
		if !slices.Equal(room, was) {
			t.Errorf("%d leaves: what is written into answers shows in the list", n)
		}
	}
}

// Neither part has room behind it, so that what is put behind one is not to be seen in the other, nor behind the list.
func TestPartsHaveNoRoom_6_1(t *testing.T) {
	for n := 2; n < 70; n++ {
		room, list := roomFor(n)
		was := slices.Clone(room)
		left, right := parts(list)
		if !isPower(len(left)) || len(left) >= n || 2*len(left) < n || len(left)+len(right) != n {
			t.Errorf("%d leaves part into %d and %d", n, len(left), len(right))
		}
		if cap(left) != len(left) || cap(right) != len(right) {
			t.Errorf("%d leaves: a part has room for %d and %d", n, cap(left), cap(right))
		}
		left, right = append(left, "put behind"), append(right, "put behind")
		if !slices.Equal(room, was) {
			t.Errorf("%d leaves: what is put behind a part shows in the list", n)
		}
	}
}

func TestSplit_6_1(t *testing.T) {
	for n, want := range map[int]int{2: 1, 3: 2, 4: 2, 5: 4, 6: 4, 7: 4, 8: 4, 9: 8, 16: 8, 17: 16, 1 << 30: 1 << 29, 1<<30 + 1: 1 << 30} {
		if got := split(n); got != want {
			t.Errorf("split(%d) = %d, want %d", n, got, want)
		}
	}
}
