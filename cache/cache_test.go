package cache

import (
	"fmt"
	"maps"
	"math"
	"math/rand"
	"runtime"
	"slices"
	"strconv"
	"testing"
	"weak"
)

// The limit, written out, so that the tests do not lean on what they look at.
const greatest = 4096

// made is a cache that there must be.
func made[K comparable, V any](t testing.TB, most int) *Cache[K, V] {
	t.Helper()
	c := New[K, V](most)
	if c == nil {
		t.Fatalf("14.1: New(%d): nil", most)
	}
	return c
}

// kept is a value and the time at which its key was used last.
type kept[V any] struct {
	value V
	used  int
}

// model is chapter 14 by its words: times of use, and a search for the least of them.
type model[K comparable, V any] struct {
	most               int
	has                map[K]kept[V]
	now                int
	hits, misses, gone int
}

func newModel[K comparable, V any](most int) *model[K, V] {
	return &model[K, V]{most: most, has: map[K]kept[V]{}}
}

func (m *model[K, V]) use(k K, v V) {
	m.now++
	m.has[k] = kept[V]{v, m.now}
}

func (m *model[K, V]) Get(k K) (V, bool) {
	x, ok := m.has[k]
	if ok {
		m.hits++
		m.use(k, x.value)
	} else {
		m.misses++
	}
	return x.value, ok
}

func (m *model[K, V]) Peek(k K) (V, bool) {
	x, ok := m.has[k]
	return x.value, ok
}

func (m *model[K, V]) Put(k K, v V) (K, bool) {
	var zero K
	if _, ok := m.has[k]; ok {
		m.use(k, v)
		return zero, false
	}
	if m.most == 0 {
		m.gone++
		return k, true
	}
	if len(m.has) == m.most {
		l := m.Keys()
		delete(m.has, l[len(l)-1])
		m.gone++
		m.use(k, v)
		return l[len(l)-1], true
	}
	m.use(k, v)
	return zero, false
}

func (m *model[K, V]) Drop(k K) bool {
	_, ok := m.has[k]
	delete(m.has, k)
	return ok
}

func (m *model[K, V]) Len() int { return len(m.has) }

func (m *model[K, V]) Keys() []K {
	return slices.SortedFunc(maps.Keys(m.has), func(a, b K) int { return m.has[b].used - m.has[a].used })
}

func (m *model[K, V]) Counts() (int, int, int) { return m.hits, m.misses, m.gone }

func (m *model[K, V]) Clear() { m.has = map[K]kept[V]{} }

// face is what a cache and a model are asked by.
type face[K comparable, V any] interface {
	Get(K) (V, bool)
	Peek(K) (V, bool)
	Put(K, V) (K, bool)
	Drop(K) bool
	Len() int
	Keys() []K
	Counts() (int, int, int)
	Clear()
}

// The kinds of calls.
const (
	get = iota
	peek
	put
	drop
	length
	list
	counts
	wipe
	kinds
)

// call is a call of any kind.
type call[K comparable, V any] struct {
	kind  int
	key   K
	value V
}

// tell is what a call answers, as a text.
func tell[K comparable, V any](f face[K, V], c call[K, V]) string {
	switch c.kind {
	case get:
		v, ok := f.Get(c.key)
		return fmt.Sprintf("Get(%v) = %v, %v", c.key, v, ok)
	case peek:
		v, ok := f.Peek(c.key)
		return fmt.Sprintf("Peek(%v) = %v, %v", c.key, v, ok)
	case put:
		k, ok := f.Put(c.key, c.value)
		return fmt.Sprintf("Put(%v, %v) = %v, %v", c.key, c.value, k, ok)
	case drop:
		return fmt.Sprintf("Drop(%v) = %v", c.key, f.Drop(c.key))
	case length:
		return fmt.Sprintf("Len() = %d", f.Len())
	case list:
		return fmt.Sprintf("Keys() = %v", f.Keys())
	case counts:
		h, m, g := f.Counts()
		return fmt.Sprintf("Counts() = %d, %d, %d", h, m, g)
	}
	f.Clear()
	return "Clear()"
}

// do makes a call that changes something, and tells nothing.
func do[K comparable, V any](f face[K, V], c call[K, V]) {
	switch c.kind {
	case get:
		f.Get(c.key)
	case put:
		f.Put(c.key, c.value)
	case drop:
		f.Drop(c.key)
	case wipe:
		f.Clear()
	}
}

// state is all that can be seen of a cache without changing it.
func state[K comparable, V any](f face[K, V]) string {
	h, m, g := f.Counts()
	s := fmt.Sprintf("%d: %d %d %d:", f.Len(), h, m, g)
	for _, k := range f.Keys() {
		v, ok := f.Peek(k)
		s += fmt.Sprintf(" %v=%v,%v", k, v, ok)
	}
	return s
}

// same plays calls on a cache and on the model, and looks at what they answer and at all that is to be seen behind each, from a call on.
func same[K comparable, V any](t *testing.T, most int, calls []call[K, V], from int) {
	t.Helper()
	c, m := made[K, V](t, most), newModel[K, V](most)
	for i, x := range calls {
		if i < from {
			do[K, V](c, x)
			do[K, V](m, x)
			continue
		}
		if a, b := tell[K, V](c, x), tell[K, V](m, x); a != b {
			t.Fatalf("most %d, calls %v: %s, want %s", most, calls[:i+1], a, b)
		}
		if a, b := state[K, V](c), state[K, V](m); a != b {
			t.Fatalf("most %d, behind %v: %s, want %s", most, calls[:i+1], a, b)
		}
	}
}

func TestNew_14_1(t *testing.T) {
	for _, n := range []int{math.MinInt, math.MinInt + 1, -1 << 32, -4097, -4096, -2, -1, 4097, 4098, 8192, 1 << 16, 1<<32 + 1, 1 << 62, math.MaxInt} {
		if New[string, int](n) != nil {
			t.Errorf("New(%d): not nil", n)
		}
	}
	for n := 0; n <= greatest; n++ {
		c := made[string, int](t, n)
		if h, m, g := c.Counts(); c.Len() != 0 || len(c.Keys()) != 0 || h|m|g != 0 {
			t.Fatalf("New(%d): not empty: %d %v %d %d %d", n, c.Len(), c.Keys(), h, m, g)
		}
	}
}

// TestRoom_14_1: as many as were asked for find room, and not one more.
func TestRoom_14_1(t *testing.T) {
	for _, n := range []int{1, 2, 3, 4, 5, 7, 8, 9, 63, 64, 65, 1000, greatest - 1, greatest} {
		c := made[int, int](t, n)
		for i := range n {
			if k, ok := c.Put(i+1, i); k != 0 || ok || c.Len() != i+1 {
				t.Fatalf("New(%d): Put %d: %d, %v; %d are kept", n, i+1, k, ok, c.Len())
			}
		}
		for i := range 2 * n {
			if k, ok := c.Put(n+i+1, i); k != i+1 || !ok || c.Len() != n {
				t.Fatalf("New(%d): Put %d: %d, %v; %d are kept", n, n+i+1, k, ok, c.Len())
			}
		}
	}
}

func TestExamples(t *testing.T) {
	type c = call[string, string]
	steps := []struct {
		call c
		want string
	}{
		{c{kind: get, key: "a"}, "Get(a) = , false"},
		{c{put, "a", "1"}, "Put(a, 1) = , false"},
		{c{put, "b", "2"}, "Put(b, 2) = , false"},
		{c{kind: list}, "Keys() = [b a]"},
		{c{kind: get, key: "a"}, "Get(a) = 1, true"},
		{c{kind: list}, "Keys() = [a b]"},
		{c{kind: peek, key: "b"}, "Peek(b) = 2, true"},
		{c{kind: list}, "Keys() = [a b]"},
		{c{put, "c", "3"}, "Put(c, 3) = b, true"},
		{c{kind: list}, "Keys() = [c a]"},
		{c{kind: length}, "Len() = 2"},
		{c{put, "a", "4"}, "Put(a, 4) = , false"},
		{c{kind: list}, "Keys() = [a c]"},
		{c{kind: get, key: "a"}, "Get(a) = 4, true"},
		{c{kind: get, key: "b"}, "Get(b) = , false"},
		{c{kind: counts}, "Counts() = 2, 2, 1"},
		{c{kind: drop, key: "c"}, "Drop(c) = true"},
		{c{kind: drop, key: "c"}, "Drop(c) = false"},
		{c{kind: length}, "Len() = 1"},
		{c{kind: wipe}, "Clear()"},
		{c{kind: list}, "Keys() = []"},
		{c{kind: counts}, "Counts() = 2, 2, 1"},
	}
	two := made[string, string](t, 2)
	for i, s := range steps {
		if a := tell[string, string](two, s.call); a != s.want {
			t.Errorf("step %d: %s, want %s", i+1, a, s.want)
		}
	}
	none := made[string, string](t, 0)
	for i, s := range []struct {
		call c
		want string
	}{
		{c{put, "a", "1"}, "Put(a, 1) = a, true"},
		{c{kind: get, key: "a"}, "Get(a) = , false"},
		{c{kind: length}, "Len() = 0"},
		{c{kind: counts}, "Counts() = 0, 1, 1"},
	} {
		if a := tell[string, string](none, s.call); a != s.want {
			t.Errorf("of none, step %d: %s, want %s", i+1, a, s.want)
		}
	}
}

// TestShort_14_2_to_14_7: every script of few calls, the zero key among the keys.
func TestShort_14_2_to_14_7(t *testing.T) {
	var all []call[string, int]
	for _, k := range []string{"", "a", "b"} {
		for _, kind := range []int{get, put, drop} {
			all = append(all, call[string, int]{kind: kind, key: k})
		}
	}
	all = append(all, call[string, int]{kind: put, key: "c"}, call[string, int]{kind: wipe})
	for most := range 4 {
		var grow func([]call[string, int])
		grow = func(script []call[string, int]) {
			// what is ahead of the last call was looked at as a shorter script
			same(t, most, script, len(script)-1)
			if len(script) == 5 {
				return
			}
			for _, x := range all {
				x.value = len(script) + 1
				grow(append(slices.Clone(script), x))
			}
		}
		grow(nil)
	}
}

// chance is a script by chance; wiping is rare, so that a cache gets full.
func chance(r *rand.Rand, long, keys int, kindsOf []int) []call[int, string] {
	script := make([]call[int, string], long)
	for i := range script {
		kind := kindsOf[r.Intn(len(kindsOf))]
		if kind == wipe && r.Intn(8) > 0 {
			kind = put
		}
		script[i] = call[int, string]{kind, r.Intn(keys) - 1, strconv.Itoa(i)}
	}
	return script
}

func everyKind() []int {
	var l []int
	for k := range kinds {
		l = append(l, k)
	}
	return l
}

func TestChance_14_2_to_14_7(t *testing.T) {
	r := rand.New(rand.NewSource(14))
	for range 400 {
		most := r.Intn(12)
		same(t, most, chance(r, 300, 1+r.Intn(2*most+3), everyKind()), 0)
	}
	for range 6 {
		most := 50 + r.Intn(100)
		same(t, most, chance(r, 2000, 1+r.Intn(2*most), everyKind()), 0)
	}
}

// TestPeek_14_3: in whatever state, Peek answers as Get would, and all behind it is as without it.
func TestPeek_14_3(t *testing.T) {
	r := rand.New(rand.NewSource(143))
	for range 300 {
		most := r.Intn(6)
		script := chance(r, 60, 8, []int{get, put, put, drop, wipe})
		with, without := made[int, string](t, most), made[int, string](t, most)
		for i, x := range script {
			for k := -2; k < 9; k++ {
				with.Peek(k)
			}
			v, ok := with.Peek(x.key)
			if a, b := tell[int, string](with, x), tell[int, string](without, x); a != b {
				t.Fatalf("most %d, calls %v: %s with Peek, %s without", most, script[:i+1], a, b)
			} else if x.kind == get && a != fmt.Sprintf("Get(%v) = %v, %v", x.key, v, ok) {
				t.Fatalf("most %d, calls %v: Peek = %s, %v, but %s", most, script[:i+1], v, ok, a)
			}
			if a, b := state[int, string](with), state[int, string](without); a != b {
				t.Fatalf("most %d, behind %v: %s with Peek, %s without", most, script[:i+1], a, b)
			}
		}
	}
}

// TestQueries_14_6: Len, Keys and Counts, called as often as you like, change nothing.
func TestQueries_14_6(t *testing.T) {
	r := rand.New(rand.NewSource(146))
	for range 300 {
		most := r.Intn(6)
		script := chance(r, 60, 8, []int{get, put, put, drop, wipe})
		with, without := made[int, string](t, most), made[int, string](t, most)
		for i, x := range script {
			for range 3 {
				with.Len()
				with.Counts()
				for j, l := 0, with.Keys(); j < len(l); j++ {
					l[j] = 99
				}
			}
			if a, b := tell[int, string](with, x), tell[int, string](without, x); a != b {
				t.Fatalf("most %d, calls %v: %s with queries, %s without", most, script[:i+1], a, b)
			}
		}
		if a, b := state[int, string](with), state[int, string](without); a != b {
			t.Fatalf("most %d, behind %v: %s with queries, %s without", most, script, a, b)
		}
	}
}

// TestLastUsed_14_7: the keys by what was used, looked up from the end of the script on.
func TestLastUsed_14_7(t *testing.T) {
	r := rand.New(rand.NewSource(147))
	for range 300 {
		most := r.Intn(9)
		script := chance(r, 80, 1+r.Intn(16), []int{get, put, peek})
		c := made[int, string](t, most)
		var used []int
		for i, x := range script {
			a := tell[int, string](c, x)
			if x.kind == put && most > 0 || x.kind == get && a[len(a)-4:] == "true" {
				used = append(used, x.key)
			}
			var want []int
			for _, k := range slices.Backward(used) {
				if len(want) < most && !slices.Contains(want, k) {
					want = append(want, k)
				}
			}
			if got := c.Keys(); !slices.Equal(got, want) || c.Len() != len(want) {
				t.Fatalf("most %d, behind %v: %v, %d, want %v", most, script[:i+1], got, c.Len(), want)
			}
		}
	}
}

// TestKeptUntil_14_7: a key that is kept goes by nothing but Drop, Clear, or a Put that tells it.
func TestKeptUntil_14_7(t *testing.T) {
	r := rand.New(rand.NewSource(1470))
	for range 200 {
		most := r.Intn(9)
		c := made[int, string](t, most)
		for _, x := range chance(r, 100, 14, everyKind()) {
			before := c.Keys()
			var went []int
			switch x.kind {
			case put:
				if k, ok := c.Put(x.key, x.value); ok && most > 0 {
					went = append(went, k)
					if k != before[len(before)-1] {
						t.Fatalf("most %d: %d went of %v", most, k, before)
					}
				}
			case drop:
				if c.Drop(x.key) {
					went = append(went, x.key)
				}
			case wipe:
				c.Clear()
				went = before
			default:
				tell[int, string](c, x)
			}
			after := c.Keys()
			for _, k := range before {
				if slices.Contains(after, k) == slices.Contains(went, k) {
					t.Fatalf("most %d: %d, %v: from %v to %v", most, x.kind, x.key, before, after)
				}
			}
			slices.Sort(after)
			if len(after) > most || len(slices.Compact(after)) != c.Len() {
				t.Fatalf("most %d: %v", most, after)
			}
		}
	}
}

func TestGreater_14_8(t *testing.T) {
	r := rand.New(rand.NewSource(148))
	for range 400 {
		n := r.Intn(10)
		small, large := made[int, string](t, n), made[int, string](t, n+r.Intn(6))
		script := chance(r, 150, 1+r.Intn(20), everyKind())
		for i, x := range script {
			tell[int, string](small, x)
			tell[int, string](large, x)
			for _, k := range small.Keys() {
				v, _ := small.Peek(k)
				if w, ok := large.Peek(k); w != v || !ok {
					t.Fatalf("behind %v: %d: %q, in the greater one %q, %v", script[:i+1], k, v, w, ok)
				}
			}
			h, m, g := small.Counts()
			if h2, m2, g2 := large.Counts(); h2 < h || m2 > m || g2 > g {
				t.Fatalf("behind %v: %d %d %d, in the greater one %d %d %d", script[:i+1], h, m, g, h2, m2, g2)
			}
		}
	}
}

// TestSizes_14_4_14_5: what is dropped leaves room for just one, wherever it stood.
func TestSizes_14_4_14_5(t *testing.T) {
	for n := 1; n < 9; n++ {
		for at := range n {
			c := made[int, int](t, n)
			for i := range n {
				c.Put(i, i)
			}
			if !c.Drop(at) || c.Drop(at) || c.Len() != n-1 {
				t.Fatalf("of %d: Drop(%d)", n, at)
			}
			if k, ok := c.Put(100, 1); k != 0 || ok {
				t.Errorf("of %d: behind Drop(%d): Put: %d, %v", n, at, k, ok)
			}
			oldest := 0
			if at == 0 && n > 1 {
				oldest = 1
			} else if n == 1 {
				oldest = 100
			}
			if k, ok := c.Put(101, 1); k != oldest || !ok {
				t.Errorf("of %d: behind Drop(%d): Put: %d, %v, want %d", n, at, k, ok, oldest)
			}
		}
	}
}

// TestClear_14_5: a cache that was cleared is as a new one, but for its counts.
func TestClear_14_5(t *testing.T) {
	r := rand.New(rand.NewSource(145))
	for range 200 {
		most := r.Intn(6)
		old, fresh := made[int, string](t, most), made[int, string](t, most)
		for _, x := range chance(r, r.Intn(40), 8, everyKind()) {
			tell[int, string](old, x)
		}
		h, m, g := old.Counts()
		old.Clear()
		if h2, m2, g2 := old.Counts(); h2 != h || m2 != m || g2 != g || old.Len() != 0 {
			t.Fatalf("Clear counts: %d %d %d, %d %d %d", h, m, g, h2, m2, g2)
		}
		for _, x := range chance(r, 40, 8, []int{get, put, peek, drop, list, length}) {
			if a, b := tell[int, string](old, x), tell[int, string](fresh, x); a != b {
				t.Fatalf("most %d: %s, in a new one %s", most, a, b)
			}
		}
		h2, m2, g2 := old.Counts()
		if h3, m3, g3 := fresh.Counts(); h2 != h+h3 || m2 != m+m3 || g2 != g+g3 {
			t.Fatalf("most %d: counts %d %d %d, were %d %d %d, in a new one %d %d %d", most, h2, m2, g2, h, m, g, h3, m3, g3)
		}
	}
}

// pair is a struct as a key.
type pair struct {
	name string
	nums [2]int
}

// TestKinds: keys of all kinds are held against each other by ==.
func TestKinds(t *testing.T) {
	hold := func(a, b any) {
		t.Helper()
		c := made[any, int](t, 2)
		c.Put(a, 1)
		c.Put(b, 2)
		v, ok := c.Get(a)
		if want := map[bool]int{true: 2, false: 1}[a == b]; v != want || !ok {
			t.Errorf("%v, %v: %d, %v, want %d", a, b, v, ok, want)
		}
		if want := map[bool]int{true: 1, false: 2}[a == b]; c.Len() != want {
			t.Errorf("%v, %v: %d keys, want %d", a, b, c.Len(), want)
		}
	}
	x, y := new(int), new(int)
	keys := []any{nil, 0, 1, int8(1), uint(1), "", "a", "b", 'a', true, false, 0.0, math.Copysign(0, -1), 1.0, math.Inf(1), complex(0, 1), x, y, [2]string{"a", ""}, [2]string{"", "a"}, pair{"a", [2]int{1, 2}}, pair{"a", [2]int{2, 1}}, struct{}{}, any(nil)}
	for _, a := range keys {
		for _, b := range keys {
			hold(a, b)
		}
	}
	c := made[pair, *int](t, 1)
	c.Put(pair{"a", [2]int{1, 2}}, x)
	if v, ok := c.Get(pair{"a", [2]int{1, 2}}); v != x || !ok {
		t.Errorf("a struct as a key: %v, %v", v, ok)
	}
	if k, ok := c.Put(pair{"b", [2]int{}}, nil); k != (pair{"a", [2]int{1, 2}}) || !ok {
		t.Errorf("a struct as a key: %v went, %v", k, ok)
	}
	if v, ok := c.Get(pair{"b", [2]int{}}); v != nil || !ok {
		t.Errorf("a value that is nil: %v, %v", v, ok)
	}
}

// TestNotThemselves: keys that are not the same as themselves are not handed in; still no call panics, and each ends.
func TestNotThemselves(t *testing.T) {
	c := made[float64, int](t, 2)
	for i := range 20 {
		c.Put(math.NaN(), i)
		c.Put(float64(i), i)
		c.Get(math.NaN())
		c.Drop(math.NaN())
		c.Drop(float64(i))
		c.Keys()
	}
	c.Clear()
	if c.Len() != 0 || len(c.Keys()) != 0 {
		t.Errorf("behind Clear: %d, %v", c.Len(), c.Keys())
	}
}

// TestAsHanded: what a value leads to is not copied.
func TestAsHanded(t *testing.T) {
	c := made[string, []int](t, 2)
	v := make([]int, 2, 5)
	c.Put("a", v)
	v[0] = 7
	a, _ := c.Get("a")
	b, _ := c.Peek("a")
	if len(a) != 2 || cap(a) != 5 || &a[0] != &v[0] || &b[0] != &v[0] {
		t.Errorf("a value was copied: %v, %v", a, b)
	}
	c.Put("a", nil)
	if a, ok := c.Get("a"); a != nil || !ok {
		t.Errorf("nil: %v, %v", a, ok)
	}
}

// TestMemory_14_6: a list of keys is its own, whatever was told or is put behind it.
func TestMemory_14_6(t *testing.T) {
	c := made[int, int](t, 4)
	var told, want [][]int
	for i := 1; i < 40; i++ {
		c.Put(i, i)
		c.Get(i - 2)
		l := c.Keys()
		told, want = append(told, l), append(want, slices.Clone(l))
	}
	for i := range told {
		if !slices.Equal(told[i], want[i]) {
			t.Fatalf("list %d has changed: %v, was %v", i, told[i], want[i])
		}
		for j := range told[i][:cap(told[i])] {
			told[i][:cap(told[i])][j] = -1
		}
	}
	if got := c.Keys(); !slices.Equal(got, want[len(want)-1]) {
		t.Errorf("spoilt lists are seen: %v, want %v", got, want[len(want)-1])
	}
}

// TestApart: each cache is one by itself.
func TestApart(t *testing.T) {
	a, b := made[string, int](t, 2), made[string, int](t, 2)
	a.Put("x", 1)
	b.Put("x", 2)
	b.Get("y")
	b.Put("y", 3)
	b.Put("z", 4)
	b.Clear()
	if v, ok := a.Peek("x"); v != 1 || !ok || a.Len() != 1 {
		t.Errorf("what was done to another is seen: %d, %v, %d", v, ok, a.Len())
	}
	if h, m, g := a.Counts(); h|m|g != 0 {
		t.Errorf("what was counted of another is seen: %d %d %d", h, m, g)
	}
}

// TestLetGo: what is kept no more is not held by the cache.
func TestLetGo(t *testing.T) {
	type big [1 << 12]byte
	c := made[int, *big](t, 3)
	held := make([]weak.Pointer[big], 7)
	put := func(k, i int) {
		b := new(big)
		held[i] = weak.Make(b)
		c.Put(k, b)
	}
	look := func(when string, there ...bool) {
		t.Helper()
		runtime.GC()
		runtime.GC()
		for i, want := range there {
			if got := held[i].Value() != nil; got != want {
				t.Errorf("%s: value %d: held: %v, want %v", when, i, got, want)
			}
		}
	}
	for i := range 5 {
		put(i, i)
	}
	look("two went", false, false, true, true, true)
	put(4, 5)
	look("another in its stead", false, false, true, true, false, true)
	c.Drop(3)
	look("one dropped", false, false, true, false, false, true)
	c.Clear()
	look("cleared", false, false, false, false, false, false)
	put(9, 6)
	look("put behind", false, false, false, false, false, false, true)
	runtime.KeepAlive(c)
}

// TestWork: a call's work does not hang on how many are kept, or this would take minutes.
func TestWork(t *testing.T) {
	c := made[int, int](t, greatest)
	for i := range 1 << 20 {
		if _, ok := c.Put(i, i); ok != (i >= greatest) {
			t.Fatalf("Put %d: %v", i, ok)
		}
		if v, ok := c.Get(i - i%greatest/2); !ok || v != i-i%greatest/2 {
			t.Fatalf("Get behind Put %d: %d, %v", i, v, ok)
		}
	}
	if h, m, g := c.Counts(); h != 1<<20 || m != 0 || g != 1<<20-greatest {
		t.Errorf("Counts = %d %d %d", h, m, g)
	}
}
