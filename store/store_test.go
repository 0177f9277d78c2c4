package store

import (
	"bytes"
	"encoding/binary"
	"fmt"
	"math"
	"math/rand"
	"slices"
	"sort"
	"strings"
	"testing"
	"unsafe"

	"annals/api"
)

// The limits, written out, so that the tests do not lean on what they look at.
const (
	longestKey  = 64
	longestData = 1048576
	overhead    = 16
	greatest    = 1073741824
)

// face is what a store and the model of one are both asked.
type face interface {
	Image() string
	Get(key string) (string, api.Errno)
	Keys(prefix string) []string
	Put(key, data string) api.Errno
	Cut(key string) api.Errno
	Sync() api.Errno
	Arm(n int)
	Down() bool
	Crash(keep string)
	Age() int
	Pending() int
	Used() int
	Room() int
}

// pair is a record of the model.
type pair struct {
	key, data string
}

// deed is a write of the model.
type deed struct {
	cut bool
	pair
}

// model is the chapter written another way: a list of what is durable and a list of the writes behind it; what is there now is reckoned anew from both whenever it is asked for.
type model struct {
	capacity int
	durable  []pair
	after    []deed
	power    bool
	left     int // writes and Syncs until the power goes; below 0: it stays
	crashes  int
}

func modelOf(capacity int, list ...pair) *model {
	return &model{capacity: capacity, durable: slices.Clone(list), power: true, left: -1}
}

// behind are the records behind a row of writes.
func behind(list []pair, row []deed) []pair {
	list = slices.Clone(list)
	for _, d := range row {
		at := slices.IndexFunc(list, func(p pair) bool { return p.key == d.key })
		if at >= 0 {
			list = slices.Delete(list, at, at+1)
		}
		if !d.cut {
			list = append(list, d.pair)
		}
	}
	return list
}

func rising(list []pair) []pair {
	list = slices.Clone(list)
	sort.Slice(list, func(i, j int) bool { return bytes.Compare([]byte(list[i].key), []byte(list[j].key)) < 0 })
	return list
}

// written is an image by the encoder of the library.
func written(list []pair) string {
	out := []byte("S")
	for _, p := range rising(list) {
		out = append(append(out, byte(len(p.key))), p.key...)
		out = append(binary.BigEndian.AppendUint32(out, uint32(len(p.data))), p.data...)
	}
	return string(out)
}

func sum(list []pair) int {
	n := 0
	for _, p := range list {
		n += len(p.key + p.data)
	}
	return n + overhead*len(list)
}

func (m *model) there() []pair { return behind(m.durable, m.after) }
func (m *model) Image() string { return written(m.durable) }
func (m *model) Down() bool    { return !m.power }
func (m *model) Age() int      { return m.crashes }
func (m *model) Pending() int  { return len(m.after) }
func (m *model) Used() int     { return sum(m.there()) }
func (m *model) Room() int     { return m.capacity }

func (m *model) Get(key string) (string, api.Errno) {
	if !m.power {
		return "", 124
	}
	if key == "" || len(key) > longestKey {
		return "", 120
	}
	for _, p := range m.there() {
		if p.key == key {
			return p.data, 0
		}
	}
	return "", 123
}

func (m *model) Keys(prefix string) []string {
	var list []string
	for _, p := range rising(m.there()) {
		if m.power && len(p.key) >= len(prefix) && p.key[:len(prefix)] == prefix {
			list = append(list, p.key)
		}
	}
	return list
}

// count: a call that counts; does the power go with it?
func (m *model) count() bool {
	m.left--
	if m.left == 0 {
		m.power = false
		return true
	}
	m.left = max(m.left, -1)
	return false
}

func (m *model) done(d deed) api.Errno {
	m.after = append(m.after, d)
	if m.count() {
		return 124
	}
	return 0
}

func (m *model) Put(key, data string) api.Errno {
	d := deed{false, pair{key, data}}
	was := m.Used()
	will := sum(behind(m.there(), []deed{d}))
	switch {
	case !m.power:
		return 124
	case len(key) < 1, len(key) > longestKey:
		return 120
	case len(data) > longestData:
		return 121
	case will > max(m.capacity, was):
		return 122
	}
	return m.done(d)
}

func (m *model) Cut(key string) api.Errno {
	if _, e := m.Get(key); e != 0 {
		return e
	}
	return m.done(deed{true, pair{key, ""}})
}

func (m *model) Sync() api.Errno {
	if !m.power || m.count() {
		return 124
	}
	m.durable, m.after = m.there(), nil
	return 0
}

func (m *model) Arm(n int) {
	if m.power {
		m.left = n
		if n < 1 {
			m.left = -1
		}
	}
}

func (m *model) Crash(keep string) {
	var kept []deed
	for i, d := range m.after {
		if len(keep) > 0 && strings.ContainsAny("13579bdf", fmt.Sprintf("%02x", keep[i%len(keep)])[1:]) {
			kept = append(kept, d)
		}
	}
	*m = model{m.capacity, behind(m.durable, kept), nil, true, -1, m.crashes + 1}
}

// call is a call, and say makes it on a store or a model and tells what it answered.
type call struct {
	name, key, data string
	n               int
}

func put(key, data string) call { return call{name: "put", key: key, data: data} }
func cut(key string) call       { return call{name: "cut", key: key} }
func sync() call                { return call{name: "sync"} }
func arm(n int) call            { return call{name: "arm", n: n} }
func crash(keep string) call    { return call{name: "crash", key: keep} }
func get(key string) call       { return call{name: "get", key: key} }
func keys(prefix string) call   { return call{name: "keys", key: prefix} }
func image() call               { return call{name: "image"} }
func tell() call                { return call{name: "tell"} }

func (c call) String() string {
	return fmt.Sprintf("%s %.12q %.12q %d", c.name, c.key, c.data, c.n)
}

func (c call) say(f face) string {
	switch c.name {
	case "put":
		return fmt.Sprint(int(f.Put(c.key, c.data)))
	case "cut":
		return fmt.Sprint(int(f.Cut(c.key)))
	case "sync":
		return fmt.Sprint(int(f.Sync()))
	case "arm":
		f.Arm(c.n)
	case "crash":
		f.Crash(c.key)
	case "get":
		x, e := f.Get(c.key)
		return fmt.Sprint(len(x), " ", x, " ", int(e))
	case "keys":
		return fmt.Sprintf("%q", f.Keys(c.key))
	case "image":
		return f.Image()
	case "tell":
		return fmt.Sprint(f.Pending(), f.Used(), f.Room(), f.Down(), f.Age())
	default:
		panic(c.name)
	}
	return ""
}

// all is everything that a store tells, of what is there now under whichever key.
func all(f face, extra ...string) string {
	list := f.Keys("")
	out := []string{tell().say(f), image().say(f), fmt.Sprintf("%q", list)}
	for _, k := range append(list, extra...) {
		out = append(out, get(k).say(f))
	}
	return strings.Join(out, "|")
}

func short(s string) string {
	if len(s) > 300 {
		return fmt.Sprintf("%.300q.. (%d)", s, len(s))
	}
	return fmt.Sprintf("%q", s)
}

// same holds a store against a model.
func same(t *testing.T, s *Store, m *model, when any) {
	t.Helper()
	if got, want := all(s, "a", "zzz", ""), all(m, "a", "zzz", ""); got != want {
		t.Fatalf("behind %v: it is %s, want %s", when, short(got), short(want))
	}
}

// play makes calls on a store and a model and holds each answer of the one against that of the other; at the end all that they tell.
func play(t *testing.T, s *Store, m *model, list ...call) {
	t.Helper()
	for i, c := range list {
		if got, want := c.say(s), c.say(m); got != want {
			t.Fatalf("%v: call %d = %s, want %s", list[:i+1], i, short(got), short(want))
		}
	}
	same(t, s, m, list)
}

// steady is play that looks at all that there is behind every call.
func steady(t *testing.T, s *Store, m *model, list ...call) {
	t.Helper()
	for _, c := range list {
		play(t, s, m, c)
	}
}

// expect makes calls whose answers are written beside them.
func expect(t *testing.T, s *Store, list ...any) {
	t.Helper()
	for i := 0; i < len(list); i += 2 {
		c := list[i].(call)
		if got := c.say(s); got != fmt.Sprint(list[i+1]) {
			t.Fatalf("call %d: %v = %q, want %v", i/2, c, got, list[i+1])
		}
	}
}

// of makes calls that must all be done.
func of(t *testing.T, s *Store, list ...call) *Store {
	t.Helper()
	for _, c := range list {
		if got := c.say(s); got != "0" && got != "" {
			t.Fatalf("%v = %s", c, got)
		}
	}
	return s
}

func made(t *testing.T, capacity int) *Store {
	t.Helper()
	s := New(capacity)
	if s == nil {
		t.Fatalf("New(%d) is nil", capacity)
	}
	return s
}

func opened(t *testing.T, image string, capacity int) *Store {
	t.Helper()
	s, e := Open(image, capacity)
	if s == nil || e != api.OK {
		t.Fatalf("Open(%s, %d) = %v, %d", short(image), capacity, s == nil, e)
	}
	return s
}

func long(n int) string { return strings.Repeat("x", n) }

// outside are numbers that are no capacity, among them those whose low bits are one.
func outside() []int {
	return []int{-1, -2, -16, -greatest, -greatest - 1, greatest + 1, greatest + 2, 2 * greatest, 1 << 31, 1 << 32, 1<<32 + 8, 1 << 62, math.MinInt, math.MinInt + 1, math.MinInt + 40, math.MaxInt}
}

func inside() []int {
	return []int{0, 1, 2, 15, 16, 17, 18, 40, 1000, 1 << 20, greatest - 1, greatest}
}

func TestExamples_12_6(t *testing.T) {
	s := made(t, 40)
	expect(t, s,
		image(), "S",
		put("a", "123"), 0, put("b", "123"), 0, put("c", ""), 122,
		put("a", "1234"), 122, put("a", "12"), 0, tell(), "3 39 40 false 0",
		get("a"), "2 12 0", get("c"), "0  123", get(""), "0  120", cut("c"), 123,
		sync(), 0, image(), "S\x01a\x00\x00\x00\x0212\x01b\x00\x00\x00\x03123",
	)
}

// exampleStore is the store of the chapter's examples behind their Sync, with the three writes pending.
func exampleStore(t *testing.T) *Store {
	t.Helper()
	return of(t, made(t, 40), put("a", "12"), put("b", "123"), sync(), cut("a"), put("a", "9"), cut("b"))
}

func TestExamples_12_11(t *testing.T) {
	for _, row := range []struct {
		keep, keys, a, b string
	}{
		{"\x01\x00\x01", `[]`, "0  123", "0  123"},
		{"\x01", `["a"]`, "1 9 0", "0  123"},
		{"\x02", `["a" "b"]`, "2 12 0", "3 123 0"},
		{"\x00\x01\x00", `["a" "b"]`, "1 9 0", "3 123 0"},
		{"", `["a" "b"]`, "2 12 0", "3 123 0"},
	} {
		s := exampleStore(t)
		expect(t, s, tell(), "3 18 40 false 0", crash(row.keep), "", keys(""), row.keys, get("a"), row.a, get("b"), row.b)
	}
}

func TestExamples_12_9(t *testing.T) {
	s := exampleStore(t)
	expect(t, s,
		sync(), 0,
		arm(2), "", put("a", "1"), 0, get("a"), "1 1 0", put("b", "1"), 124, tell(), "2 36 40 true 0", get("a"), "0  124", sync(), 124, tell(), "2 36 40 true 0",
		crash("\x01"), "", get("b"), "1 1 0", tell(), "0 36 40 false 1",
		put("a", "7"), 0, arm(1), "", sync(), 124, crash("\x01"), "", get("a"), "1 7 0", tell(), "0 36 40 false 2",
		arm(1), "", put("", "x"), 120, cut("zzz"), 123, put("a", "1"), 124,
	)
}

func TestExamples_12_2(t *testing.T) {
	for _, row := range []struct {
		image    string
		capacity int
		e        api.Errno
	}{{"T", 9, 125}, {"S", -1, 10}, {"S", 0, 0}} {
		if s, e := Open(row.image, row.capacity); e != row.e || (s != nil) != (e == api.OK) {
			t.Errorf("Open(%q, %d) = %v, %d, want %d", row.image, row.capacity, s != nil, e, row.e)
		}
	}
}

func TestNew_12_1(t *testing.T) {
	for _, c := range outside() {
		if New(c) != nil {
			t.Errorf("New(%d) is a store", c)
		}
	}
	for _, c := range inside() {
		s := made(t, c)
		same(t, s, modelOf(c), c)
		if s.Image() != "S" || s.Keys("") != nil && len(s.Keys("")) != 0 || s.Pending() != 0 || s.Used() != 0 || s.Room() != c || s.Down() || s.Age() != 0 {
			t.Errorf("New(%d) is %s", c, all(s))
		}
		expect(t, s, sync(), 0, sync(), 0, sync(), 0, cut("a"), 123)
	}
}

func TestNewIsNothingArmed_12_1(t *testing.T) {
	s := made(t, 1000)
	for i := range 50 {
		expect(t, s, put("a", fmt.Sprint(i)), 0, sync(), 0, cut("a"), 0)
	}
}

func TestOpenCapacity_12_2(t *testing.T) {
	whole := written([]pair{{"a", "xy"}, {"b", ""}})
	for _, c := range outside() {
		for _, b := range []string{"S", whole, "", "T", "S\x00", whole + "x"} {
			if s, e := Open(b, c); s != nil || e != api.ErrRange {
				t.Errorf("Open(%q, %d) = %v, %d", b, c, s != nil, e)
			}
		}
	}
	for _, c := range inside() {
		same(t, opened(t, "S", c), modelOf(c), c)
		same(t, opened(t, whole, c), modelOf(c, pair{"a", "xy"}, pair{"b", ""}), c)
		if s, e := Open(whole+"x", c); s != nil || e != api.ErrImage {
			t.Errorf("Open of no image, %d = %v, %d", c, s != nil, e)
		}
	}
}

// pieces are the bytes that short texts are made of: those that may be a length, and letters.
func pieces() string { return "S\x00\x01\x02ab" }

// images are all images of at most so many bytes with keys and data of at most two of these bytes.
func images(most int) map[string]bool {
	found := map[string]bool{}
	var texts []string
	for n := range 3 {
		texts = append(texts, textsOf(n, pieces())...)
	}
	var grow func(list []pair)
	grow = func(list []pair) {
		b := written(list)
		if len(b) > most || found[b] {
			return
		}
		found[b] = true
		for _, key := range texts {
			if key == "" || len(list) > 0 && key <= list[len(list)-1].key {
				continue
			}
			for _, data := range texts {
				if len(b)+5+len(key)+len(data) <= most {
					grow(append(slices.Clip(list), pair{key, data}))
				}
			}
		}
	}
	grow(nil)
	return found
}

// textsOf are all texts of n of these bytes.
func textsOf(n int, bytes string) []string {
	list := []string{""}
	for range n {
		var longer []string
		for _, s := range list {
			for i := range len(bytes) {
				longer = append(longer, s+bytes[i:i+1])
			}
		}
		list = longer
	}
	return list
}

func TestOpenShort_12_2(t *testing.T) {
	const most = 8
	right := images(most)
	taken := 0
	look := func(b string) {
		s, e := Open(b, 100)
		switch {
		case right[b] && (e != api.OK || s == nil || s.Image() != b):
			t.Fatalf("Open(%q) = %v, %d", b, s != nil, e)
		case !right[b] && (e != api.ErrImage || s != nil):
			t.Fatalf("Open(%q) = %v, %d: no image", b, s != nil, e)
		case right[b]:
			taken++
		}
	}
	for n := range 6 {
		for _, b := range textsOf(n, pieces()) {
			look(b)
		}
	}
	for n := 5; n < most; n++ {
		for _, b := range textsOf(n, "\x00\x01\x02a") {
			look("S" + b)
		}
	}
	if taken < 10 {
		t.Errorf("%d images were among the texts", taken)
	}
}

func TestOpenTwo_12_2(t *testing.T) {
	right := images(15)
	if len(right) < 500 {
		t.Fatalf("%d images", len(right))
	}
	for b := range right {
		if s := opened(t, b, 0); s.Image() != b {
			t.Fatalf("Open(%q) has the image %q", b, s.Image())
		}
		for i := range b {
			for _, with := range []string{"", "\x00", "\x01", "a", b[i:i+1] + b[i:i+1], "\xff"} {
				near := b[:i] + with + b[i+1:]
				s, e := Open(near, 0)
				if got, want := e == api.OK, readable(near); got != want || (s != nil) != want {
					t.Fatalf("Open(%q) = %v, %d", near, s != nil, e)
				}
			}
		}
	}
}

// readable: is it an image? Told by reading it from the left with the library's reader, and writing it again.
func readable(b string) bool {
	if b == "" {
		return false
	}
	var list []pair
	for r := []byte(b)[1:]; len(r) > 0; {
		n := int(r[0])
		if len(r) < 5+n {
			return false
		}
		size := binary.BigEndian.Uint32(r[1+n:])
		if size > longestData || len(r) < 5+n+int(size) || n < 1 || n > longestKey {
			return false
		}
		list = append(list, pair{string(r[1 : 1+n]), string(r[5+n : 5+n+int(size)])})
		r = r[5+n+int(size):]
	}
	for i := range list {
		for k := range i {
			if list[i].key == list[k].key {
				return false
			}
		}
	}
	return written(list) == b
}

func TestOpenLengths_12_2(t *testing.T) {
	for _, n := range []int{0, 1, 2, 63, 64, 65, 66, 127, 128, 255} {
		b := "S" + string([]byte{byte(n)}) + long(n) + "\x00\x00\x00\x01z"
		s, e := Open(b, 9)
		if good := 1 <= n && n <= longestKey; (e == api.OK) != good || (s != nil) != good || !good && e != api.ErrImage {
			t.Errorf("a key of %d bytes: %v, %d", n, s != nil, e)
		}
	}
	for _, n := range []int{0, 1, 255, 256, 257, 65535, 65536, longestData - 1, longestData, longestData + 1, longestData + 256, 1 << 24} {
		b := string(binary.BigEndian.AppendUint32([]byte("S\x01k"), uint32(n))) + long(n)
		s, e := Open(b, 9)
		if good := n <= longestData; (e == api.OK) != good || (s != nil) != good || !good && e != api.ErrImage {
			t.Errorf("data of %d bytes: %v, %d", n, s != nil, e)
		} else if good && (s.Image() != b || s.Used() != 17+n || s.Pending() != 0) {
			t.Errorf("data of %d bytes are another image", n)
		}
		for _, near := range []string{b + "x", b[:max(len(b)-1, 7-1)]} {
			if s, e := Open(near, 9); s != nil || e != api.ErrImage {
				t.Errorf("data of %d bytes, told as others: %v, %d", n, s != nil, e)
			}
		}
	}
	for _, length := range []string{"\xff\xff\xff\xff", "\x80\x00\x00\x00", "\x00\x10\x00\x01", "\x7f\xff\xff\xff", "\x01\x00\x00\x00", "\x00\x01\x00\x00", "\x00\x00\x01\x00", "\x00\x00\x00\x04"} {
		if s, e := Open("S\x01k"+length+"xyz", 9); s != nil || e != api.ErrImage {
			t.Errorf("a length of %x ahead of three bytes: %v, %d", length, s != nil, e)
		}
	}
}

func TestOpenMark_12_2(t *testing.T) {
	body := written([]pair{{"a", "xy"}})[1:]
	for c := range 256 {
		mark := string([]byte{byte(c)})
		for _, b := range []string{mark, mark + body, mark + "S", mark + "S" + body} {
			s, e := Open(b, 9)
			if good := c == 'S' && (b == mark || b == mark+body); (e == api.OK) != good || (s != nil) != good || !good && e != api.ErrImage {
				t.Errorf("Open(%q) = %v, %d", b, s != nil, e)
			}
		}
	}
}

func TestOpenOrder_12_2(t *testing.T) {
	list := []string{"\x00", "\x00\x00", "a", "a\x00", "aa", "ab", "b", "b" + long(63), "\x7f", "\x80", "\xff", "\xff\x00", "\xff\xff"}
	for i, x := range list {
		for k, y := range list {
			for _, z := range append([]string{""}, list...) {
				b, at := "S", 0
				for _, key := range []string{x, y, z} {
					if key != "" {
						b += written([]pair{{key, fmt.Sprint(at)}})[1:]
					}
					at++
				}
				good := i < k && (z == "" || y < z)
				s, e := Open(b, 9)
				if (e == api.OK) != good || (s != nil) != good || !good && e != api.ErrImage {
					t.Fatalf("Open of the keys %q, %q, %q = %v, %d", x, y, z, s != nil, e)
				}
				if good && s.Image() != b {
					t.Fatalf("the keys %q, %q, %q are another image", x, y, z)
				}
			}
		}
	}
}

func TestOpenIsDurable_12_2(t *testing.T) {
	list := []pair{{"a", "1"}, {"b", ""}, {"bb", "22"}, {"c", long(300)}}
	for _, capacity := range []int{0, 100, sum(list), 1000} {
		for _, keep := range []string{"", "\x00", "\x01"} {
			s, m := opened(t, written(list), capacity), modelOf(capacity, list...)
			steady(t, s, m, crash(keep), sync(), put("a", "2"), put("bb", "333"), cut("b"), crash(keep), put("z", ""), cut("c"), put("z", "1"), sync(), crash(""))
		}
	}
	s := opened(t, written(list), 0)
	expect(t, s, tell(), fmt.Sprint("0 ", sum(list), " 0 false 0"), put("z", ""), 122, put("c", long(301)), 122, put("c", long(300)), 0, put("c", long(299)), 0, put("c", long(300)), 122)
}

// sizedKeys are keys of many lengths and bytes, in no order.
func sizedKeys() []string {
	list := []string{"b", "a", "ab", "a\x00", "a\xff", "\xff", "\x00", "\x80", "\x7f", "\xff\x00", "B\x00\x00", "é", long(1), long(2), long(63), long(64), "y" + long(62), "S", "T"}
	for i := range 40 {
		list = append(list, fmt.Sprintf("%c%d", 'k'-i%5, i*7%40))
	}
	return list
}

func TestImage_12_3(t *testing.T) {
	s, m := made(t, 1<<22), modelOf(1<<22)
	for i, k := range sizedKeys() {
		steady(t, s, m, put(k, long(i*i)), sync())
		if got := s.Image(); !readable(got) || got != written(m.durable) {
			t.Fatalf("behind %q the image is %s", k, short(got))
		}
	}
	before := s.Image()
	for i, k := range sizedKeys() {
		if i%2 == 0 {
			play(t, s, m, put(k, "other"))
		} else {
			play(t, s, m, cut(k))
		}
		if s.Image() != before {
			t.Fatalf("a write that is pending, of %q, is in the image", k)
		}
	}
	steady(t, s, m, sync())
	for _, k := range s.Keys("") {
		steady(t, s, m, cut(k), sync())
	}
	expect(t, s, image(), "S")
}

func TestImageLengths_12_3(t *testing.T) {
	for _, n := range []int{0, 1, 2, 255, 256, 257, 65535, 65536, 65537, 1 << 17, longestData - 1, longestData} {
		s := of(t, made(t, 1<<22), put("k", long(n)), sync())
		want := "S\x01k" + string([]byte{byte(n >> 24), byte(n >> 16), byte(n >> 8), byte(n)}) + long(n)
		if s.Image() != want {
			t.Errorf("the image of data of %d bytes is %s", n, short(s.Image()))
		}
	}
	for _, n := range []int{1, 2, 10, 63, 64} {
		s := of(t, made(t, 1<<22), put(long(n), "d"), sync())
		if want := "S" + string([]byte{byte(n)}) + long(n) + "\x00\x00\x00\x01d"; s.Image() != want {
			t.Errorf("the image of a key of %d bytes is %s", n, short(s.Image()))
		}
	}
}

func wrongKeys() []string {
	return []string{"", long(65), long(66), long(128), long(256), long(257), long(320), long(65536 + 1), strings.Repeat("\x00", 65)}
}

func rightKeys() []string {
	return []string{"a", "\x00", "\xff", "ab", long(2), long(63), long(64), strings.Repeat("\x00", 64), "\n", "é"}
}

func TestGet_12_4(t *testing.T) {
	s, m := made(t, 5000), modelOf(5000)
	for i, k := range rightKeys() {
		play(t, s, m, get(k), put(k, long(i)), get(k), put(k, long(i+1)+"y"), get(k))
	}
	for _, k := range rightKeys() {
		play(t, s, m, get(k), get(k+"z"), cut(k), get(k))
	}
	for _, k := range wrongKeys() {
		play(t, s, m, get(k))
		if x, e := s.Get(k); x != "" || e != api.ErrKey {
			t.Errorf("Get of a key of %d bytes = %q, %d", len(k), x, e)
		}
	}
	expect(t, s, put("e", ""), 0, get("e"), "0  0", arm(1), "", sync(), 124)
	for _, k := range append(wrongKeys(), append(rightKeys(), "e")...) {
		if x, e := s.Get(k); x != "" || e != api.ErrDown {
			t.Errorf("without power Get(%.9q) = %q, %d", k, x, e)
		}
	}
}

func TestKeys_12_5(t *testing.T) {
	s, m := made(t, 1<<20), modelOf(1<<20)
	for i, k := range sizedKeys() {
		play(t, s, m, put(k, ""), keys(""), keys(k), keys(k[:1]), keys(k+"z"))
		if i%3 == 0 {
			play(t, s, m, sync())
		}
	}
	for _, p := range append(sizedKeys(), "", "zz", long(65), long(64), long(66), long(1000), "\xff\xff", "\x00\x00", "k1", "k", "j3", "S") {
		play(t, s, m, keys(p))
		for _, k := range s.Keys(p) {
			if !strings.HasPrefix(k, p) {
				t.Errorf("Keys(%q) has %q", p, k)
			}
		}
	}
	if !slices.IsSorted(s.Keys("")) || len(s.Keys("")) < 50 {
		t.Errorf("Keys = %q", s.Keys(""))
	}
	of(t, s, arm(1))
	s.Sync()
	for _, p := range append(sizedKeys(), "") {
		if list := s.Keys(p); len(list) != 0 {
			t.Errorf("without power Keys(%q) = %q", p, list)
		}
	}
	play(t, s, func() *model { m.Arm(1); m.Sync(); return m }(), crash("\x01"), keys(""))
}

func TestKeysIsNewMemory_12_5(t *testing.T) {
	s := of(t, made(t, 1000), put("a", "1"), put("b", "2"), put("c", "3"))
	one, two := s.Keys(""), s.Keys("")
	for i := range one[:cap(one)] {
		one[:cap(one)][i] = "spoilt"
	}
	_ = append(one, "more")
	if fmt.Sprint(two) != "[a b c]" || fmt.Sprint(s.Keys("")) != "[a b c]" {
		t.Errorf("a list that was written into changed another: %q, %q", two, s.Keys(""))
	}
	expect(t, s, get("a"), "1 1 0", get("spoilt"), "0  123", tell(), "3 54 1000 false 0")
	for _, p := range []string{"a", "b"} {
		x := s.Keys(p)
		x[0] = "spoilt"
	}
	expect(t, s, keys(""), `["a" "b" "c"]`)
}

// TestPutRefusals_12_6: Puts with every row of faults, and which one is answered.
func TestPutRefusals_12_6(t *testing.T) {
	for fault := range 16 {
		off, badKey, bad, full := fault&1 > 0, fault&2 > 0, fault&4 > 0, fault&8 > 0
		for _, emptyKey := range []bool{false, true} {
			capacity := 3<<20 + 1000
			s := of(t, made(t, capacity), put("o", long(longestData)), put("p", long(longestData)), sync(), put("k", "old"))
			if full {
				of(t, s, put("q", long(longestData)))
				of(t, s, put("r", long(capacity-s.Used()-overhead-1)))
				if s.Used() != capacity {
					t.Fatal("it is not full")
				}
			}
			key, data := "k", "young"
			if badKey {
				key = long(65)
			}
			if badKey && emptyKey {
				key = ""
			}
			if bad {
				data = long(longestData + 1)
			}
			want := api.OK
			switch {
			case off:
				want = api.ErrDown
			case badKey:
				want = api.ErrKey
			case bad:
				want = api.ErrBig
			case full:
				want = api.ErrFull
			}
			pending, used := s.Pending(), s.Used()
			if off {
				s.Arm(1)
				s.Sync()
			}
			before := all(s, "k", "zzz")
			if e := s.Put(key, data); e != want {
				t.Errorf("Put with the faults %04b = %d, want %d", fault, e, want)
			}
			if want != api.OK && all(s, "k", "zzz") != before {
				t.Errorf("Put with the faults %04b was refused, and did something", fault)
			}
			if want == api.OK && (s.Pending() != pending+1 || s.Used() != used+2) {
				t.Errorf("Put is not pending: %d, %d", s.Pending(), s.Used())
			}
		}
	}
}

func TestPutKeys_12_6(t *testing.T) {
	s, m := made(t, 1<<20), modelOf(1<<20)
	for _, k := range rightKeys() {
		steady(t, s, m, put(k, "1"), get(k), put(k, ""), get(k))
	}
	for _, k := range wrongKeys() {
		steady(t, s, m, put(k, "1"), put(k, ""), put(k, long(longestData+1)))
	}
}

func TestPutBig_12_6(t *testing.T) {
	s := made(t, greatest)
	for _, n := range []int{0, 1, longestData - 1, longestData} {
		if e := s.Put("k", long(n)); e != api.OK {
			t.Errorf("Put of %d bytes = %d", n, e)
		}
		if x, e := s.Get("k"); len(x) != n || e != api.OK || s.Used() != 17+n {
			t.Errorf("Put of %d bytes is not there: %d, %d, %d", n, len(x), e, s.Used())
		}
	}
	pending := s.Pending()
	for _, n := range []int{longestData + 1, longestData + 2, 2 * longestData, 1 << 24, 1<<24 + 1} {
		if e := s.Put("k", long(n)); e != api.ErrBig || s.Used() != 17+longestData || s.Pending() != pending {
			t.Errorf("Put of %d bytes = %d", n, e)
		}
	}
	small := made(t, 10)
	expect(t, small, put("k", long(longestData)), 122, put("k", long(longestData+1)), 121, put("", long(longestData+1)), 120)
}

func TestPutFull_12_6(t *testing.T) {
	for capacity := range 80 {
		for key := 1; key < 4; key++ {
			for data := range 64 {
				s, m := made(t, capacity), modelOf(capacity)
				play(t, s, m, put(long(key), long(data)))
				if good := key+data+overhead <= capacity; (s.Used() > 0) != good {
					t.Fatalf("capacity %d, key %d, data %d: used %d", capacity, key, data, s.Used())
				}
				play(t, s, m, put(long(key), long(data)+"1"), put("o", "2"), put(long(key), long(max(0, data-1))), put("o", ""), cut("o"), put("o", "2"))
			}
		}
	}
}

func TestPutAbove_12_6(t *testing.T) {
	// with more there than the capacity a Put goes just if there is not more behind it
	for capacity := range 60 {
		for old := range 6 {
			for young := range 8 {
				list := []pair{{"a", "12345"}, {"b", long(old)}}
				s, m := opened(t, written(list), capacity), modelOf(capacity, list...)
				play(t, s, m, put("b", long(young)), put("b", long(young)), put("c", ""), cut("a"), put("b", long(young+1)), put("c", ""))
			}
		}
	}
	for _, capacity := range []int{0, 20, 39} {
		s := of(t, made(t, 40), put("a", "123"), put("b", "123"), sync())
		s = opened(t, s.Image(), capacity)
		expect(t, s, put("b", "1234"), 122, put("b", "456"), 0, get("b"), "3 456 0", put("b", "45"), 0, put("b", "456"), map[bool]int{true: 0, false: 122}[capacity >= 40])
	}
}

func TestPutSame_12_6(t *testing.T) {
	s := made(t, 100)
	for i := range 100 {
		expect(t, s, put("a", "1"), 0, tell(), fmt.Sprint(i+1, " 18 100 false 0"))
	}
	expect(t, s, image(), "S", sync(), 0, image(), "S\x01a\x00\x00\x00\x011", tell(), "0 18 100 false 0")
}

func TestCut_12_7(t *testing.T) {
	for fault := range 8 {
		off, badKey, none := fault&1 > 0, fault&2 > 0, fault&4 > 0
		for _, wrong := range wrongKeys() {
			s := of(t, made(t, 1000), put("k", "1"), put("o", "1"), sync(), put("k", "2"))
			key := "k"
			if none {
				key = "n"
			}
			if badKey {
				key = wrong
			}
			want := api.OK
			switch {
			case off:
				want = api.ErrDown
			case badKey:
				want = api.ErrKey
			case none:
				want = api.ErrNone
			}
			if off {
				s.Arm(1)
				s.Sync()
			}
			before := all(s)
			if e := s.Cut(key); e != want {
				t.Errorf("Cut with the faults %03b = %d, want %d", fault, e, want)
			}
			if want != api.OK && all(s) != before {
				t.Errorf("Cut with the faults %03b was refused, and did something", fault)
			}
			if want == api.OK {
				expect(t, s, tell(), "2 18 1000 false 0", get("k"), "0  123", keys(""), `["o"]`, cut("k"), 123, tell(), "2 18 1000 false 0", image(), "S\x01k\x00\x00\x00\x011\x01o\x00\x00\x00\x011")
			}
		}
	}
}

func TestCutOfEmptyData_12_7(t *testing.T) {
	s := made(t, 100)
	expect(t, s, put("a", ""), 0, cut("a"), 0, cut("a"), 123, put("a", ""), 0, sync(), 0, cut("a"), 0, get("a"), "0  123", tell(), "1 0 100 false 0", crash(""), "", get("a"), "0  0", tell(), "0 17 100 false 1")
}

func TestSync_12_8(t *testing.T) {
	s, m := made(t, 1000), modelOf(1000)
	steady(t, s, m, sync(), put("a", "1"), put("b", "2"), sync(), crash(""), put("a", "3"), cut("b"), put("c", ""), sync(), crash(""), cut("a"), cut("c"), put("a", "4"), cut("a"), sync(), crash("\x01"), sync(), sync())
	expect(t, s, image(), "S", arm(1), "", sync(), 124, sync(), 124, tell(), "0 0 1000 true 3")
}

// writes are rows of writes that all go behind one another from a store with a and b.
func writes() []call {
	return []call{put("a", "1"), cut("a"), put("c", ""), put("a", "22"), put("b", ""), cut("b"), put("b", "3"), cut("c"), put("d", "4")}
}

func begun(t *testing.T) (*Store, *model) {
	t.Helper()
	list := []pair{{"a", "old"}, {"b", "older"}}
	s := of(t, made(t, 300), put("a", "old"), put("b", "older"), sync())
	m := modelOf(300, list...)
	same(t, s, m, "the beginning")
	return s, m
}

func TestArm_12_9(t *testing.T) {
	row := append(writes(), sync(), put("a", "5"), sync(), sync(), cut("a"))
	for n := -2; n <= len(row)+3; n++ {
		for before := range 3 {
			s, m := begun(t)
			steady(t, s, m, writes()[:before]...)
			steady(t, s, m, arm(n))
			steady(t, s, m, row[before:]...)
			if down := n >= 1 && n <= len(row)-before; s.Down() != down {
				t.Fatalf("Arm(%d), %d calls: Down is %v", n, len(row)-before, s.Down())
			}
			steady(t, s, m, crash("\x01\x00\x01"), put("a", "6"), sync())
		}
	}
}

func TestArmCountsTheN_12_9(t *testing.T) {
	for n := 1; n < 40; n++ {
		for kind := range 3 {
			s := of(t, made(t, 100), put("a", "1"), arm(n))
			for i := 1; i <= n; i++ {
				var e api.Errno
				switch {
				case kind == 0:
					e = s.Put("a", "2")
				case kind == 1:
					e = s.Sync()
				case i%2 == 1:
					e = s.Cut("a")
				default:
					e = s.Put("a", "3")
				}
				want := api.OK
				if i == n {
					want = api.ErrDown
				}
				if e != want || s.Down() != (i == n) {
					t.Fatalf("Arm(%d): call %d answers %d", n, i, e)
				}
			}
		}
	}
}

func TestArmRefusedDoesNotCount_12_9(t *testing.T) {
	s := of(t, made(t, 60), put("a", "1"), put("b", "1"), sync())
	for n := 1; n < 5; n++ {
		of(t, s, arm(n))
		for i := 1; i <= n; i++ {
			for range 3 {
				expect(t, s, put("", "x"), 120, put(long(65), "x"), 120, put("a", long(longestData+1)), 121, put("c", long(20)), 122, cut(""), 120, cut("zzz"), 123, cut(long(65)), 120,
					get("a"), "1 1 0", get("zzz"), "0  123", get(""), "0  120", keys(""), `["a" "b"]`, keys("b"), `["b"]`)
				s.Image()
				s.Pending()
				s.Used()
				s.Room()
				s.Down()
				s.Age()
			}
			want := 0
			if i == n {
				want = 124
			}
			expect(t, s, put("a", "1"), want)
		}
		s.Crash("")
	}
}

func TestArmAgain_12_9(t *testing.T) {
	for _, first := range []int{-5, 0, 1, 2, 3, 9, math.MaxInt} {
		for _, second := range []int{math.MinInt, -1, 0, 1, 2, 3, 5, math.MaxInt} {
			for between := range 3 {
				s, m := begun(t)
				play(t, s, m, arm(first))
				play(t, s, m, writes()[:between]...)
				play(t, s, m, arm(second))
				steady(t, s, m, writes()[between:]...)
				steady(t, s, m, sync(), crash("\x01"), put("a", ""), sync(), sync(), put("a", ""), sync())
			}
		}
	}
}

func TestArmWhileOff_12_9(t *testing.T) {
	for _, n := range []int{-1, 0, 1, 2, 3, math.MaxInt} {
		s, m := begun(t)
		steady(t, s, m, put("a", "1"), arm(1), put("b", "1"), arm(n), put("a", "2"), sync(), arm(n), crash("\x01"), put("a", "3"), put("a", "4"), sync(), put("a", "5"), sync(), sync())
		if s.Down() {
			t.Errorf("Arm(%d) while the power was off is armed behind it", n)
		}
	}
}

func TestArmIsForgottenByCrash_12_11(t *testing.T) {
	for n := 1; n < 5; n++ {
		s, m := begun(t)
		steady(t, s, m, arm(n+1), put("a", "1"), crash("\x01"), put("a", "2"), put("a", "3"), sync(), put("a", "4"), sync(), sync(), sync())
		if s.Down() {
			t.Errorf("Arm(%d) is armed behind a Crash", n+1)
		}
	}
}

func TestArmedWriteIsDone_12_9(t *testing.T) {
	for _, last := range []call{put("a", "new"), put("c", ""), put("b", "older"), cut("a"), cut("b")} {
		for _, keep := range []string{"", "\x00", "\x01", "\x00\x01", "\x01\x00"} {
			s, m := begun(t)
			steady(t, s, m, put("b", "x"), arm(1), last)
			if !s.Down() || s.Pending() != 2 {
				t.Fatalf("%v: Down %v, pending %d", last, s.Down(), s.Pending())
			}
			steady(t, s, m, crash(keep), get("a"), get("b"), get("c"))
		}
	}
}

func TestOff_12_10(t *testing.T) {
	s, m := begun(t)
	steady(t, s, m, put("a", "1"), cut("b"), arm(2), put("c", "1"), sync())
	want := "3 36 300 true 0"
	shot := "S\x01a\x00\x00\x00\x03old\x01b\x00\x00\x00\x05older"
	for range 3 {
		expect(t, s, tell(), want, image(), shot, get("a"), "0  124", get("zzz"), "0  124", get(""), "0  124", put("a", "1"), 124, put("", ""), 124, put("a", long(longestData+1)), 124, put("z", long(1000)), 124, cut("a"), 124, cut("zzz"), 124, cut(""), 124, sync(), 124, keys(""), "[]", keys("a"), "[]", tell(), want, image(), shot)
	}
	steady(t, s, m, put("a", "9"), cut("a"), sync(), arm(4), keys("a"), get("a"), crash("\x01"), get("a"), get("c"))
	expect(t, s, tell(), "0 36 300 false 1")
}

// keeps are all texts of so many bytes that are 0 or 1.
func keeps(n int) []string { return textsOf(n, "\x00\x01") }

func TestCrashEverySubset_12_11(t *testing.T) {
	for n := range len(writes()) + 1 {
		for _, keep := range keeps(n) {
			for _, off := range []bool{false, true} {
				s, m := begun(t)
				play(t, s, m, writes()[:n]...)
				if off {
					play(t, s, m, arm(1), sync())
				}
				play(t, s, m, crash(keep))
				play(t, s, m, put("a", "z"), sync())
			}
		}
	}
}

func TestCrashKeepGoesRound_12_11(t *testing.T) {
	for n := 0; n <= 11; n++ {
		for _, keep := range keeps(n) {
			s, m := begun(t)
			play(t, s, m, writes()...)
			play(t, s, m, crash(keep))
		}
	}
	for _, keep := range []string{long(100), strings.Repeat("\x00", 300) + "\x01", strings.Repeat("\x00\x01\x01", 100), strings.Repeat("\x01", 300)} {
		s, m := begun(t)
		for i := range 500 {
			play(t, s, m, put(fmt.Sprint("k", i%7), ""), put("a", fmt.Sprint(i)))
			if i%100 == 99 {
				break
			}
		}
		steady(t, s, m, crash(keep))
	}
}

func TestCrashBytes_12_11(t *testing.T) {
	for c := range 256 {
		s := of(t, made(t, 100), put("a", "1"), sync(), put("a", "2"))
		s.Crash(string([]byte{byte(c)}))
		want := "1 1 0"
		if c%2 == 1 {
			want = "1 2 0"
		}
		expect(t, s, get("a"), want)
	}
	for a := range 256 {
		b := (a*37 + 11) % 256
		s, m := begun(t)
		play(t, s, m, writes()...)
		play(t, s, m, crash(string([]byte{byte(a), byte(b), byte(a ^ b)})))
	}
}

func TestCrashOfManyWrites_12_11(t *testing.T) {
	const many = 3000
	r := rand.New(rand.NewSource(1))
	for _, length := range []int{1, 2, 3, 7, 255, 256, 257, many - 1, many, many + 1, 3 * many} {
		s := of(t, made(t, 1<<20), put("k0", "old"), put("k1", "old"), sync())
		keep := make([]byte, length)
		r.Read(keep)
		want := map[string]string{"k0": "old", "k1": "old"}
		for i := range many {
			key, data := fmt.Sprint("k", i*i%97), fmt.Sprint(i)
			of(t, s, put(key, data))
			if keep[i%length]%2 == 1 {
				want[key] = data
			}
		}
		if s.Pending() != many {
			t.Fatal(s.Pending())
		}
		s.Crash(string(keep))
		if len(s.Keys("")) != len(want) || s.Pending() != 0 {
			t.Fatalf("keep of %d bytes: %d records, want %d", length, len(s.Keys("")), len(want))
		}
		for key, data := range want {
			if x, e := s.Get(key); x != data || e != api.OK {
				t.Fatalf("keep of %d bytes: Get(%s) = %s, %d, want %s", length, key, x, e, data)
			}
		}
	}
}

func TestCrashAbove_12_11(t *testing.T) {
	s := of(t, made(t, 20), put("a", "123"), sync(), cut("a"), put("b", "123"))
	s.Crash("\x00\x01")
	expect(t, s, tell(), "0 40 20 false 1", put("b", "1234"), 122, put("b", "456"), 0, put("b", "12"), 0, put("b", "123"), 122, tell(), "2 39 20 false 1", cut("a"), 0, put("b", "123"), 0, put("c", ""), 122, sync(), 0, tell(), "0 20 20 false 1")
}

func TestCrashCutOfNothing_12_11(t *testing.T) {
	s := of(t, made(t, 100), put("a", "1"), cut("a"), put("b", "1"), cut("b"), put("b", "2"))
	s.Crash("\x00\x01\x00\x01\x01")
	expect(t, s, keys(""), `["b"]`, get("b"), "1 2 0", tell(), "0 18 100 false 1", image(), "S\x01b\x00\x00\x00\x012")
	of(t, s, cut("b"), sync(), put("z", "1"), cut("z"))
	s.Crash("\x00\x01")
	expect(t, s, keys(""), `[]`, image(), "S", tell(), "0 0 100 false 2")
}

func TestDownAndAge_12_12(t *testing.T) {
	s := made(t, 100)
	for i := range 200 {
		expect(t, s, tell(), fmt.Sprint("0 0 100 false ", i))
		if i%3 == 0 {
			expect(t, s, arm(1), "", sync(), 124, tell(), fmt.Sprint("0 0 100 true ", i))
		}
		if i%5 == 0 {
			expect(t, s, put("a", "1"), map[bool]int{true: 124, false: 0}[i%3 == 0])
		}
		s.Crash("")
	}
}

func TestNumbers_12_13(t *testing.T) {
	for _, capacity := range []int{0, 17, 100, 1000, greatest} {
		s, m := made(t, capacity), modelOf(capacity)
		r := rand.New(rand.NewSource(int64(capacity)))
		for range 300 {
			c := put(fmt.Sprint("k", r.Intn(6)), long(r.Intn(40)))
			switch r.Intn(5) {
			case 0:
				c = cut(fmt.Sprint("k", r.Intn(6)))
			case 1:
				c = sync()
			}
			play(t, s, m, c, tell())
			if s.Used() != sum(m.there()) || s.Room() != capacity || s.Pending() != len(m.after) {
				t.Fatalf("used %d, want %d", s.Used(), sum(m.there()))
			}
			for range 3 {
				if all(s) != all(s) {
					t.Fatal("what is told changes by telling")
				}
			}
		}
	}
}

// TestEveryShortScript_12_10: all rows of few calls out of many.
func TestEveryShortScript_12_10(t *testing.T) {
	letters := []call{put("a", ""), put("a", "1"), put("b", "1"), put("b", long(60)), cut("a"), cut("b"), sync(), arm(1), arm(2), arm(0), crash(""), crash("\x01"), crash("\x00\x01"), put("", "")}
	scripts(t, letters, 4)
}

func TestEveryLongerScript_12_10(t *testing.T) {
	scripts(t, []call{put("a", "1"), put("b", ""), cut("a"), sync(), arm(2), crash("\x01\x00"), crash("\x00\x01\x01")}, 6)
}

func scripts(t *testing.T, letters []call, length int) {
	row := make([]call, length)
	at := make([]int, length)
	for {
		for i, n := range at {
			row[i] = letters[n]
		}
		s, m := New(40), modelOf(40)
		for i, c := range row {
			if got, want := c.say(s), c.say(m); got != want {
				t.Fatalf("%v: call %d = %s, want %s", row, i, got, want)
			}
		}
		if got, want := all(s, "a", "b"), all(m, "a", "b"); got != want {
			t.Fatalf("behind %v: %s, want %s", row, short(got), short(want))
		}
		i := length - 1
		for i >= 0 && at[i] == len(letters)-1 {
			at[i] = 0
			i--
		}
		if i < 0 {
			return
		}
		at[i]++
	}
}

// chance is a call at random, refused ones among them.
func chance(r *rand.Rand) call {
	all := []string{"a", "b", "c", "ab", "abc", "\x00", "\xff", "", long(64), long(65)}
	key := all[r.Intn(len(all))]
	if r.Intn(3) > 0 {
		key = all[r.Intn(5)]
	}
	switch n := r.Intn(100); {
	case n < 50:
		return put(key, long(r.Intn(1+r.Intn(50)))+fmt.Sprint(r.Intn(1000)))
	case n < 65:
		return cut(key)
	case n < 73:
		return sync()
	case n < 78:
		return arm(r.Intn(12) - 2)
	case n < 86:
		keep := make([]byte, r.Intn(10))
		r.Read(keep)
		return crash(string(keep))
	case n < 92:
		return get(key)
	case n < 96:
		return keys(key)
	case n < 98:
		return image()
	default:
		return tell()
	}
}

func TestScriptsByChance_12_10(t *testing.T) {
	for seed := range 300 {
		r := rand.New(rand.NewSource(int64(seed)))
		capacity := []int{0, 17, 40, 100, 300, 1 << 20}[seed%6]
		s, m := made(t, capacity), modelOf(capacity)
		for range 200 {
			c := chance(r)
			if got, want := c.say(s), c.say(m); got != want {
				t.Fatalf("seed %d: %v = %s, want %s", seed, c, short(got), short(want))
			}
			same(t, s, m, c)
		}
	}
}

func TestCutTakesOnlyPending_12_14(t *testing.T) {
	for seed := range 200 {
		r := rand.New(rand.NewSource(int64(seed)))
		s := of(t, made(t, 1<<20), put("a", "d"), put("b", "d"), put("c", "d"), sync())
		could := map[string][]string{"a": {"d"}, "b": {"d"}, "c": {"d"}, "e": {"-"}, "f": {"-"}}
		row := r.Intn(20)
		for i := range row {
			key := []string{"a", "b", "c", "e", "f"}[r.Intn(5)]
			if r.Intn(3) == 0 && s.Cut(key) == api.OK {
				could[key] = append(could[key], "-")
			} else {
				of(t, s, put(key, fmt.Sprint(i)))
				could[key] = append(could[key], fmt.Sprint(i))
			}
		}
		synced, before := s.Image(), now(s)
		pending := s.Pending()
		keep := make([]byte, pending)
		r.Read(keep)
		switch seed % 4 {
		case 0:
			keep = nil
		case 1:
			clear(keep)
		case 2:
			for i := range keep {
				keep[i] |= 1
			}
		}
		s.Crash(string(keep))
		for key, list := range could {
			x, e := s.Get(key)
			if e == api.ErrNone {
				x = "-"
			}
			if !slices.Contains(list, x) {
				t.Fatalf("seed %d: Get(%s) = %q, none of %q", seed, key, x, list)
			}
		}
		if seed%4 < 2 && (s.Image() != synced || now(s) != now(opened(t, synced, 1<<20))) {
			t.Fatalf("seed %d: none survived, and it is %q", seed, now(s))
		}
		if seed%4 == 2 && now(s) != before {
			t.Fatalf("seed %d: all survived, and it is %q, not %q", seed, now(s), before)
		}
		if s.Image() != imageOf(s) {
			t.Fatalf("seed %d: what is there is not durable", seed)
		}
	}
}

// now is what is there, key by key.
func now(s *Store) string {
	out := fmt.Sprint(s.Used())
	for _, k := range s.Keys("") {
		out += " " + k + " " + get(k).say(s)
	}
	return out
}

// imageOf is the image that there would be, were all that is there durable.
func imageOf(s *Store) string {
	var list []pair
	for _, k := range s.Keys("") {
		x, _ := s.Get(k)
		list = append(list, pair{k, x})
	}
	return written(list)
}

func TestCrashTwice_12_15(t *testing.T) {
	for _, a := range []string{"", "\x01", "\x00\x01", "\x01\x01\x00", "\x02"} {
		for _, b := range []string{"", "\x01", "\x00", "\x01\x00"} {
			for _, off := range []bool{false, true} {
				once, _ := begun(t)
				twice, _ := begun(t)
				for _, s := range []*Store{once, twice} {
					of(t, s, writes()...)
					if off {
						s.Arm(1)
						s.Sync()
					}
					s.Crash(a)
				}
				was := now(once)
				twice.Arm(2)
				twice.Crash(b)
				if once.Age() != 1 || twice.Age() != 2 || now(twice) != was || twice.Image() != once.Image() || twice.Down() || twice.Pending() != 0 {
					t.Fatalf("Crash(%q), Crash(%q): %s, want %s", a, b, all(twice), all(once))
				}
				for _, s := range []*Store{once, twice} {
					of(t, s, put("a", "new"), put("q", "new"), sync(), sync(), cut("a"))
				}
				if now(once) != now(twice) || once.Image() != twice.Image() {
					t.Fatalf("behind Crash(%q), Crash(%q) it goes on otherwise", a, b)
				}
			}
		}
	}
}

func TestCrashOfNothing_12_15(t *testing.T) {
	for _, keep := range []string{"", "\x00", "\x01", "\x01\x00", long(99)} {
		s := of(t, made(t, 100), put("a", "1"), put("b", "2"), sync(), arm(2))
		shot := s.Image()
		for age := range 5 {
			expect(t, s, tell(), fmt.Sprint("0 36 100 false ", age))
			s.Crash(keep)
			expect(t, s, image(), shot, get("a"), "1 1 0", get("b"), "1 2 0", keys(""), `["a" "b"]`)
		}
		expect(t, s, put("a", "1"), 0, put("a", "1"), 0, sync(), 0, arm(1), "", sync(), 124)
		s.Crash(keep)
		expect(t, s, tell(), "0 36 100 false 6", image(), shot, sync(), 0, sync(), 0)
	}
}

// TestOpenIsCrash_12_16: at every place of many scripts the store is opened anew from its image, and goes on as one does whose power was cut.
func TestOpenIsCrash_12_16(t *testing.T) {
	for seed := range 40 {
		r := rand.New(rand.NewSource(int64(1000 + seed)))
		capacity := []int{0, 40, 100, 300, 1 << 20}[seed%5]
		var row []call
		for range 40 {
			row = append(row, chance(r))
		}
		for at := range len(row) {
			s := made(t, capacity)
			for _, c := range row[:at] {
				c.say(s)
			}
			young := opened(t, s.Image(), capacity)
			s.Crash("")
			age := s.Age()
			for _, c := range append([]call{image()}, row[at:]...) {
				if c.name == "tell" {
					continue
				}
				if got, want := c.say(young), c.say(s); got != want {
					t.Fatalf("seed %d: opened behind %d calls, %v = %s, want %s", seed, at, c, short(got), short(want))
				}
				if young.Age() != s.Age()-age || young.Pending() != s.Pending() || young.Used() != s.Used() || young.Room() != s.Room() || young.Down() != s.Down() || young.Image() != s.Image() {
					t.Fatalf("seed %d: opened behind %d calls, it is %s, want %s", seed, at, short(all(young)), short(all(s)))
				}
			}
		}
	}
}

func TestImageOfOpened_12_17(t *testing.T) {
	r := rand.New(rand.NewSource(7))
	for range 300 {
		var list []pair
		for i := range r.Intn(30) {
			key := make([]byte, 1+r.Intn(64))
			r.Read(key)
			key[0] = byte(i)
			data := make([]byte, r.Intn(1+r.Intn(300)))
			r.Read(data)
			list = append(list, pair{string(key), string(data)})
		}
		b := written(list)
		s := opened(t, b, r.Intn(1000))
		if s.Image() != b || s.Used() != sum(list) || len(s.Keys("")) != len(list) {
			t.Fatalf("Open(%s) is %s", short(b), short(s.Image()))
		}
		for _, p := range list {
			if x, e := s.Get(p.key); x != p.data || e != api.OK {
				t.Fatalf("Get(%q) = %s, %d", p.key, short(x), e)
			}
		}
	}
}

func TestEndsOfImages_12_17(t *testing.T) {
	b := written([]pair{{"a", ""}, {"ab", "xyz"}, {"b" + long(63), long(300)}, {"c", "\x01d\x00\x00\x00\x00"}})
	good := 0
	for i := range len(b) {
		s, e := Open(b[:i], 9)
		if want := readable(b[:i]); (e == api.OK) != want || (s != nil) != want {
			t.Fatalf("Open of the first %d bytes = %d", i, e)
		} else if want {
			good++
			if s.Image() != b[:i] {
				t.Fatalf("Open of the first %d bytes has another image", i)
			}
		}
	}
	if good != 4 {
		t.Errorf("%d beginnings are images", good)
	}
}

func TestSpoiltImages_12_17(t *testing.T) {
	b := written([]pair{{"a", "1"}, {"ab", "xyz"}, {"c", "\x01d\x00\x00\x00\x00"}})
	for i := range len(b) {
		for c := range 256 {
			near := b[:i] + string([]byte{byte(c)}) + b[i+1:]
			s, e := Open(near, 9)
			if want := readable(near) && near[0] == 'S'; (e == api.OK) != want || (s != nil) != want || want && s.Image() != near || !want && e != api.ErrImage {
				t.Fatalf("Open(%q) = %v, %d", near, s != nil, e)
			}
		}
	}
}

// TestPowerAtEveryWrite_12_14: the power goes at every write and Sync of a script, whatever of the pending writes survives, and the store is opened anew from every image.
func TestPowerAtEveryWrite_12_14(t *testing.T) {
	row := []call{put("a", "1"), put("b", "1"), sync(), put("a", "2"), cut("b"), put("c", "1"), cut("a"), put("b", "3"), sync(), cut("c"), put("a", "4"), sync(), put("d", "5"), put("d", "6"), cut("d")}
	for n := 1; n <= len(row); n++ {
		s, m := made(t, 200), modelOf(200)
		play(t, s, m, arm(n))
		play(t, s, m, row...)
		pending := s.Pending()
		for _, keep := range append(keeps(pending), "") {
			s, m := made(t, 200), modelOf(200)
			play(t, s, m, arm(n))
			play(t, s, m, row...)
			if !s.Down() || s.Pending() != pending {
				t.Fatalf("at %d: %s", n, all(s))
			}
			play(t, s, m, crash(keep))
			again, list := opened(t, s.Image(), 200), m.durable
			same(t, again, modelOf(200, list...), keep)
			if again.Image() != s.Image() || now(again) != now(s) {
				t.Fatalf("at %d, Crash(%q): opened anew it is %s", n, keep, all(again))
			}
			play(t, s, m, row[n:]...)
			play(t, again, modelOf(200, list...), row[n:]...)
		}
	}
}

func TestTwoStores_12_1(t *testing.T) {
	for seed := range 60 {
		r := rand.New(rand.NewSource(int64(5000 + seed)))
		start := written([]pair{{"a", "1"}, {"c", "2"}})
		one, two := opened(t, start, 100), opened(t, start, 100)
		first, second := modelOf(100, pair{"a", "1"}, pair{"c", "2"}), modelOf(100, pair{"a", "1"}, pair{"c", "2"})
		if seed%2 == 0 {
			one, two, first, second = made(t, 60), made(t, 90), modelOf(60), modelOf(90)
		}
		for range 100 {
			play(t, one, first, chance(r))
			same(t, two, second, "the other one")
			play(t, two, second, chance(r))
			same(t, one, first, "the other one")
		}
	}
}

func TestSameTwice_R2(t *testing.T) {
	for seed := range 20 {
		var answers []string
		for range 3 {
			r := rand.New(rand.NewSource(int64(9000 + seed)))
			s := made(t, 3000)
			var said strings.Builder
			for i := range 300 {
				c := chance(r)
				if i%3 == 0 {
					c = put(fmt.Sprint("k", r.Intn(50)), fmt.Sprint(i))
				}
				said.WriteString(c.say(s) + "|" + all(s))
			}
			answers = append(answers, said.String())
		}
		if answers[0] != answers[1] || answers[0] != answers[2] {
			t.Fatalf("seed %d: one script, unlike answers", seed)
		}
	}
}

func TestManyRecords(t *testing.T) {
	const many = 100000
	s := made(t, greatest)
	for i := range many {
		if e := s.Put(fmt.Sprintf("%07d", i*7919%many), fmt.Sprint(i)); e != api.OK {
			t.Fatal(e)
		}
	}
	list := s.Keys("")
	if len(list) != many || !slices.IsSorted(list) || list[0] != "0000000" || list[many-1] != fmt.Sprintf("%07d", many-1) || len(s.Keys("00123")) != 100 {
		t.Fatalf("%d keys", len(list))
	}
	if s.Image() != "S" || s.Sync() != api.OK || s.Pending() != 0 {
		t.Fatal("it is not synced")
	}
	b := s.Image()
	again := opened(t, b, 0)
	if again.Image() != b || again.Used() != s.Used() {
		t.Fatal("opened anew it is another")
	}
	for i := range many {
		if x, e := again.Get(fmt.Sprintf("%07d", i*7919%many)); x != fmt.Sprint(i) || e != api.OK {
			t.Fatalf("Get %d = %s, %d", i, x, e)
		}
	}
	for i := range 1000 { // a row of small steps beside many records is a row of small steps
		of(t, s, put("x", fmt.Sprint(i)), sync(), put("x", "other"), cut("0000000"))
		s.Crash("")
	}
	expect(t, s, get("x"), "3 999 0", get("0000000"), "1 0 0")
}

func TestManyBytes(t *testing.T) {
	const room = 20 << 20
	s := made(t, room)
	count := 0
	for ; s.Put(fmt.Sprintf("%03d", count), long(longestData)) == api.OK; count++ {
	}
	if count != 19 || s.Used() != 19*(longestData+3+overhead) {
		t.Fatalf("%d records, %d bytes", count, s.Used())
	}
	rest := room - s.Used()
	expect(t, s, put("zzz", long(rest-overhead-2)), 122, put("zzz", long(rest-overhead-3)), 0, put("zzz", long(rest-overhead-2)), 122, put("a", ""), 122, cut("000"), 0, put("a", ""), 0, put("001", ""), 0)
	if s.Sync() != api.OK || len(s.Image()) != 1+s.Used()-(overhead-5)*len(s.Keys("")) {
		t.Errorf("the image has %d bytes", len(s.Image()))
	}
	if again := opened(t, s.Image(), room); now(again) != now(s) {
		t.Error("opened anew it is another")
	}
}

// within: does a text stand in the memory of another one?
func within(part, whole string) bool {
	if part == "" || whole == "" {
		return false
	}
	a, b := uintptr(unsafe.Pointer(unsafe.StringData(part))), uintptr(unsafe.Pointer(unsafe.StringData(whole)))
	return a < b+uintptr(len(whole)) && b < a+uintptr(len(part))
}

// piece is a text of its own memory.
func piece(s string) string { return strings.Clone(s) }

func TestNothingIsHeld_R4(t *testing.T) {
	book := piece("key1data1key2data2")
	s := made(t, 1000)
	of(t, s, put(book[:4], book[4:9]), put(book[9:13], book[13:]), sync(), put(book[:4], book[13:]), cut(book[9:13]))
	shot := piece(s.Image())
	again := opened(t, shot, 1000)
	look := func(s *Store, arguments ...string) {
		t.Helper()
		var told []string
		for _, k := range s.Keys("") {
			x, _ := s.Get(k)
			told = append(told, k, x)
		}
		for _, x := range append(told, s.Image()) {
			for _, a := range arguments {
				if within(x, a) {
					t.Errorf("%q is told out of the memory of %q", x, a)
				}
			}
		}
	}
	look(s, book)
	look(again, shot)
	for _, r := range []records{s.now, s.durable, again.now, again.durable} {
		for k, v := range r {
			for _, a := range []string{book, shot} {
				if within(k, a) || within(v.data, a) {
					t.Errorf("the record %q holds memory of %q", k, a)
				}
			}
		}
	}
	for _, w := range s.pending {
		if within(w.key, book) || within(w.data, book) {
			t.Errorf("the write of %q holds memory of what was handed in", w.key)
		}
	}
	s.Crash("\x01")
	look(s, book)
	if book != "key1data1key2data2" || shot != again.Image() {
		t.Error("what was handed in is another")
	}
}

func TestNothingPendingIsKept_12_8(t *testing.T) {
	s := of(t, made(t, 1000), put("a", "1"), put("b", "1"), sync())
	if cap(s.pending) != 0 {
		t.Errorf("behind a Sync room for %d writes is kept", cap(s.pending))
	}
	of(t, s, put("a", "2"))
	s.Crash("")
	if cap(s.pending) != 0 {
		t.Errorf("behind a Crash room for %d writes is kept", cap(s.pending))
	}
}

// TestNoStore_R1: what New and Open answer where they refuse is asked, too, and so is a store that nobody made.
func TestNoStore_R1(t *testing.T) {
	for range 2 {
		s := New(-1)
		for range 2 {
			expect(t, s, tell(), "0 0 0 true 0", image(), "S", keys(""), "[]", get("a"), "0  124", get(""), "0  124", put("a", "1"), 124, put("", ""), 124, cut("a"), 124, sync(), 124, arm(1), "", arm(-1), "", crash(""), "", crash("\x01"), "")
		}
	}
	if s, _ := Open("T", 9); s != nil || !s.Down() {
		t.Error("no store has power")
	}
	var s Store
	m := modelOf(0)
	steady(t, &s, m, put("a", ""), put("", ""), cut("a"), get("a"), keys(""), sync(), arm(1), sync(), put("a", ""), crash("\x01"), sync(), arm(2), crash(""), sync(), sync())
}
