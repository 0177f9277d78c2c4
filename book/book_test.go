package book

import (
	"bytes"
	"encoding/binary"
	"fmt"
	"hash/crc32"
	"math"
	"math/rand"
	"slices"
	"sort"
	"strings"
	"testing"
	"unsafe"

	"annals/api"
	"annals/store"
)

// The limits, written out, so that the tests do not lean on what they look at.
const (
	longest = 524288
	least   = math.MinInt
	great   = math.MaxInt
)

// edges of spaces and numbers, and of kinds: within the bounds and outside.
var (
	ints  = []int{least, least + 1, -1 << 32, -256, -1, 0, 1, 2, 3, 127, 128, 255, 256, 257, 65535, 65536, 1 << 31, 1 << 32, 1<<32 + 1, 1 << 55, 1 << 56, 1 << 62, great - 1, great}
	kinds = []int{least, -256, -255, -1, 0, 1, 2, 65, 66, 127, 128, 254, 255, 256, 257, 258, 512, 65536, 1 << 32, 1<<32 + 1, 1<<56 + 1, great}
)

func kindGoes(kind int) bool { return kind > 0 && kind < 256 }

// wantKey is 13.1 by the encoder of the library.
func wantKey(space, kind, number int) (string, api.Errno) {
	if min(space, number) < 0 || !kindGoes(kind) {
		return "", 10
	}
	b := binary.BigEndian.AppendUint64([]byte("B"), uint64(space))
	return string(binary.BigEndian.AppendUint64(append(b, byte(kind)), uint64(number))), 0
}

// key is a key that goes.
func key(space, kind, number int) string {
	k, e := wantKey(space, kind, number)
	if e != 0 {
		panic(fmt.Sprint(space, kind, number))
	}
	return k
}

// raw is a frame with whichever parts, its sum that of the library.
func raw(mark, kind byte, number uint64, length uint32, payload string) string {
	b := binary.BigEndian.AppendUint64([]byte{mark, kind}, number)
	b = append(binary.BigEndian.AppendUint32(b, length), payload...)
	return string(binary.BigEndian.AppendUint32(b, crc32.ChecksumIEEE(b)))
}

// wantFrame is 13.2.
func wantFrame(kind, number int, payload string) (string, api.Errno) {
	switch {
	case number < 0, !kindGoes(kind):
		return "", 10
	case len(payload) > longest:
		return "", 121
	}
	return raw(0xa5, byte(kind), uint64(number), uint32(len(payload)), payload), 0
}

// framed is a frame that goes.
func framed(kind, number int, payload string) string {
	b, e := wantFrame(kind, number, payload)
	if e != 0 {
		panic(fmt.Sprint(kind, number, len(payload)))
	}
	return b
}

// parsed is what Parse answers.
type parsed struct {
	kind, number int
	payload      string
	e            api.Errno
}

func (p parsed) String() string {
	return fmt.Sprintf("%d %d %.40q (%d) %d", p.kind, p.number, p.payload, len(p.payload), int(p.e))
}

func parse(b string) parsed {
	kind, number, payload, e := Parse(b)
	return parsed{kind, number, payload, e}
}

// wantParse is 13.3 by the decoder of the library.
func wantParse(b string) parsed {
	if b == "" {
		return parsed{e: 12}
	}
	if b[0] != '\xa5' {
		return parsed{e: 130}
	}
	if len(b) < 14 {
		return parsed{e: 12}
	}
	head := []byte(b[:14])
	kind, number, length := int(head[1]), binary.BigEndian.Uint64(head[2:]), int(binary.BigEndian.Uint32(head[10:]))
	switch {
	case kind == 0:
		return parsed{e: 110}
	case number >= 1<<63:
		return parsed{e: 10}
	case length > longest:
		return parsed{e: 121}
	case len(b) < 18+length:
		return parsed{e: 12}
	case len(b) > 18+length:
		return parsed{e: 111}
	}
	if crc32.ChecksumIEEE([]byte(b[:14+length])) != binary.BigEndian.Uint32([]byte(b[14+length:])) {
		return parsed{e: 131}
	}
	return parsed{kind, int(number), b[14 : 14+length], 0}
}

// looked holds what Parse says of bytes against the oracle, and against what 13.9 promises of bytes that it takes.
func looked(t *testing.T, b string) parsed {
	t.Helper()
	got, want := parse(b), wantParse(b)
	if got != want {
		t.Fatalf("Parse(%.60q, %d bytes) = %v, want %v", b, len(b), got, want)
	}
	if got.e == api.OK {
		if again, e := Frame(got.kind, got.number, got.payload); again != b || e != api.OK {
			t.Fatalf("Parse takes %.60q, and Frame of what it tells is %.60q, %d", b, again, e)
		}
	}
	return got
}

// bytesOf is a text of n bytes, of all kinds of bytes.
func bytesOf(r *rand.Rand, n int) string {
	b := make([]byte, n)
	r.Read(b)
	return string(b)
}

// payloads are texts of many lengths.
func payloads() []string {
	r := rand.New(rand.NewSource(13))
	list := []string{"", "\x00", "\xa5", "ab", "ab\x00", "\x00\x00\x00\x00", strings.Repeat("\xff", 18), framed(2, 3, "ab"), framed(2, 3, "")}
	for _, n := range []int{3, 17, 18, 19, 255, 256, 257, 4096, 65535, 65536} {
		list = append(list, bytesOf(r, n))
	}
	return list
}

func made(t *testing.T, capacity int) *store.Store {
	t.Helper()
	st := store.New(capacity)
	if st == nil {
		t.Fatalf("no store of capacity %d", capacity)
	}
	return st
}

// holding is a store with these keys and data, all of them durable.
func holding(t *testing.T, pairs ...string) *store.Store {
	t.Helper()
	st := made(t, 1<<24)
	for i := 0; i < len(pairs); i += 2 {
		if e := st.Put(pairs[i], pairs[i+1]); e != api.OK {
			t.Fatalf("store.Put(%q) = %d", pairs[i], e)
		}
	}
	if e := st.Sync(); e != api.OK {
		t.Fatalf("store.Sync = %d", e)
	}
	return st
}

// all is everything that a store tells.
func all(st *store.Store) string {
	out := []string{fmt.Sprint(st.Pending(), st.Used(), st.Room(), st.Down(), st.Age()), st.Image()}
	for _, k := range st.Keys("") {
		data, e := st.Get(k)
		out = append(out, k, data, fmt.Sprint(int(e)))
	}
	return strings.Join(out, "|")
}

// unchanged makes calls that may do nothing to the store: neither write nor count as a write.
func unchanged(t *testing.T, st *store.Store, calls func()) {
	t.Helper()
	was := all(st)
	calls()
	if all(st) != was {
		t.Fatalf("the store is another: %.300q, was %.300q", all(st), was)
	}
	if st.Down() {
		return
	}
	st.Arm(1)
	calls()
	if st.Down() {
		t.Fatal("a call that may not write counted as a write")
	}
	st.Arm(0)
}

// Examples of the chapter.

func TestExamples_13_1(t *testing.T) {
	if k, e := Key(1, 2, 3); k != "B\x00\x00\x00\x00\x00\x00\x00\x01\x02\x00\x00\x00\x00\x00\x00\x00\x03" || e != api.OK {
		t.Errorf("Key(1, 2, 3) = %x, %d", k, e)
	}
	for _, c := range [][3]int{{-1, 1, 0}, {0, 0, 0}, {0, 256, 0}, {0, 1, -1}} {
		if k, e := Key(c[0], c[1], c[2]); k != "" || e != api.ErrRange {
			t.Errorf("Key%v = %x, %d", c, k, e)
		}
	}
}

func TestExamples_13_2(t *testing.T) {
	f, e := Frame(2, 3, "ab")
	if !strings.HasPrefix(f, "\xa5\x02\x00\x00\x00\x00\x00\x00\x00\x03\x00\x00\x00\x02ab") || len(f) != 20 || e != api.OK {
		t.Errorf("Frame(2, 3, ab) = %x, %d", f, e)
	}
	long := strings.Repeat("x", longest+1)
	if f, e := Frame(1, 0, long); f != "" || e != api.ErrBig {
		t.Errorf("Frame(1, 0, too long) = %d bytes, %d", len(f), e)
	}
	if f, e := Frame(0, 0, long); f != "" || e != api.ErrRange {
		t.Errorf("Frame(0, 0, too long) = %d bytes, %d", len(f), e)
	}
}

func TestExamples_13_3(t *testing.T) {
	f := framed(2, 3, "ab")
	for _, c := range []struct {
		b string
		e api.Errno
	}{
		{"", api.ErrShort}, {"\x00", api.ErrMagic}, {"\xa5", api.ErrShort}, {"\xa5" + strings.Repeat("x", 12), api.ErrShort},
		{f[:1] + "\x00" + f[2:], api.ErrKind}, {f[:2] + "\x80" + f[3:], api.ErrRange}, {f[:10] + "\x00\x08\x00\x01" + f[14:], api.ErrBig}, {f[:19], api.ErrShort}, {f + "x", api.ErrLong},
		{f[:14] + "cb" + f[16:], api.ErrSum}, {f[:19] + string([]byte{f[19] ^ 1}), api.ErrSum},
	} {
		if got := looked(t, c.b); got != (parsed{e: c.e}) {
			t.Errorf("Parse(%x) = %v, want %d", c.b, got, c.e)
		}
	}
}

func TestExamples_13_4(t *testing.T) {
	st := made(t, 1000)
	if e := Put(st, 1, 2, 3, "ab"); e != api.OK {
		t.Errorf("Put = %d", e)
	}
	get := func(space, kind, number int, want string, wantE api.Errno) {
		t.Helper()
		if p, e := Get(st, space, kind, number); p != want || e != wantE {
			t.Errorf("Get(%d, %d, %d) = %q, %d, want %q, %d", space, kind, number, p, e, want, wantE)
		}
	}
	get(1, 2, 3, "ab", api.OK)
	get(1, 2, 4, "", api.ErrNone)
	get(2, 2, 3, "", api.ErrNone)
	st.Put(key(1, 2, 4), framed(2, 3, "ab"))
	st.Put(key(1, 2, 5), "x")
	get(1, 2, 4, "", api.ErrSpoilt)
	get(1, 2, 5, "", api.ErrSpoilt)
	for _, c := range []struct {
		space, kind int
		want        []int
	}{{1, 2, []int{3, 4, 5}}, {1, 3, nil}, {-1, 2, nil}} {
		if l := Numbers(st, c.space, c.kind); !slices.Equal(l, c.want) {
			t.Errorf("Numbers(%d, %d) = %v", c.space, c.kind, l)
		}
	}
	if l := Spaces(st); !slices.Equal(l, []int{1}) {
		t.Errorf("Spaces = %v", l)
	}
	for _, c := range []struct {
		space, want int
		e           api.Errno
	}{{1, 3, 0}, {1, 0, 0}, {-1, 0, api.ErrRange}} {
		if n, e := Wipe(st, c.space); n != c.want || e != c.e {
			t.Errorf("Wipe(%d) = %d, %d, want %d, %d", c.space, n, e, c.want, c.e)
		}
	}
}

// Keys.

func TestKey_13_1(t *testing.T) {
	for _, space := range ints {
		for _, kind := range kinds {
			for _, number := range ints {
				got, e := Key(space, kind, number)
				want, wantE := wantKey(space, kind, number)
				if got != want || e != wantE {
					t.Fatalf("Key(%d, %d, %d) = %x, %d, want %x, %d", space, kind, number, got, e, want, wantE)
				}
			}
		}
	}
	for kind := -300; kind < 600; kind++ {
		got, e := Key(5, kind, 7)
		if want, wantE := wantKey(5, kind, 7); got != want || e != wantE {
			t.Fatalf("Key(5, %d, 7) = %x, %d, want %x, %d", kind, got, e, want, wantE)
		}
	}
}

// triples are records by chance and at the edges, rising as 13.1 says, each once.
func triples(r *rand.Rand) [][3]int {
	var list [][3]int
	number := func() int {
		if r.Intn(2) == 0 {
			return max(0, ints[r.Intn(len(ints))])
		}
		return int(r.Uint64() >> (1 + r.Intn(63)))
	}
	for range 1000 {
		list = append(list, [3]int{number(), 1 + r.Intn(255), number()}, [3]int{r.Intn(3), 1 + r.Intn(3), number()}, [3]int{number(), 255, r.Intn(300)})
	}
	slices.SortFunc(list, func(a, b [3]int) int { return slices.Compare(a[:], b[:]) })
	return slices.Compact(list)
}

func TestKeysRise_13_1(t *testing.T) {
	last := ""
	for _, c := range triples(rand.New(rand.NewSource(131))) {
		k, e := Key(c[0], c[1], c[2])
		if e != api.OK || len(k) != 18 || bytes.Compare([]byte(last), []byte(k)) >= 0 {
			t.Fatalf("Key%v = %x, %d behind %x", c, k, e, last)
		}
		last = k
	}
}

// Frames.

func TestFrame_13_2(t *testing.T) {
	for _, kind := range kinds {
		for _, number := range ints {
			for _, payload := range payloads()[:12] {
				got, e := Frame(kind, number, payload)
				want, wantE := wantFrame(kind, number, payload)
				if got != want || e != wantE {
					t.Fatalf("Frame(%d, %d, %.40q) = %x, %d, want %x, %d", kind, number, payload, got, e, want, wantE)
				}
				if e == api.OK && (got[0] == 0 || len(got) != 18+len(payload)) {
					t.Fatalf("Frame(%d, %d, %.40q) = %x", kind, number, payload, got)
				}
			}
		}
	}
}

func TestFrameLengths_13_2(t *testing.T) {
	r := rand.New(rand.NewSource(132))
	long := bytesOf(r, 2*longest)
	for _, n := range []int{0, 1, 2, 255, 256, 65535, 65536, 65537, longest - 1, longest, longest + 1, longest + 2, 2 * longest} {
		for _, c := range [][2]int{{1, 0}, {255, great}, {0, 0}, {256, 0}, {1, -1}, {-1, least}} {
			got, e := Frame(c[0], c[1], long[:n])
			want, wantE := wantFrame(c[0], c[1], long[:n])
			if got != want || e != wantE {
				t.Errorf("Frame(%d, %d, %d bytes) = %d bytes, %d, want %d bytes, %d", c[0], c[1], n, len(got), e, len(want), wantE)
			}
			if wantE == api.OK {
				looked(t, want)
			}
		}
	}
}

func TestParse_13_3(t *testing.T) {
	for _, kind := range []int{1, 2, 127, 128, 254, 255} {
		for _, number := range ints {
			for _, payload := range payloads() {
				if number < 0 {
					continue
				}
				b := framed(kind, number, payload)
				if got := looked(t, b); got != (parsed{kind, number, payload, 0}) {
					t.Fatalf("Parse(Frame(%d, %d, %.40q)) = %v", kind, number, payload, got)
				}
			}
		}
	}
}

// TestParseEveryTwoFaults_13_3: whichever parts are wrong together, and however many bytes there are, the first refusal counts.
func TestParseEveryTwoFaults_13_3(t *testing.T) {
	met := map[api.Errno]int{}
	for _, mark := range []byte{0xa5, 0, 0x5a, 0xa4, 0xff} {
		for _, kind := range []byte{1, 0, 255} {
			for _, number := range []uint64{0, 1<<63 - 1, 1 << 63, 1<<64 - 1} {
				for _, length := range []uint32{0, 1, 4, 5, 6, 9, longest, longest + 1, 1 << 31, 1<<32 - 18, 1<<32 - 14, 1<<32 - 1} {
					for _, spoilt := range []int{-1, 0, 1} {
						b := []byte(raw(mark, kind, number, length, "hello"))
						if spoilt >= 0 {
							b[len(b)-1-4*spoilt] ^= 4
						}
						for n := range len(b) + 1 {
							met[looked(t, string(b[:n])).e]++
						}
						met[looked(t, string(b)+"\x00").e]++
					}
				}
			}
		}
	}
	for _, e := range []api.Errno{0, 10, 12, 110, 111, 121, 130, 131} {
		if met[e] == 0 {
			t.Errorf("no bytes met %d", e)
		}
	}
}

// TestParseEverySum_13_3: no sum is taken but the one, whichever of its bytes is another.
func TestParseEverySum_13_3(t *testing.T) {
	for _, payload := range []string{"", "a", "hello"} {
		b := []byte(framed(7, 9, payload))
		for at := len(b) - 4; at < len(b); at++ {
			for turn := range 256 {
				c := slices.Clone(b)
				c[at] ^= byte(turn)
				if got := looked(t, string(c)); (got.e == api.OK) != (turn == 0) || turn != 0 && got.e != api.ErrSum {
					t.Fatalf("Parse(%x) = %v", c, got)
				}
			}
		}
		swapped := slices.Clone(b)
		slices.Reverse(swapped[len(b)-4:])
		if got := looked(t, string(swapped)); got.e != api.ErrSum {
			t.Errorf("with its sum the other way round: %v", got)
		}
	}
}

// TestParseOneByte_13_3: each byte, alone, and each first byte ahead of a frame's others.
func TestParseOneByte_13_3(t *testing.T) {
	f := framed(2, 3, "ab")
	for c := range 256 {
		one := string([]byte{byte(c)})
		for _, b := range []string{one, one + f[1:], f[:1] + one + f[2:], f[:2] + one + f[3:], one + f, f + one, f[:10] + one + f[11:], f[:13] + one + f[14:]} {
			looked(t, b)
		}
	}
}

// TestParseLongest_13_3: the bound of the length, with as many bytes as it asks for.
func TestParseLongest_13_3(t *testing.T) {
	long := strings.Repeat("z", longest+1)
	for _, c := range []struct {
		n int
		e api.Errno
	}{{longest, api.OK}, {longest + 1, api.ErrBig}} {
		b := raw(0xa5, 1, 0, uint32(c.n), long[:c.n])
		if got := looked(t, b); got.e != c.e {
			t.Errorf("Parse of a payload of %d bytes: %v", c.n, got)
		}
	}
	b := raw(0xa5, 1, 0, longest, long[:longest])
	if got := looked(t, b[:len(b)-1]); got.e != api.ErrShort {
		t.Errorf("without its last byte: %v", got)
	}
	if got := looked(t, b+"z"); got.e != api.ErrLong {
		t.Errorf("with one behind: %v", got)
	}
}

// Records.

// twin is a store that book writes in and one that the same is written in by the chapter's words.
type twin struct {
	st, plain *store.Store
}

func twinOf(t *testing.T, capacity int) twin {
	return twin{made(t, capacity), made(t, capacity)}
}

func (w twin) put(space, kind, number int, payload string) (got, want api.Errno) {
	got = Put(w.st, space, kind, number, payload)
	k, e := wantKey(space, kind, number)
	if e != 0 {
		return got, e
	}
	f, e := wantFrame(kind, number, payload)
	if e != 0 {
		return got, e
	}
	return got, w.plain.Put(k, f)
}

func (w twin) drop(space, kind, number int) (got, want api.Errno) {
	got = Drop(w.st, space, kind, number)
	k, e := wantKey(space, kind, number)
	if e != 0 {
		return got, e
	}
	return got, w.plain.Cut(k)
}

// wantGet is 13.5.
func wantGet(st *store.Store, space, kind, number int) (string, api.Errno) {
	k, e := wantKey(space, kind, number)
	if e != 0 {
		return "", e
	}
	data, e := st.Get(k)
	if e != 0 {
		return "", e
	}
	if p := wantParse(data); p.e == 0 && p.kind == kind && p.number == number {
		return p.payload, 0
	}
	return "", 132
}

// bookKeys are the triples of all book keys, by the chapter's words: every key of the right length, its parts read off and written again.
func bookKeys(st *store.Store) [][3]int {
	var list [][3]int
	for _, k := range st.Keys("") {
		if len(k) != 18 || k[0] != 'B' || k[1] > 127 || k[9] == 0 || k[10] > 127 {
			continue
		}
		b := []byte(k)
		list = append(list, [3]int{int(binary.BigEndian.Uint64(b[1:])), int(b[9]), int(binary.BigEndian.Uint64(b[10:]))})
	}
	return list
}

// wantNumbers and wantSpaces are 13.7.
func wantNumbers(st *store.Store, space, kind int) []int {
	var list []int
	for _, c := range bookKeys(st) {
		if c[0] == space && c[1] == kind {
			list = append(list, c[2])
		}
	}
	sort.Ints(list)
	return list
}

func wantSpaces(st *store.Store) []int {
	met := map[int]bool{}
	var list []int
	for _, c := range bookKeys(st) {
		if !met[c[0]] {
			list = append(list, c[0])
		}
		met[c[0]] = true
	}
	sort.Ints(list)
	return list
}

func (w twin) wipe(space int) (n int, got api.Errno, wantN int, want api.Errno) {
	n, got = Wipe(w.st, space)
	if space < 0 {
		return n, got, 0, 10
	}
	if w.plain.Down() {
		return n, got, 0, 124
	}
	list := w.plain.Keys(key(space, 1, 0)[:9])
	for _, k := range list {
		if e := w.plain.Cut(k); e != 0 {
			return n, got, 0, e
		}
	}
	return n, got, len(list), 0
}

// like holds the two stores and what is told of them against each other.
func (w twin) like(t *testing.T, when string) {
	t.Helper()
	if got, want := all(w.st), all(w.plain); got != want {
		t.Fatalf("behind %s the store is %.400q, want %.400q", when, got, want)
	}
}

// ask asks one record, one kind and all spaces. What was armed is forgotten by it.
func (w twin) ask(t *testing.T, space, kind, number int) {
	t.Helper()
	w.plain.Arm(0)
	unchanged(t, w.st, func() {
		p, e := Get(w.st, space, kind, number)
		if want, wantE := wantGet(w.plain, space, kind, number); p != want || e != wantE {
			t.Fatalf("Get(%d, %d, %d) = %.40q, %d, want %.40q, %d", space, kind, number, p, e, want, wantE)
		}
		if got, want := Numbers(w.st, space, kind), wantNumbers(w.plain, space, kind); !slices.Equal(got, want) {
			t.Fatalf("Numbers(%d, %d) = %v, want %v", space, kind, got, want)
		}
		if got, want := Spaces(w.st), wantSpaces(w.plain); !slices.Equal(got, want) {
			t.Fatalf("Spaces = %v, want %v", got, want)
		}
	})
}

// TestPut_13_4: what is in the store is the key and the frame, whatever the triple; and refused calls do nothing.
func TestPut_13_4(t *testing.T) {
	w := twinOf(t, 1<<24)
	for i, space := range ints {
		for _, kind := range kinds {
			for j, number := range ints {
				if got, want := w.put(space, kind, number, strings.Repeat("x", i+j)); got != want {
					t.Fatalf("Put(%d, %d, %d) = %d, want %d", space, kind, number, got, want)
				}
			}
		}
	}
	w.like(t, "Puts")
	if w.st.Pending() == 0 {
		t.Error("nothing is pending")
	}
}

func TestPutRefusals_13_4(t *testing.T) {
	long := strings.Repeat("x", longest+1)
	for _, off := range []bool{false, true} {
		for _, capacity := range []int{0, 51, 52, 100, 1 << 24} {
			w := twinOf(t, capacity)
			if off {
				w.st.Arm(1)
				w.st.Sync()
				w.plain.Arm(1)
				w.plain.Sync()
			}
			for _, c := range [][3]int{{1, 2, 3}, {-1, 2, 3}, {1, 0, 3}, {1, 256, 3}, {1, 2, -1}, {least, least, least}} {
				for _, payload := range []string{"", "a", "ab", long[:48], long[:49], long[:longest], long} {
					was := all(w.st)
					got, want := w.put(c[0], c[1], c[2], payload)
					if got != want {
						t.Fatalf("off %v, capacity %d: Put(%v, %d bytes) = %d, want %d", off, capacity, c, len(payload), got, want)
					}
					if got != api.OK && all(w.st) != was {
						t.Fatalf("Put(%v, %d bytes) = %d and wrote", c, len(payload), got)
					}
					w.like(t, "a Put")
				}
			}
		}
	}
	st := made(t, 1000)
	st.Arm(1)
	st.Sync()
	for _, c := range []struct {
		kind    int
		payload string
		e       api.Errno
	}{{0, long, api.ErrRange}, {1, long, api.ErrBig}, {1, "a", api.ErrDown}} {
		if e := Put(st, 1, c.kind, 1, c.payload); e != c.e {
			t.Errorf("with the power off: Put(kind %d, %d bytes) = %d, want %d", c.kind, len(c.payload), e, c.e)
		}
	}
	if e := Put(made(t, 51), 1, 1, 1, ""); e != api.ErrFull {
		t.Errorf("Put of 52 bytes into 51 = %d", e)
	}
	if e := Put(made(t, 52), 1, 1, 1, ""); e != api.OK {
		t.Errorf("Put of 52 bytes into 52 = %d", e)
	}
}

// TestPutAsThePowerGoes_13_4: the write is done all the same.
func TestPutAsThePowerGoes_13_4(t *testing.T) {
	st := made(t, 1000)
	st.Arm(1)
	if e := Put(st, 1, 2, 3, "ab"); e != api.ErrDown || st.Pending() != 1 {
		t.Errorf("Put = %d, %d pending", e, st.Pending())
	}
	st.Crash("\x01")
	if p, e := Get(st, 1, 2, 3); p != "ab" || e != api.OK {
		t.Errorf("Get = %q, %d", p, e)
	}
}

// TestGet_13_5: what stands under the key is a frame or is not, of this kind and number or of others.
func TestGet_13_5(t *testing.T) {
	good := framed(2, 3, "ab")
	long := strings.Repeat("x", longest)
	for _, c := range []struct {
		data, payload string
		e             api.Errno
	}{
		{good, "ab", 0}, {framed(2, 3, ""), "", 0}, {framed(2, 3, long), long, 0}, {framed(2, 3, good), good, 0},
		{"", "", 132}, {"x", "", 132}, {"\xa5", "", 132}, {good[:13], "", 132}, {good[:19], "", 132}, {good + "x", "", 132}, {good + good, "", 132}, {"\x00" + good[1:], "", 132},
		{raw(0xa5, 0, 3, 2, "ab"), "", 132}, {raw(0xa5, 2, 1<<63+3, 2, "ab"), "", 132}, {raw(0xa5, 2, 3, longest+1, long+"x"), "", 132}, {raw(0xa5, 2, 3, 3, "ab"), "", 132}, {raw(0xa5, 2, 3, 1, "ab"), "", 132}, {good[:14] + "ac" + good[16:], "", 132},
		{framed(3, 3, "ab"), "", 132}, {framed(2, 4, "ab"), "", 132}, {framed(3, 2, "ab"), "", 132}, {framed(2, 3+1<<32, "ab"), "", 132}, {framed(2, 3+1<<56, "ab"), "", 132}, {framed(130, 3, "ab"), "", 132},
	} {
		for _, space := range []int{0, 1, great} {
			st := holding(t, key(space, 2, 3), c.data)
			unchanged(t, st, func() {
				if p, e := Get(st, space, 2, 3); p != c.payload || e != c.e {
					t.Errorf("Get of %.60q = %.40q, %d, want %d", c.data, p, e, c.e)
				}
			})
		}
	}
}

func TestGetRefusals_13_5(t *testing.T) {
	for _, off := range []bool{false, true} {
		st := holding(t, key(1, 2, 3), "spoilt", key(1, 2, 4), framed(2, 4, "ab"))
		if off {
			st.Arm(1)
			st.Sync()
		}
		for _, space := range ints {
			for _, kind := range kinds {
				for _, number := range ints {
					p, e := Get(st, space, kind, number)
					if want, wantE := wantGet(st, space, kind, number); p != want || e != wantE {
						t.Fatalf("off %v: Get(%d, %d, %d) = %q, %d, want %q, %d", off, space, kind, number, p, e, want, wantE)
					}
				}
			}
		}
		_, spoilt := Get(st, 1, 2, 3)
		_, none := Get(st, 1, 2, 5)
		_, bounds := Get(st, 1, 0, 5)
		want := []api.Errno{api.ErrSpoilt, api.ErrNone, api.ErrRange}
		if off {
			want = []api.Errno{api.ErrDown, api.ErrDown, api.ErrRange}
		}
		if got := []api.Errno{spoilt, none, bounds}; !slices.Equal(got, want) {
			t.Errorf("off %v: %v, want %v", off, got, want)
		}
	}
}

// TestGetMoved_13_5: a record that was moved to another space cannot be told; to another kind or number it can.
func TestGetMoved_13_5(t *testing.T) {
	st := made(t, 1000)
	Put(st, 1, 2, 3, "ab")
	data, _ := st.Get(key(1, 2, 3))
	for _, c := range []struct {
		space, kind, number int
		payload             string
		e                   api.Errno
	}{{2, 2, 3, "ab", 0}, {0, 2, 3, "ab", 0}, {1, 1, 3, "", 132}, {1, 2, 2, "", 132}} {
		st.Put(key(c.space, c.kind, c.number), data)
		if p, e := Get(st, c.space, c.kind, c.number); p != c.payload || e != c.e {
			t.Errorf("moved to %d, %d, %d: %q, %d", c.space, c.kind, c.number, p, e)
		}
	}
}

func TestDrop_13_6(t *testing.T) {
	w := twinOf(t, 1<<20)
	good := [][3]int{{0, 1, 0}, {0, 1, 1}, {1, 2, 3}, {1, 255, 3}, {great, 255, great}}
	for _, c := range good {
		w.put(c[0], c[1], c[2], "x")
	}
	w.st.Put(key(4, 4, 4), "spoilt")
	w.plain.Put(key(4, 4, 4), "spoilt")
	tried := append(good, [3]int{4, 4, 4}, [3]int{1, 2, 4}, [3]int{-1, 1, 0}, [3]int{0, 0, 0}, [3]int{0, 256, 0}, [3]int{0, 257, 0}, [3]int{0, 1, -1}, [3]int{1, 3, 2})
	for range 2 {
		for _, c := range tried {
			if got, want := w.drop(c[0], c[1], c[2]); got != want {
				t.Fatalf("Drop%v = %d, want %d", c, got, want)
			}
			w.like(t, fmt.Sprint("Drop", c))
		}
	}
	if l := w.st.Keys(""); len(l) != 0 {
		t.Errorf("left: %q", l)
	}
	if e := Drop(w.st, 1, 2, 3); e != api.ErrNone {
		t.Errorf("Drop of what is not there = %d", e)
	}
	w.st.Arm(1)
	w.st.Sync()
	if e := Drop(w.st, 1, 2, 3); e != api.ErrDown {
		t.Errorf("Drop with the power off = %d", e)
	}
	if e := Drop(w.st, 1, 0, 3); e != api.ErrRange {
		t.Errorf("Drop of no record with the power off = %d", e)
	}
}

// odd are keys that are no book keys, and look like some of space 1.
func odd() []string {
	k := key(1, 2, 3)
	return []string{
		"B", "Bx", "b" + k[1:], "A" + k[1:], "C" + k[1:], "\x00" + k[1:], k[1:], k[:9], k[:10], k[:17], k + "\x00", k + "z", k + k, "x" + k,
		k[:9] + "\x00" + k[10:],
		k[:10] + "\x80" + k[11:], k[:10] + "\xff\xff\xff\xff\xff\xff\xff\xff",
		"B\x80" + k[2:], "B\xff\xff\xff\xff\xff\xff\xff\xff" + k[9:],
		strings.Repeat("B", 64), k + strings.Repeat("\xff", 46),
	}
}

func TestNumbers_13_7(t *testing.T) {
	var pairs []string
	for _, k := range odd() {
		pairs = append(pairs, k, framed(2, 3, "x"))
	}
	st := holding(t, pairs...)
	if l := Spaces(st); len(l) != 0 {
		t.Errorf("of keys that are no book keys: Spaces = %v", l)
	}
	for space := range 3 {
		for kind := range 256 {
			if l := Numbers(st, space, kind); len(l) != 0 {
				t.Errorf("of keys that are no book keys: Numbers(%d, %d) = %v", space, kind, l)
			}
		}
	}
	want := map[[2]int][]int{}
	var spaces []int
	for _, space := range ints {
		for _, kind := range []int{1, 2, 66, 255} {
			for i, number := range ints {
				if space < 0 || number < 0 {
					continue
				}
				if e := st.Put(key(space, kind, number), strings.Repeat("x", i%3)); e != api.OK {
					t.Fatal(e)
				}
				want[[2]int{space, kind}] = append(want[[2]int{space, kind}], number)
			}
		}
		if space >= 0 {
			spaces = append(spaces, space)
		}
	}
	unchanged(t, st, func() {
		for _, space := range ints {
			for _, kind := range kinds {
				if l := Numbers(st, space, kind); !slices.Equal(l, want[[2]int{space, kind}]) {
					t.Fatalf("Numbers(%d, %d) = %v", space, kind, l)
				}
			}
		}
		if l := Spaces(st); !slices.Equal(l, spaces) {
			t.Fatalf("Spaces = %v", l)
		}
	})
	st.Arm(1)
	st.Sync()
	if l, m := Numbers(st, 1, 2), Spaces(st); len(l) != 0 || len(m) != 0 {
		t.Errorf("with the power off: %v, %v", l, m)
	}
	st.Crash("")
	if l, m := Numbers(st, 1, 2), Spaces(st); len(l) != 0 || len(m) != 0 {
		t.Errorf("behind a power cut that kept nothing: %v, %v", l, m)
	}
}

// TestNumbersAreOfNow_13_7: what is there now is told, durable or not; what was taken out is not.
func TestNumbersAreOfNow_13_7(t *testing.T) {
	st := made(t, 10000)
	tells := func(numbers, spaces []int) {
		t.Helper()
		if l, m := Numbers(st, 5, 1), Spaces(st); !slices.Equal(l, numbers) || !slices.Equal(m, spaces) {
			t.Errorf("Numbers %v, Spaces %v, want %v, %v", l, m, numbers, spaces)
		}
	}
	tells(nil, nil)
	for _, n := range []int{256, 1, 300, 2, 0, 255} {
		Put(st, 5, 1, n, "x")
	}
	Put(st, 6, 1, 7, "x")
	tells([]int{0, 1, 2, 255, 256, 300}, []int{5, 6})
	Drop(st, 5, 1, 1)
	Drop(st, 6, 1, 7)
	tells([]int{0, 2, 255, 256, 300}, []int{5})
	st.Sync()
	tells([]int{0, 2, 255, 256, 300}, []int{5})
}

func TestWipe_13_8(t *testing.T) {
	for _, space := range []int{0, 1, 2, 255, 256, 1 << 40, great - 1, great} {
		w := twinOf(t, 1<<24)
		both := func(k, data string) {
			w.st.Put(k, data)
			w.plain.Put(k, data)
		}
		for _, k := range odd() {
			both(k, "odd")
		}
		for _, s := range ints {
			if s < 0 {
				continue
			}
			p := key(s, 1, 0)[:9]
			for _, behind := range []string{"", "\x00", "\x00\x00\x00\x00\x00\x00\x00\x00\x00", "\x01", "\x01z", strings.Repeat("\xff", 9), strings.Repeat("\xff", 55)} {
				both(p+behind, "odd")
			}
			for _, kind := range []int{1, 7, 255} {
				w.put(s, kind, 9, "even")
				w.put(s, kind, great, "even")
			}
		}
		for range 2 {
			n, got, wantN, want := w.wipe(space)
			if n != wantN || got != want {
				t.Fatalf("Wipe(%d) = %d, %d, want %d, %d", space, n, got, wantN, want)
			}
			w.like(t, fmt.Sprint("Wipe ", space))
		}
		if l := w.st.Keys(key(space, 1, 0)[:9]); len(l) != 0 {
			t.Errorf("behind Wipe(%d): %q", space, l)
		}
	}
}

func TestWipeRefusals_13_8(t *testing.T) {
	for _, off := range []bool{false, true} {
		for _, records := range []int{0, 3} {
			st := made(t, 10000)
			for n := range records {
				Put(st, 1, 1, n, "x")
			}
			if off {
				st.Arm(1)
				st.Sync()
			}
			was := all(st)
			for _, space := range []int{least, -2, -1} {
				if n, e := Wipe(st, space); n != 0 || e != api.ErrRange {
					t.Errorf("off %v: Wipe(%d) = %d, %d", off, space, n, e)
				}
			}
			n, e := Wipe(st, 2)
			if off && (n != 0 || e != api.ErrDown) || !off && (n != 0 || e != api.OK) {
				t.Errorf("off %v: Wipe(2) = %d, %d", off, n, e)
			}
			if all(st) != was {
				t.Errorf("off %v: a Wipe of nothing wrote", off)
			}
		}
	}
}

// TestWipeAsThePowerGoes_13_8: the Cuts are done in the order of the keys, up to the one with which the power goes.
func TestWipeAsThePowerGoes_13_8(t *testing.T) {
	order := []string{key(1, 1, 0)[:9], key(1, 1, 0), key(1, 1, 2), key(1, 1, 10), key(1, 1, 256), key(1, 2, 1), key(1, 255, 0), key(1, 255, 0) + "z"}
	var pairs []string
	for _, i := range rand.New(rand.NewSource(138)).Perm(len(order)) {
		pairs = append(pairs, order[i], "x")
	}
	for at := 1; at <= len(order)+1; at++ {
		st := holding(t, append(pairs, key(2, 1, 0), "x", "A", "x")...)
		st.Arm(at)
		n, e := Wipe(st, 1)
		if at <= len(order) && (n != 0 || e != api.ErrDown || st.Pending() != at) {
			t.Fatalf("the power goes at %d: Wipe = %d, %d, %d pending", at, n, e, st.Pending())
		}
		if at > len(order) && (n != len(order) || e != api.OK || st.Pending() != len(order)) {
			t.Fatalf("the power stays: Wipe = %d, %d, %d pending", n, e, st.Pending())
		}
		st.Crash("\x01")
		want := append([]string{"A"}, order[min(at, len(order)):]...)
		if l := st.Keys(""); !slices.Equal(l, append(want, key(2, 1, 0))) {
			t.Fatalf("the power goes at %d: left %q", at, l)
		}
	}
}

// What follows.

func TestThereAndBack_13_9(t *testing.T) {
	r := rand.New(rand.NewSource(139))
	for range 3000 {
		kind, number, payload := 1+r.Intn(255), int(r.Uint64()>>(1+r.Intn(63))), bytesOf(r, r.Intn(200))
		b, e := Frame(kind, number, payload)
		if e != api.OK || looked(t, b) != (parsed{kind, number, payload, 0}) {
			t.Fatalf("Parse(Frame(%d, %d, %x)) = %v", kind, number, payload, parse(b))
		}
	}
}

// TestWildBytes_13_9: bytes that are nearly a frame, with their sum put right or not: what is taken is Frame of what it tells.
func TestWildBytes_13_9(t *testing.T) {
	r := rand.New(rand.NewSource(1390))
	taken := 0
	for range 60000 {
		b := []byte(framed(1+r.Intn(255), r.Intn(1000), bytesOf(r, r.Intn(12))))
		for range r.Intn(3) {
			b[r.Intn(len(b))] ^= byte(1 << r.Intn(8))
		}
		switch r.Intn(6) {
		case 0:
			b = b[:r.Intn(len(b)+1)]
		case 1:
			b = append(b, bytesOf(r, 1+r.Intn(3))...)
		}
		if len(b) >= 4 && r.Intn(2) == 0 {
			binary.BigEndian.PutUint32(b[len(b)-4:], crc32.ChecksumIEEE(b[:len(b)-4]))
		}
		if looked(t, string(b)).e == api.OK {
			taken++
		}
	}
	if taken < 1000 || taken > 59000 {
		t.Errorf("%d were taken", taken)
	}
}

// TestNoBeginning_13_9: no beginning of a frame is one, and nothing behind a frame makes another.
func TestNoBeginning_13_9(t *testing.T) {
	r := rand.New(rand.NewSource(1391))
	for _, payload := range payloads()[:15] {
		b := framed(1+r.Intn(255), r.Intn(1<<40), payload)
		for n := range len(b) {
			if got := looked(t, b[:n]); got.e != api.ErrShort {
				t.Fatalf("the first %d bytes of %x: %v", n, b, got)
			}
		}
		for _, more := range []string{"\x00", "\xa5", b, framed(1, 0, ""), bytesOf(r, 4)} {
			if got := looked(t, b+more); got.e != api.ErrLong {
				t.Fatalf("%x and %x behind it: %v", b, more, got)
			}
		}
	}
}

// turned is a text with the bits of pattern turned, the first of them its bit at, counted as 13.10 counts.
func turned(text string, at int, pattern uint32) string {
	b := []byte(text)
	for i := range 32 {
		if pattern>>i&1 == 1 {
			b[(at+i)/8] ^= 1 << ((at + i) % 8)
		}
	}
	return string(b)
}

// TestSpoilt_13_10: at every place of the payload every pattern of few bits, and longer ones by chance, up to those whose ends are 31 apart.
func TestSpoilt_13_10(t *testing.T) {
	r := rand.New(rand.NewSource(1310))
	for _, payload := range []string{"\x00", "ab", bytesOf(r, 4), strings.Repeat("\x00", 5), strings.Repeat("\xff", 9), bytesOf(r, 40), bytesOf(r, 257)} {
		f := framed(1+r.Intn(255), r.Intn(1<<40), payload)
		first, end := 14*8, 8*(14+len(payload))
		try := func(at int, pattern uint32) {
			t.Helper()
			if got := parse(turned(f, at, pattern)); got != (parsed{e: api.ErrSum}) {
				t.Fatalf("%x with %x turned at bit %d: %v", f, pattern, at-first, got)
			}
		}
		for at := first; at < end; at++ {
			for pattern := uint32(1); pattern < 64; pattern += 2 {
				if at+6 <= end {
					try(at, pattern)
				}
			}
			try(at, 1)
			for width := 2; width <= min(32, end-at); width++ {
				ends := uint32(1) | 1<<(width-1)
				inner := uint32(1<<(width-1) - 1)
				try(at, ends)
				try(at, ends|inner)
				try(at, ends|r.Uint32()&inner)
			}
		}
	}
}

// TestSpoiltLongest_13_10: within the longest payload, too.
func TestSpoiltLongest_13_10(t *testing.T) {
	r := rand.New(rand.NewSource(1311))
	f := framed(9, 9, bytesOf(r, longest))
	for _, at := range []int{0, 1, 8*longest/2 + 3, 8*longest - 33, 8*longest - 32} {
		for _, pattern := range []uint32{1, 1<<31 | 1, math.MaxUint32, 1<<31 | r.Uint32() | 1} {
			if got := parse(turned(f, 14*8+at, pattern)); got != (parsed{e: api.ErrSum}) {
				t.Fatalf("%x turned at bit %d: %v", pattern, at, got)
			}
		}
	}
}

// TestPutThenGet_13_11: whatever is written elsewhere between the two.
func TestPutThenGet_13_11(t *testing.T) {
	r := rand.New(rand.NewSource(13110))
	st := made(t, 1<<24)
	held := map[[3]int]string{}
	list := triples(r)
	for range 4000 {
		c := list[r.Intn(len(list))]
		payload := bytesOf(r, r.Intn(30))
		if e := Put(st, c[0], c[1], c[2], payload); e != api.OK {
			t.Fatalf("Put%v = %d", c, e)
		}
		held[c] = payload
	}
	for _, c := range list {
		want, there := held[c]
		p, e := Get(st, c[0], c[1], c[2])
		if there && (p != want || e != api.OK) || !there && e != api.ErrNone {
			t.Fatalf("Get%v = %x, %d, want %x (%v)", c, p, e, want, there)
		}
	}
}

// TestPowerCut_13_11: the power goes at every write, and every choice of the pending ones survives: Get answers what a Put that could survive wrote, or ErrNone.
func TestPowerCut_13_11(t *testing.T) {
	type step struct {
		what    string // put, drop, sync or wipe
		number  int
		payload string
	}
	for _, script := range [][]step{
		{{"put", 0, "a"}, {"put", 0, "b"}, {"sync", 0, ""}, {"put", 0, "c"}, {"put", 1, "d"}, {"put", 0, "e"}},
		{{"put", 0, "a"}, {"sync", 0, ""}, {"drop", 0, ""}, {"put", 0, "bb"}, {"put", 1, ""}, {"drop", 0, ""}, {"put", 0, ""}},
		{{"put", 0, "a"}, {"put", 1, "b"}, {"sync", 0, ""}, {"put", 0, "longer than it was"}, {"wipe", 0, ""}, {"put", 1, "c"}},
		{{"put", 0, "a"}, {"sync", 0, ""}, {"put", 0, "a"}, {"sync", 0, ""}, {"drop", 0, ""}, {"sync", 0, ""}, {"put", 1, "z"}},
	} {
		for at := 1; at <= len(script)+2; at++ {
			for choice := range 256 {
				st := made(t, 10000)
				st.Arm(at)
				may := [2][]string{{"none"}, {"none"}} // what each of the two records may be behind the power cut
				now := [2]string{"none", "none"}
				set := func(n int, what string) {
					may[n] = append(may[n], what)
					now[n] = what
				}
				for _, s := range script {
					if st.Down() {
						break
					}
					switch s.what {
					case "put":
						if e := Put(st, 3, 4, s.number, s.payload); e == api.OK {
							if p, e := Get(st, 3, 4, s.number); p != s.payload || e != api.OK {
								t.Fatalf("Get behind Put = %q, %d", p, e)
							}
						}
						set(s.number, "= "+s.payload)
					case "drop":
						Drop(st, 3, 4, s.number)
						set(s.number, "none")
					case "wipe":
						Wipe(st, 3)
						set(0, "none")
						set(1, "none")
					case "sync":
						if st.Sync() == api.OK {
							may = [2][]string{{now[0]}, {now[1]}}
						}
					}
				}
				keep := make([]byte, 8)
				for i := range keep {
					keep[i] = byte(choice >> i & 1)
				}
				st.Crash(string(keep))
				for n := range 2 {
					p, e := Get(st, 3, 4, n)
					got := "= " + p
					if e == api.ErrNone {
						got = "none"
					}
					if e != api.OK && e != api.ErrNone || !slices.Contains(may[n], got) {
						t.Fatalf("script %v, the power at %d, keep %x: Get(%d) = %q, %d, may be %q", script, at, keep, n, p, e, may[n])
					}
				}
			}
		}
	}
}

// TestUnlikeKeys_13_12: no two records have one key, whichever of the three is another.
func TestUnlikeKeys_13_12(t *testing.T) {
	met := map[string][3]int{}
	for _, space := range ints {
		for kind := 1; kind <= 255; kind++ {
			for _, number := range ints {
				k, e := Key(space, kind, number)
				if e != api.OK {
					continue
				}
				if other, there := met[k]; there {
					t.Fatalf("%v and %v have one key", other, [3]int{space, kind, number})
				}
				met[k] = [3]int{space, kind, number}
			}
		}
	}
}

// TestWipeOneSpace_13_12: behind a Wipe nothing of that space is told, whatever the kind, and the others are as they were.
func TestWipeOneSpace_13_12(t *testing.T) {
	spaces := []int{0, 1, 2, 256, 1 << 56, great}
	for _, wiped := range spaces {
		st := made(t, 1<<24)
		for _, space := range spaces {
			for kind := 1; kind <= 255; kind++ {
				Put(st, space, kind, kind%7, fmt.Sprint(space, kind))
			}
		}
		if n, e := Wipe(st, wiped); n != 255 || e != api.OK {
			t.Fatalf("Wipe(%d) = %d, %d", wiped, n, e)
		}
		for _, space := range spaces {
			for kind := 1; kind <= 255; kind++ {
				want := []int{kind % 7}
				p, e := Get(st, space, kind, kind%7)
				if space == wiped {
					want = nil
					if e != api.ErrNone {
						t.Fatalf("behind Wipe(%d): Get = %q, %d", wiped, p, e)
					}
				} else if p != fmt.Sprint(space, kind) || e != api.OK {
					t.Fatalf("behind Wipe(%d): Get(%d, %d) = %q, %d", wiped, space, kind, p, e)
				}
				if l := Numbers(st, space, kind); !slices.Equal(l, want) {
					t.Fatalf("behind Wipe(%d): Numbers(%d, %d) = %v", wiped, space, kind, l)
				}
			}
		}
		if l := Spaces(st); len(l) != len(spaces)-1 || slices.Contains(l, wiped) {
			t.Fatalf("behind Wipe(%d): Spaces = %v", wiped, l)
		}
	}
}

// TestScriptsByChance: all calls, with power cuts, stores that are full and keys that are none, held against the chapter's words.
func TestScriptsByChance(t *testing.T) {
	r := rand.New(rand.NewSource(1300))
	pick := func(list []int) int { return list[r.Intn(len(list))] }
	few := []int{-1, 0, 1, 1, 2, 255, 256, great}
	fewKinds := []int{0, 1, 1, 2, 255, 256}
	for range 400 {
		w := twinOf(t, []int{100, 300, 1000, 1 << 20}[r.Intn(4)])
		for range 60 {
			space, kind, number := pick(few), pick(fewKinds), pick(few)
			what := fmt.Sprint(space, kind, number)
			var got, want api.Errno
			switch r.Intn(12) {
			case 0, 1, 2, 3:
				got, want = w.put(space, kind, number, bytesOf(r, r.Intn(20)))
			case 4:
				got, want = w.drop(space, kind, number)
			case 5:
				var n, wantN int
				n, got, wantN, want = w.wipe(space)
				if n != wantN {
					t.Fatalf("Wipe(%d) = %d, want %d", space, n, wantN)
				}
			case 6:
				k, data := odd()[r.Intn(len(odd()))], bytesOf(r, r.Intn(3))
				got, want = w.st.Put(k, data), w.plain.Put(k, data)
			case 7:
				if space >= 0 && kindGoes(kind) && number >= 0 {
					data := framed(1+r.Intn(2), r.Intn(2), "s")
					got, want = w.st.Put(key(space, kind, number), data), w.plain.Put(key(space, kind, number), data)
				}
			case 8:
				got, want = w.st.Sync(), w.plain.Sync()
			case 9:
				keep := bytesOf(r, r.Intn(4))
				w.st.Crash(keep)
				w.plain.Crash(keep)
			case 10:
				w.ask(t, space, kind, number)
			case 11:
				n := 1 + r.Intn(6)
				w.st.Arm(n)
				w.plain.Arm(n)
				continue
			}
			if got != want {
				t.Fatalf("%s: %d, want %d", what, got, want)
			}
			w.like(t, what)
		}
		w.ask(t, pick(few), pick(fewKinds), pick(few))
	}
}

// Rules.

// TestWild_R1: no call panics, whatever it is given, and with a refusal all else is zero.
func TestWild_R1(t *testing.T) {
	r := rand.New(rand.NewSource(1))
	st := made(t, 2000)
	for range 30000 {
		space, kind, number := int(r.Uint64()>>r.Intn(64)), int(r.Uint64()>>r.Intn(64)), int(r.Uint64()>>r.Intn(64))
		b := bytesOf(r, r.Intn(40))
		if r.Intn(2) == 0 {
			b = "\xa5" + b
		}
		looked(t, b)
		if k, e := Key(space, kind, number); (k == "") != (e != api.OK) {
			t.Fatalf("Key(%d, %d, %d) = %q, %d", space, kind, number, k, e)
		}
		if f, e := Frame(kind, number, b); (f == "") != (e != api.OK) {
			t.Fatalf("Frame(%d, %d) = %q, %d", kind, number, f, e)
		}
		Put(st, space, kind, number, b)
		if p, e := Get(st, space, kind, number); e != api.OK && p != "" {
			t.Fatalf("Get(%d, %d, %d) = %q, %d", space, kind, number, p, e)
		}
		Numbers(st, space, kind)
		Spaces(st)
		Drop(st, space, kind, number)
		if n, e := Wipe(st, space); e != api.OK && n != 0 {
			t.Fatalf("Wipe(%d) = %d, %d", space, n, e)
		}
	}
}

// inside: does a text stand in the memory of another?
func inside(part, whole string) bool {
	if part == "" || whole == "" {
		return false
	}
	a, b := uintptr(unsafe.Pointer(unsafe.StringData(part))), uintptr(unsafe.Pointer(unsafe.StringData(whole)))
	return b <= a && a < b+uintptr(len(whole))
}

func TestOwnMemory_R4(t *testing.T) {
	b := strings.Clone(framed(2, 3, "a payload of some bytes"))
	_, _, payload, _ := Parse(b)
	if payload == "" || inside(payload, b) {
		t.Errorf("Parse answers the memory that it was handed: %q", payload)
	}
	f, _ := Frame(2, 3, payload)
	if f == "" || inside(f, payload) || inside(payload, f) {
		t.Error("Frame answers the memory that it was handed")
	}
	st := holding(t, key(1, 2, 3), b, key(1, 2, 4), b, key(2, 2, 3), b)
	data, _ := st.Get(key(1, 2, 3))
	if p, _ := Get(st, 1, 2, 3); p == "" || inside(p, data) {
		t.Errorf("Get answers the store's memory: %q", p)
	}
	for range 2 {
		numbers, spaces := Numbers(st, 1, 2), Spaces(st)
		if !slices.Equal(numbers, []int{3, 4}) || !slices.Equal(spaces, []int{1, 2}) {
			t.Fatalf("%v, %v", numbers, spaces)
		}
		numbers, spaces = numbers[:cap(numbers)], spaces[:cap(spaces)]
		for i := range numbers {
			numbers[i] = -9
		}
		for i := range spaces {
			spaces[i] = -9
		}
	}
}

// TestSameTwice_R2: what a function answers hangs on its arguments alone.
func TestSameTwice_R2(t *testing.T) {
	b := framed(7, 8, "nine")
	first := parse(b)
	for _, other := range []string{"", "\xa5", b[:19], b + "x", framed(8, 7, "other")} {
		parse(other)
		Frame(1, 2, other)
		if again := parse(b); again != first {
			t.Errorf("behind Parse(%x): %v, was %v", other, again, first)
		}
	}
}
