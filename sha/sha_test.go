package sha

import (
	"crypto/sha256"
	"encoding/hex"
	"math"
	"math/rand"
	"strings"
	"testing"
)

// want is the hash as another program reckons it.
func want(s string) string {
	h := sha256.Sum256([]byte(s))
	return string(h[:])
}

// bytesOf is a text of n bytes, of all kinds of bytes.
func bytesOf(r *rand.Rand, n int) string {
	b := make([]byte, n)
	for i := range b {
		b[i] = byte(r.Intn(256))
	}
	return string(b)
}

// unhex is the text that is written in hexadecimal.
func unhex(t *testing.T, s string) string {
	t.Helper()
	b, err := hex.DecodeString(strings.ReplaceAll(s, " ", ""))
	if err != nil {
		t.Fatal(err)
	}
	return string(b)
}

// examples are the rows of the chapter that tell a hash.
var examples = []struct{ text, hash string }{
	{"", "e3b0c442 98fc1c14 9afbf4c8 996fb924 27ae41e4 649b934c a495991b 7852b855"},
	{"abc", "ba7816bf 8f01cfea 414140de 5dae2223 b00361a3 96177a9c b410ff61 f20015ad"},
	{"abcdbcdecdefdefgefghfghighijhijkijkljklmklmnlmnomnopnopq", "248d6a61 d20638b8 e5c02693 0c3e6039 a33ce459 64ff2167 f6ecedd4 19db06c1"},
}

// TestPadding2_1: the lengths around a block's edges, and counts of bits that want more than four bytes, or more than there are.
func TestPadding2_1(t *testing.T) {
	for n := range 400 {
		p := padding(n)
		zeros := strings.TrimPrefix(p, "\x80")
		if len(zeros) != len(p)-1 || (n+len(p))%64 != 0 || len(p) < 9 || len(p) > 72 {
			t.Errorf("padding of %d bytes: %x", n, p)
		}
		if strings.Trim(zeros[:len(zeros)-8], "\x00") != "" {
			t.Errorf("padding of %d bytes: not only noughts between: %x", n, p)
		}
	}
	for _, c := range []struct {
		size int
		hex  string
	}{
		{0, "0000000000000000"}, {1, "0000000000000008"}, {31, "00000000000000f8"}, {32, "0000000000000100"},
		{1 << 29, "0000000100000000"}, {1<<40 + 3, "0000080000000018"}, {1<<61 - 1, "fffffffffffffff8"},
		{1 << 61, "0000000000000000"}, {1<<61 + 2, "0000000000000010"}, {math.MaxInt, "fffffffffffffff8"},
	} {
		p := padding(c.size)
		if got := p[len(p)-8:]; got != unhex(t, c.hex) {
			t.Errorf("padding of %d bytes counts %x, want %s", c.size, got, c.hex)
		}
	}
	for _, c := range []struct{ size, length int }{{0, 64}, {1, 63}, {54, 10}, {55, 9}, {56, 72}, {57, 71}, {63, 65}, {64, 64}, {119, 9}, {120, 72}} {
		if n := len(padding(c.size)); n != c.length {
			t.Errorf("padding of %d bytes has %d, want %d", c.size, n, c.length)
		}
	}
}

// TestRounds2_2: one block from the beginning, and a second one behind it, told by the standard's own examples.
func TestRounds2_2(t *testing.T) {
	var block [blockSize]byte
	copy(block[:], "abc\x80")
	block[63] = 24
	s := starts
	s.take(block)
	if got := s.text(); got != unhex(t, examples[1].hash) {
		t.Errorf("abc's only block makes %x", got)
	}
	if s.take(block); s.text() == unhex(t, examples[1].hash) {
		t.Errorf("a second block changes nothing")
	}
	r := rand.New(rand.NewSource(1))
	for range 500 {
		text := bytesOf(r, 64*(1+r.Intn(4)))
		if Sum(text) != want(text) {
			t.Fatalf("Sum of %d bytes: %x", len(text), text)
		}
	}
}

// TestTables2_2: the constants are the fractions of the first primes' square and cube roots.
func TestTables2_2(t *testing.T) {
	if len(starts) != 8 || len(rounds) != 64 {
		t.Fatalf("%d words, %d rounds", len(starts), len(rounds))
	}
	prime := func(n int) bool {
		for d := 2; d*d <= n; d++ {
			if n%d == 0 {
				return false
			}
		}
		return true
	}
	fraction := func(x float64) uint32 {
		return uint32((x - math.Floor(x)) * (1 << 32))
	}
	for i, n := 0, 2; i < len(rounds); n++ {
		if !prime(n) {
			continue
		}
		if k := fraction(math.Cbrt(float64(n))); rounds[i] != k {
			t.Errorf("K%d = %08x, want %08x", i, rounds[i], k)
		}
		if i < len(starts) {
			if h := fraction(math.Sqrt(float64(n))); starts[i] != h {
				t.Errorf("H%d = %08x, want %08x", i, starts[i], h)
			}
		}
		i++
	}
}

// TestText2_3: the words' bytes, the highest first.
func TestText2_3(t *testing.T) {
	s := words{0x00010203, 0x04050607, 0x08090a0b, 0x0c0d0e0f, 0x10111213, 0x14151617, 0x18191a1b, 0xfcfdfeff}
	if got := hex.EncodeToString([]byte(s.text())); got != "000102030405060708090a0b0c0d0e0f101112131415161718191a1bfcfdfeff" {
		t.Errorf("the words as a text: %s", got)
	}
	if n := len(Sum("any")); n != 32 {
		t.Errorf("a hash has %d bytes", n)
	}
}

// TestSum2_4: the chapter's examples, all lengths up to some blocks, and a long text.
func TestSum2_4(t *testing.T) {
	for _, c := range examples {
		if got := Sum(c.text); got != unhex(t, c.hash) {
			t.Errorf("Sum(%q) = %x, want %s", c.text, got, c.hash)
		}
	}
	r := rand.New(rand.NewSource(2))
	for n := range 330 {
		for _, text := range []string{bytesOf(r, n), strings.Repeat("\x00", n), strings.Repeat("\x80", n), strings.Repeat("\xff", n)} {
			if Sum(text) != want(text) {
				t.Errorf("Sum of %d bytes: %x", n, text)
			}
		}
	}
	for _, n := range []int{4095, 4096, 1 << 20, 1<<20 + 55, 1<<20 + 56} {
		if text := bytesOf(r, n); Sum(text) != want(text) {
			t.Errorf("Sum of %d bytes", n)
		}
	}
}

// TestCut2_4: every width that can be, and those that cannot.
func TestCut2_4(t *testing.T) {
	for _, text := range []string{"", "abc", strings.Repeat("x", 64), strings.Repeat("y", 119)} {
		whole := want(text)
		for w := 1; w <= 32; w++ {
			if got := Cut(text, w); got != whole[:w] {
				t.Errorf("Cut(%q, %d) = %x", text, w, got)
			}
		}
		for _, w := range []int{0, -1, -32, 33, 34, 64, 256, math.MaxInt, math.MinInt} {
			if got := Cut(text, w); got != whole {
				t.Errorf("Cut(%q, %d) = %x, want all 32 bytes", text, w, got)
			}
		}
	}
	if got := hex.EncodeToString([]byte(Cut("abc", 4))); got != "ba7816bf" {
		t.Errorf("Cut(abc, 4) = %s", got)
	}
	if got := hex.EncodeToString([]byte(Cut("abc", 1))); got != "ba" {
		t.Errorf("Cut(abc, 1) = %s", got)
	}
}

// TestHash2_5: the chapter's two rows of a hash that takes pieces.
func TestHash2_5(t *testing.T) {
	h := New()
	if h.Len() != 0 || h.Sum() != Sum("") {
		t.Errorf("a new hash has %d bytes and makes %x", h.Len(), h.Sum())
	}
	if n := h.Write("a"); n != 1 || h.Len() != 1 {
		t.Errorf("Write(a) = %d, Len = %d", n, h.Len())
	}
	if n := h.Write(""); n != 0 || h.Len() != 1 {
		t.Errorf("Write() = %d, Len = %d", n, h.Len())
	}
	if n := h.Write("bc"); n != 2 || h.Sum() != Sum("abc") || h.Len() != 3 {
		t.Errorf("Write(bc) = %d, Sum = %x, Len = %d", n, h.Sum(), h.Len())
	}
	k := h.Copy()
	h.Reset()
	if h.Sum() != Sum("") || k.Sum() != Sum("abc") {
		t.Errorf("behind Reset: %x, its copy %x", h.Sum(), k.Sum())
	}
	if n := k.Write("d"); n != 1 || h.Len() != 0 || k.Len() != 4 || k.Sum() != Sum("abcd") {
		t.Errorf("Write(d) = %d, Len = %d and %d, Sum = %x", n, h.Len(), k.Len(), k.Sum())
	}
}

// TestSumAgain2_5: asking for the hash leaves the text as it is, at every fill of a block.
func TestSumAgain2_5(t *testing.T) {
	r := rand.New(rand.NewSource(3))
	for n := range 140 {
		text := bytesOf(r, n)
		h := New()
		h.Write(text)
		if h.Sum() != want(text) || h.Sum() != want(text) || h.Len() != n {
			t.Errorf("%d bytes: asked again %x, Len = %d", n, h.Sum(), h.Len())
		}
		h.Write("more")
		if h.Sum() != want(text+"more") || h.Len() != n+4 {
			t.Errorf("%d bytes and four more: %x, Len = %d", n, h.Sum(), h.Len())
		}
	}
}

// TestReset2_5: a hash that was reset, within a block and behind one, is as a new one.
func TestReset2_5(t *testing.T) {
	h := New()
	for n := range 140 {
		h.Write(strings.Repeat("z", n))
		h.Reset()
		if h.Len() != 0 || h.Sum() != want("") {
			t.Errorf("reset behind %d bytes: Len = %d, Sum = %x", n, h.Len(), h.Sum())
		}
		h.Write("abc")
		if h.Len() != 3 || h.Sum() != want("abc") {
			t.Errorf("reset behind %d bytes, then abc: Len = %d, Sum = %x", n, h.Len(), h.Sum())
		}
		h.Reset()
	}
}

// TestCopy2_5: a copy and its original go their own ways, wherever in a block they part.
func TestCopy2_5(t *testing.T) {
	for n := range 140 {
		text := strings.Repeat("q", n)
		h := New()
		h.Write(text)
		k := h.Copy()
		if k == h || k.Len() != n || k.Sum() != want(text) {
			t.Fatalf("a copy of %d bytes: Len = %d, Sum = %x", n, k.Len(), k.Sum())
		}
		h.Write(strings.Repeat("h", 70))
		k.Write(strings.Repeat("k", 71))
		l := k.Copy()
		k.Reset()
		if h.Sum() != want(text+strings.Repeat("h", 70)) || h.Len() != n+70 {
			t.Errorf("%d bytes: the original sees its copy's: %x", n, h.Sum())
		}
		if l.Sum() != want(text+strings.Repeat("k", 71)) || l.Len() != n+71 || k.Sum() != want("") {
			t.Errorf("%d bytes: the copy sees its original's: %x", n, l.Sum())
		}
	}
}

// TestPieces2_6: two pieces and three, parted anywhere, with empty ones among them.
func TestPieces2_6(t *testing.T) {
	text := bytesOf(rand.New(rand.NewSource(4)), 200)
	for i := range len(text) + 1 {
		for _, j := range []int{i, i + 1, i + 63, i + 64, i + 65, len(text)} {
			j = min(j, len(text))
			h := New()
			done := ""
			for _, p := range []string{"", text[:i], "", text[i:j], "", text[j:], ""} {
				if n := h.Write(p); n != len(p) {
					t.Fatalf("Write of %d bytes = %d", len(p), n)
				}
				if done += p; h.Sum() != want(done) || h.Len() != len(done) {
					t.Fatalf("parted at %d and %d: %d bytes: Len = %d, Sum = %x", i, j, len(done), h.Len(), h.Sum())
				}
			}
			if h.Sum() != Sum(text) {
				t.Fatalf("parted at %d and %d: not the Sum of the whole", i, j)
			}
		}
	}
}

// TestBytes2_6: one byte at a time.
func TestBytes2_6(t *testing.T) {
	text := bytesOf(rand.New(rand.NewSource(5)), 300)
	h := New()
	for i := range len(text) {
		if h.Sum() != Sum(text[:i]) {
			t.Fatalf("%d single bytes: %x", i, h.Sum())
		}
		h.Write(text[i : i+1])
	}
	if h.Sum() != Sum(text) {
		t.Errorf("all single bytes: %x", h.Sum())
	}
}

// TestApart2_6: many hashes, written, copied, reset and asked in turn, each against the text that it should have.
func TestApart2_6(t *testing.T) {
	r := rand.New(rand.NewSource(6))
	hashes := []*Hash{New(), New()}
	texts := []string{"", ""}
	lengths := []int{0, 1, 7, 55, 56, 63, 64, 65, 128, 200}
	for step := range 6000 {
		i := r.Intn(len(hashes))
		switch r.Intn(12) {
		case 0:
			hashes[i].Reset()
			texts[i] = ""
		case 1:
			j := r.Intn(len(hashes))
			hashes[j], texts[j] = hashes[i].Copy(), texts[i]
		case 2:
			if len(hashes) < 8 {
				hashes, texts = append(hashes, hashes[i].Copy()), append(texts, texts[i])
			}
		default:
			p := bytesOf(r, lengths[r.Intn(len(lengths))])
			if n := hashes[i].Write(p); n != len(p) {
				t.Fatalf("step %d: Write of %d bytes = %d", step, len(p), n)
			}
			texts[i] += p
		}
		for j, h := range hashes {
			if h.Len() != len(texts[j]) {
				t.Fatalf("step %d: hash %d: Len = %d, want %d", step, j, h.Len(), len(texts[j]))
			}
		}
		if j := r.Intn(len(hashes)); hashes[j].Sum() != want(texts[j]) {
			t.Fatalf("step %d: hash %d: not the hash of its %d bytes", step, j, len(texts[j]))
		}
	}
}

// TestBegins2_6: what Cut answers begins what Sum answers.
func TestBegins2_6(t *testing.T) {
	r := rand.New(rand.NewSource(7))
	for range 300 {
		text, w := bytesOf(r, r.Intn(200)), r.Intn(70)-18
		if got := Cut(text, w); len(got) == 0 || !strings.HasPrefix(Sum(text), got) {
			t.Errorf("Cut(%x, %d) = %x", text, w, got)
		}
	}
}

func FuzzSum(f *testing.F) {
	for _, c := range examples {
		f.Add(c.text, 1)
	}
	f.Fuzz(func(t *testing.T, s string, at int) {
		at = int(uint(at) % uint(len(s)+1))
		h := New()
		h.Write(s[:at])
		h.Write(s[at:])
		if Sum(s) != want(s) || h.Sum() != want(s) {
			t.Errorf("%x, parted at %d", s, at)
		}
	})
}

func BenchmarkSum(b *testing.B) {
	text := strings.Repeat("a", 65)
	b.SetBytes(int64(len(text)))
	b.ReportAllocs()
	for b.Loop() {
		Sum(text)
	}
}
