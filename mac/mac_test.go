package mac

import (
	"crypto/hkdf"
	"crypto/hmac"
	"crypto/sha256"
	"encoding/hex"
	"hash/crc32"
	"math"
	"math/rand"
	"strings"
	"testing"

	"annals/api"
	"annals/sha"
)

// want is the code as another program reckons it.
func want(key, msg string) string {
	h := hmac.New(sha256.New, []byte(key))
	h.Write([]byte(msg))
	return string(h.Sum(nil))
}

// bytesOf is a text of n bytes, of all kinds of bytes.
func bytesOf(r *rand.Rand, n int) string {
	b := make([]byte, n)
	for i := range b {
		b[i] = byte(r.Intn(256))
	}
	return string(b)
}

// turned is the text with the bits of pattern turned, the first of them being the text's bit at, counted as 3.9 counts.
func turned(text string, at int, pattern uint32) string {
	b := []byte(text)
	for i := range 32 {
		if pattern>>i&1 == 1 {
			b[(at+i)/8] ^= 1 << ((at + i) % 8)
		}
	}
	return string(b)
}

// TestSumExamples3_1: the chapter's rows and the other cases of RFC 4231.
func TestSumExamples3_1(t *testing.T) {
	for _, c := range []struct{ key, msg, hash string }{
		{strings.Repeat("\x0b", 20), "Hi There", "b0344c61d8db38535ca8afceaf0bf12b881dc200c9833da726e9376c2e32cff7"},
		{"Jefe", "what do ya want for nothing?", "5bdcc146bf60754e6a042426089575c75a003f089d2739839dec58b964ec3843"},
		{strings.Repeat("\xaa", 20), strings.Repeat("\xdd", 50), "773ea91e36800e46854db8ebd09181a72959098b3ef8c122d9635514ced565fe"},
		{strings.Repeat("\xaa", 131), "Test Using Larger Than Block-Size Key - Hash Key First", "60e431591ee0b67f0d8a26aacbf5b77f8e0bc6213728c5140546040f0ee37f54"},
	} {
		if got := hex.EncodeToString([]byte(Sum(c.key, c.msg))); got != c.hash {
			t.Errorf("Sum(%q, %q) = %s, want %s", c.key, c.msg, got, c.hash)
		}
	}
}

// TestSum3_1: keys of every length up to two blocks and more, texts around the edges of a block.
func TestSum3_1(t *testing.T) {
	r := rand.New(rand.NewSource(31))
	for n := range 140 {
		key := bytesOf(r, n)
		for _, size := range []int{0, 1, 54, 55, 56, 63, 64, 65, 119, 120, 1000} {
			msg := bytesOf(r, size)
			if got := Sum(key, msg); got != want(key, msg) {
				t.Errorf("Sum of a key of %d and a text of %d bytes = %x, want %x", n, size, got, want(key, msg))
			}
		}
	}
	for _, n := range []int{0, 64, 65, 4096} {
		if got := Sum(strings.Repeat("\x00", n), ""); got != want(strings.Repeat("\x00", n), "") {
			t.Errorf("Sum of %d bytes 0, \"\" = %x", n, got)
		}
	}
}

// TestLikeKeys3_2: bytes 0 behind a key change nothing up to 64 bytes, and do beyond.
func TestLikeKeys3_2(t *testing.T) {
	r := rand.New(rand.NewSource(32))
	for _, key := range []string{"", "k", "\x00", "k\x00k", bytesOf(r, 33), bytesOf(r, 63), bytesOf(r, 64)} {
		for _, msg := range []string{"", "text", bytesOf(r, 64)} {
			code := Sum(key, msg)
			for n := len(key); n <= 64; n++ {
				if longer := key + strings.Repeat("\x00", n-len(key)); Sum(longer, msg) != code {
					t.Errorf("%x with bytes 0 up to %d makes another code", key, n)
				}
			}
			if longest := key + strings.Repeat("\x00", 65-len(key)); Sum(longest, msg) == code {
				t.Errorf("%x with bytes 0 up to 65 makes the same code", key)
			}
		}
	}
	for _, n := range []int{65, 66, 128, 1000} {
		key := bytesOf(r, n)
		if Sum(key, "text") != Sum(sha.Sum(key), "text") {
			t.Errorf("a key of %d bytes and its hash make unlike codes", n)
		}
	}
	for _, n := range []int{0, 1, 63, 64} {
		key := bytesOf(r, n)
		if Sum(key, "text") == Sum(sha.Sum(key), "text") {
			t.Errorf("a key of %d bytes and its hash make the same code", n)
		}
	}
}

// TestUnlikeKeys3_2: wherever two short keys of one length differ, their blocks and their codes do.
func TestUnlikeKeys3_2(t *testing.T) {
	r := rand.New(rand.NewSource(321))
	for n := 1; n <= 64; n++ {
		key := bytesOf(r, n)
		for at := range n {
			other := turned(key+"\x00\x00\x00", 8*at+r.Intn(8), 1)[:n]
			if filled(key) == filled(other) || Sum(key, "m") == Sum(other, "m") {
				t.Errorf("%x and %x make the same", key, other)
			}
		}
	}
}

// TestSame3_3: texts alike, of unlike lengths, and with one bit turned at each place.
func TestSame3_3(t *testing.T) {
	for _, c := range []struct {
		a, b string
		same bool
	}{
		{"", "", true}, {"a", "a\x00", false}, {"a\x00", "a", false}, {"", "\x00", false}, {"\x00", "", false},
		{"ab", "ab", true}, {"ab", "ac", false}, {"ab", "ba", false}, {"ab", "abc", false}, {"abc", "ab", false},
		{"\x01\x01", "\x00\x00", false}, {"\xff\x01", "\x01\xff", false}, {"\xe9", "\xe8", false}, {"\xff", "\xef\xbf\xbd", false},
	} {
		if got := Same(c.a, c.b); got != c.same {
			t.Errorf("Same(%q, %q) = %v", c.a, c.b, got)
		}
	}
	text := bytesOf(rand.New(rand.NewSource(33)), 40)
	if !Same(text, strings.Clone(text)) {
		t.Error("a text is not the same as itself")
	}
	for at := range 8 * len(text) {
		other := turned(text+"\x00\x00\x00\x00", at, 1)[:len(text)]
		if Same(text, other) || Same(other, text) {
			t.Errorf("the same with bit %d turned", at)
		}
	}
}

// TestKeyID3_4: four bytes, out of the name and of the secret, neither running into the other.
func TestKeyID3_4(t *testing.T) {
	for _, c := range []struct{ name, secret string }{
		{"log", "secret"}, {"", ""}, {"", "s"}, {"log", ""}, {"lo\ng\x02", "\x00"}, {strings.Repeat("n", 200), strings.Repeat("s", 200)},
	} {
		h := sha256.Sum256([]byte(c.name + "\x0a\x02" + want(c.secret, "annals key")))
		if got := KeyID(c.name, c.secret); got != string(h[:4]) {
			t.Errorf("KeyID(%q, %q) = %x, want %x", c.name, c.secret, got, h[:4])
		}
	}
	if KeyID("log", "s") == KeyID("log", "t") || KeyID("log", "s") == KeyID("lok", "s") {
		t.Error("unlike keys have one KeyID")
	}
}

// TestDerive3_5: every number of bytes around the multiples of 32, the greatest, and those that are refused.
func TestDerive3_5(t *testing.T) {
	r := rand.New(rand.NewSource(35))
	sizes := []int{0, 1, 2, 8128, 8129, 8159, 8160}
	for n := 31; n < 8160; n += 32 * 17 {
		sizes = append(sizes, n, n+1, n+2)
	}
	for _, c := range []struct{ key, label string }{{"k", "l"}, {"", ""}, {"", "label"}, {"key", ""}, {bytesOf(r, 65), bytesOf(r, 100)}} {
		for _, n := range sizes {
			theirs, err := hkdf.Expand(sha256.New, []byte(c.key), c.label, n)
			if err != nil {
				t.Fatal(err)
			}
			if got, e := Derive(c.key, c.label, n); got != string(theirs) || e != api.OK {
				t.Errorf("Derive(%q, %q, %d) = %x, %d, want %x", c.key, c.label, n, got, e, theirs)
			}
		}
	}
	for _, n := range []int{-1, -32, math.MinInt, 8161, 8192, 1 << 32, math.MaxInt} {
		if got, e := Derive("k", "l", n); got != "" || e != api.ErrLabel {
			t.Errorf("Derive(.., .., %d) = %x, %d, want ErrLabel", n, got, e)
		}
	}
}

// TestDeriveBeginning3_6: a lesser number's answer is the beginning of the greatest's.
func TestDeriveBeginning3_6(t *testing.T) {
	whole, e := Derive("key", "label", 8160)
	if e != api.OK || len(whole) != 8160 {
		t.Fatalf("Derive(.., .., 8160) answers %d bytes, %d", len(whole), e)
	}
	for n := 0; n <= 8160; n += 1 + n/8 {
		if got, e := Derive("key", "label", n); got != whole[:n] || e != api.OK {
			t.Errorf("Derive(.., .., %d) = %x, %d: not the beginning", n, got, e)
		}
	}
}

// TestCrcExamples3_7: the chapter's rows.
func TestCrcExamples3_7(t *testing.T) {
	for _, c := range []struct {
		text string
		sum  uint32
	}{{"", 0}, {"123456789", 0xcbf43926}, {"a", 0xe8b7be43}} {
		if got := Crc(c.text); got != c.sum {
			t.Errorf("Crc(%q) = %x, want %x", c.text, got, c.sum)
		}
		if got := CrcOn(c.sum, ""); got != c.sum {
			t.Errorf("CrcOn(%x, \"\") = %x", c.sum, got)
		}
	}
}

// bitByBit is the chapter's rule without a table.
func bitByBit(crc uint32, b string) uint32 {
	register := ^crc
	for i := range len(b) {
		register ^= uint32(b[i])
		for range 8 {
			register = register>>1 ^ register&1*0xedb88320
		}
	}
	return ^register
}

// TestCrc3_7: each byte alone, texts of many lengths, and sums to go on from that no short text has.
func TestCrc3_7(t *testing.T) {
	r := rand.New(rand.NewSource(37))
	for b := range 256 {
		text := string([]byte{byte(b)})
		if got := Crc(text); got != crc32.ChecksumIEEE([]byte(text)) {
			t.Errorf("Crc(%x) = %x", text, got)
		}
	}
	for n := range 300 {
		text := bytesOf(r, n)
		if got := Crc(text); got != crc32.ChecksumIEEE([]byte(text)) || got != CrcOn(0, text) {
			t.Errorf("Crc(%x) = %x", text, got)
		}
		for _, crc := range []uint32{0, 1, 0xff, 0x80000000, math.MaxUint32, r.Uint32()} {
			if got := CrcOn(crc, text); got != bitByBit(crc, text) {
				t.Errorf("CrcOn(%x, %x) = %x, want %x", crc, text, got, bitByBit(crc, text))
			}
		}
	}
}

// TestCrcOn3_8: a text's sum gone on from every cut, and from every two.
func TestCrcOn3_8(t *testing.T) {
	r := rand.New(rand.NewSource(38))
	for _, text := range []string{"", "a", "123456789", bytesOf(r, 70), strings.Repeat("\x00", 40), strings.Repeat("\xff", 40)} {
		whole := Crc(text)
		for i := range len(text) + 1 {
			if got := CrcOn(Crc(text[:i]), text[i:]); got != whole {
				t.Errorf("%x cut at %d: %x, want %x", text, i, got, whole)
			}
			for j := i; j <= len(text); j++ {
				if got := CrcOn(CrcOn(Crc(text[:i]), text[i:j]), text[j:]); got != whole {
					t.Errorf("%x cut at %d and %d: %x, want %x", text, i, j, got, whole)
				}
			}
		}
	}
}

// TestBitsTurned3_9: bits turned within 32, from every bit of the text on, so at every edge of a byte too.
func TestBitsTurned3_9(t *testing.T) {
	r := rand.New(rand.NewSource(39))
	patterns := []uint32{1, 1 << 31, 1<<31 | 1, 0xff, 0xff00, 0x180, 0x01010101, 0xaaaaaaaa, 0xedb88320, 0xdb710641, 0x04c11db7, math.MaxUint32}
	for i := range 32 {
		patterns = append(patterns, 1<<i, 1<<i|1, math.MaxUint32>>i)
	}
	for _, text := range []string{strings.Repeat("\x00", 4), bytesOf(r, 5), bytesOf(r, 9), strings.Repeat("\xff", 12), bytesOf(r, 40)} {
		sum := Crc(text)
		for at := 0; at+32 <= 8*len(text); at++ {
			for _, p := range append(patterns, r.Uint32()|1, r.Uint32()|1<<31) {
				if Crc(turned(text, at, p)) == sum {
					t.Errorf("%x: %x turned from bit %d on makes the same sum", text, p, at)
				}
			}
		}
	}
}

// TestShortTexts3_9: no two texts of two bytes have one sum, since all their bits are within 32.
func TestShortTexts3_9(t *testing.T) {
	seen := make(map[uint32]string)
	for v := range 1 << 16 {
		text := string([]byte{byte(v >> 8), byte(v)})
		if other, met := seen[Crc(text)]; met {
			t.Errorf("%x and %x have one sum", other, text)
		}
		seen[Crc(text)] = text
	}
}
