package text

import (
	"encoding/base64"
	"encoding/hex"
	"fmt"
	"math"
	"math/big"
	"math/rand"
	"slices"
	"strconv"
	"strings"
	"testing"

	"annals/api"
)

// bytesOf is a text of n bytes, of all kinds of bytes.
func bytesOf(r *rand.Rand, n int) string {
	b := make([]byte, n)
	for i := range b {
		b[i] = byte(r.Intn(256))
	}
	return string(b)
}

// one is the text of one byte.
func one(b int) string {
	return string([]byte{byte(b)})
}

// allBytes is every byte once, from the first to the last.
func allBytes() string {
	b := make([]byte, 256)
	for i := range b {
		b[i] = byte(i)
	}
	return string(b)
}

// fromPieces is a text of up to most of these pieces.
func fromPieces(r *rand.Rand, pieces []string, most int) string {
	s := ""
	for range r.Intn(most + 1) {
		s += pieces[r.Intn(len(pieces))]
	}
	return s
}

// escaped is a text's word, by 4.6, in another way.
func escaped(s string) string {
	if s == "" {
		return "%"
	}
	w := ""
	for _, b := range []byte(s) {
		if strings.Contains("!\"#$&'()*+,-./0123456789:;<=>?@ABCDEFGHIJKLMNOPQRSTUVWXYZ[\\]^_`abcdefghijklmnopqrstuvwxyz{|}~", one(int(b))) {
			w += one(int(b))
		} else {
			w += fmt.Sprintf("%%%02X", b)
		}
	}
	return w
}

// unBase64 is the text whose base64 is s, as another program has it, if there is one.
func unBase64(s string) (string, bool) {
	b, err := base64.StdEncoding.DecodeString(s)
	if err != nil || base64.StdEncoding.EncodeToString(b) != s {
		return "", false
	}
	return string(b), true
}

// unHexOther is the text whose digits are s, as another program has it, if there is one.
func unHexOther(s string) (string, bool) {
	b, err := hex.DecodeString(s)
	if err != nil || hex.EncodeToString(b) != s {
		return "", false
	}
	return string(b), true
}

// unescaped is the text whose word is w, if there is one: it guesses the text by what each escape would mean, and sees whether it has this word.
func unescaped(w string) (string, bool) {
	s := ""
	if w != "%" {
		for i := 0; i < len(w); i++ {
			if v, err := strconv.ParseUint(w[min(i+1, len(w)):min(i+3, len(w))], 16, 8); w[i] == '%' && err == nil {
				s += one(int(v))
				i += 2
			} else {
				s += w[i : i+1]
			}
		}
	}
	return s, escaped(s) == w
}

// reading is one of the functions that read, what it answers to a text that it refuses, and the same read by other means.
type reading struct {
	name  string
	read  func(s string) (string, api.Errno)
	write func(s string) string
	fault api.Errno
	other func(s string) (string, bool)
}

func readings() []reading {
	return []reading{
		{"UnB64", UnB64, B64, api.ErrBase64, unBase64},
		{"UnHex", UnHex, Hex, api.ErrHex, unHexOther},
		{"Unescape", Unescape, Escape, api.ErrEscape, unescaped},
	}
}

// holds looks whether s is read as by other means.
func (r reading) holds(t *testing.T, s string) {
	t.Helper()
	got, e := r.read(s)
	want, ok := r.other(s)
	if ok && (got != want || e != api.OK) {
		t.Errorf("%s(%q) = %q, %d, want %q", r.name, s, got, e, want)
	}
	if !ok && (got != "" || e != r.fault) {
		t.Errorf("%s(%q) = %q, %d, want a refusal %d", r.name, s, got, e, r.fault)
	}
}

// refuses looks whether each of the texts is refused.
func (r reading) refuses(t *testing.T, texts ...string) {
	t.Helper()
	for _, s := range texts {
		if got, e := r.read(s); got != "" || e != r.fault {
			t.Errorf("%s(%q) = %q, %d, want a refusal %d", r.name, s, got, e, r.fault)
		}
	}
}

// spoilt hands on s with a byte too many, too few, doubled, in its neighbour's place or wrong, at each place.
func spoilt(s string, look func(s string)) {
	for i := range len(s) + 1 {
		for b := range 256 {
			look(s[:i] + one(b) + s[i:])
		}
		if i < len(s) {
			look(s[:i] + s[i+1:])
			for b := range 256 {
				look(s[:i] + one(b) + s[i+1:])
			}
		}
		if i+1 < len(s) {
			look(s[:i] + s[i+1:i+2] + s[i:i+1] + s[i+2:])
		}
	}
}

// TestB64Examples4_1: the chapter's rows and those of RFC 4648.
func TestB64Examples4_1(t *testing.T) {
	for _, c := range []struct{ s, b string }{
		{"", ""}, {"f", "Zg=="}, {"fo", "Zm8="}, {"foo", "Zm9v"}, {"foob", "Zm9vYg=="}, {"fooba", "Zm9vYmE="}, {"foobar", "Zm9vYmFy"},
		{"\xfb\xff\x00", "+/8A"}, {"\x00", "AA=="}, {"\x00\x00", "AAA="}, {"\xff", "/w=="}, {"\xff\xff", "//8="},
	} {
		if got := B64(c.s); got != c.b {
			t.Errorf("B64(%q) = %q, want %q", c.s, got, c.b)
		}
		if got, e := UnB64(c.b); got != c.s || e != api.OK {
			t.Errorf("UnB64(%q) = %q, %d, want %q", c.b, got, e, c.s)
		}
	}
	readings()[0].refuses(t, "Zg", "Zh==", "Zm9=", "Zg==Zg==", "Zm9v\n", "====", "Zm-v",
		"=", "==", "===", "Z===", "Z=g=", "Zg=A", "=Zg=", "Zg=", "Zg===", "Zm8", "Zm8==", "Zm9v=", "Zm9v==", "Zm9v====", "Zm_v", "Z\ng=", "Zg==\n\n\n\n", "\r\nZg", "AAAA====")
}

// TestB64_4_1: every byte alone, ahead and behind, and texts of every length up to 200, so of every length modulo 3.
func TestB64_4_1(t *testing.T) {
	r := rand.New(rand.NewSource(41))
	var texts []string
	for b := range 256 {
		texts = append(texts, one(b), one(b)+"\x00", "\xff"+one(b), "\x00\xff"+one(b), one(b)+one(255-b))
	}
	for n := range 201 {
		texts = append(texts, bytesOf(r, n), strings.Repeat("\x00", n), strings.Repeat("\xff", n))
	}
	texts = append(texts, allBytes(), bytesOf(r, 100000))
	for _, s := range texts {
		want := base64.StdEncoding.EncodeToString([]byte(s))
		if got := B64(s); got != want {
			t.Errorf("B64(%q) = %q, want %q", s, got, want)
		}
		if got, e := UnB64(want); got != s || e != api.OK {
			t.Errorf("UnB64(%q) = %q, %d, want %q", want, got, e, s)
		}
	}
}

// TestUnB64Unused4_1: of all signs that may stand ahead of the padding just those are taken whose unused bits are 0.
func TestUnB64Unused4_1(t *testing.T) {
	for i := range 64 {
		sign := base64Signs[i : i+1]
		for _, c := range []struct {
			s  string
			ok bool
		}{{"A" + sign + "==", i%16 == 0}, {"Zm9vA" + sign + "==", i%16 == 0}, {"AA" + sign + "=", i%4 == 0}, {"Zm9vAA" + sign + "=", i%4 == 0}, {"AAA" + sign, true}} {
			if got, e := UnB64(c.s); c.ok && e != api.OK || !c.ok && (got != "" || e != api.ErrBase64) {
				t.Errorf("UnB64(%q) = %q, %d", c.s, got, e)
			}
		}
	}
}

// TestHexExamples4_2: the chapter's rows, and the empty text.
func TestHexExamples4_2(t *testing.T) {
	for _, c := range []struct{ s, h string }{{"\x00\xab\xff", "00abff"}, {"", ""}, {"\x0f\xf0", "0ff0"}} {
		if got := Hex(c.s); got != c.h {
			t.Errorf("Hex(%q) = %q, want %q", c.s, got, c.h)
		}
		if got, e := UnHex(c.h); got != c.s || e != api.OK {
			t.Errorf("UnHex(%q) = %q, %d, want %q", c.h, got, e, c.s)
		}
	}
	readings()[1].refuses(t, "0", "AB", "0g", " 00", "aB", "Ab", "0x00", "00 ", "00\n", "abc", "0_00", "+0", "-0")
}

// TestHex4_2: every byte alone, and texts of many lengths.
func TestHex4_2(t *testing.T) {
	r := rand.New(rand.NewSource(42))
	texts := []string{allBytes(), bytesOf(r, 100000)}
	for b := range 256 {
		texts = append(texts, one(b))
	}
	for n := range 100 {
		texts = append(texts, bytesOf(r, n))
	}
	for _, s := range texts {
		want := hex.EncodeToString([]byte(s))
		if got := Hex(s); got != want {
			t.Errorf("Hex(%q) = %q, want %q", s, got, want)
		}
		if got, e := UnHex(want); got != s || e != api.OK {
			t.Errorf("UnHex(%q) = %q, %d, want %q", want, got, e, s)
		}
	}
}

// TestDecExamples4_3: the chapter's rows.
func TestDecExamples4_3(t *testing.T) {
	for _, c := range []struct {
		n int
		s string
	}{{0, "0"}, {-7, "-7"}, {math.MinInt, "-9223372036854775808"}, {math.MaxInt, "9223372036854775807"}, {10, "10"}, {-100, "-100"}} {
		if got := Dec(c.n); got != c.s {
			t.Errorf("Dec(%d) = %q, want %q", c.n, got, c.s)
		}
		if got, e := UnDec(c.s); got != c.n || e != api.OK {
			t.Errorf("UnDec(%q) = %d, %d, want %d", c.s, got, e, c.n)
		}
	}
	for _, s := range []string{
		"9223372036854775808", "-9223372036854775809", "00", "-", "1 ", "-0", "+0", "", "+1", "01", "-01", "-00", "--1", "1-", " 1", "-+1", "+-1",
		"0x1", "0b1", "0o7", "1_0", "1e3", "1.0", "\n1", "1\n", "1\x00", "a", "١", "18446744073709551615", "18446744073709551616", "18446744073709551617", "-18446744073709551615",
		"9223372036854775807 ", "09223372036854775807", "92233720368547758070", strings.Repeat("9", 1000), "1" + strings.Repeat("0", 64),
	} {
		if got, e := UnDec(s); got != 0 || e != api.ErrNumber {
			t.Errorf("UnDec(%q) = %d, %d, want ErrNumber", s, got, e)
		}
	}
}

// TestDec4_3: the ints around nought, around the powers of ten and of two, and around the least and the greatest.
func TestDec4_3(t *testing.T) {
	around := []int{0, math.MaxInt, math.MinInt}
	for p := 1; p <= math.MaxInt/10; p *= 10 {
		around = append(around, p*10, -p*10)
	}
	for i := range 63 {
		around = append(around, 1<<i, -1<<i)
	}
	for _, middle := range around {
		for d := -3; d <= 3; d++ {
			n := middle + d
			want := big.NewInt(int64(n)).String()
			if got := Dec(n); got != want {
				t.Errorf("Dec(%d) = %q, want %q", n, got, want)
			}
			if got, e := UnDec(want); got != n || e != api.OK {
				t.Errorf("UnDec(%q) = %d, %d", want, got, e)
			}
		}
	}
}

// TestUnDec4_3: numbers on both sides of the edges, and texts that were numbers but for one byte.
func TestUnDec4_3(t *testing.T) {
	look := func(s string) {
		got, e := UnDec(s)
		n, ok := new(big.Int).SetString(s, 10)
		if ok && n.String() == s && n.IsInt64() {
			if int64(got) != n.Int64() || e != api.OK {
				t.Errorf("UnDec(%q) = %d, %d, want %v", s, got, e, n)
			}
		} else if got != 0 || e != api.ErrNumber {
			t.Errorf("UnDec(%q) = %d, %d, want ErrNumber", s, got, e)
		}
	}
	for _, edge := range []string{"9223372036854775807", "-9223372036854775808", "18446744073709551616", "-18446744073709551616", "0"} {
		n, _ := new(big.Int).SetString(edge, 10)
		for d := int64(-20); d <= 20; d++ {
			look(new(big.Int).Add(n, big.NewInt(d)).String())
		}
	}
	for _, s := range []string{"0", "7", "-7", "10", "-1234567890", "9223372036854775807", "-9223372036854775808"} {
		spoilt(s, look)
	}
}

// TestLinesExamples4_4: the chapter's rows, and lines of other bytes.
func TestLinesExamples4_4(t *testing.T) {
	for _, c := range []struct {
		s     string
		lines []string
	}{{"", nil}, {"\n", []string{""}}, {"a\n\nb\n", []string{"a", "", "b"}}, {"a\n\n", []string{"a", ""}}, {"\n\n\n", []string{"", "", ""}}, {"a\r\n", []string{"a\r"}}, {"\xff\x00\n \n", []string{"\xff\x00", " "}}} {
		if got, e := Lines(c.s); !slices.Equal(got, c.lines) || e != api.OK {
			t.Errorf("Lines(%q) = %q, %d, want %q", c.s, got, e, c.lines)
		}
		if got, e := Join(c.lines); got != c.s || e != api.OK {
			t.Errorf("Join(%q) = %q, %d, want %q", c.lines, got, e, c.s)
		}
	}
	for _, s := range []string{"a", "\n\na", " ", "a\nb", "\n\r", "\r", "\n\x00"} {
		if got, e := Lines(s); len(got) != 0 || e != api.ErrLine {
			t.Errorf("Lines(%q) = %q, %d, want ErrLine", s, got, e)
		}
	}
	for _, lines := range [][]string{{"a\n"}, {"\n"}, {"", "\n"}, {"\na", ""}, {"a", "b\nc", "d"}, {"a", "b", "c\n"}} {
		if got, e := Join(lines); got != "" || e != api.ErrLine {
			t.Errorf("Join(%q) = %q, %d, want ErrLine", lines, got, e)
		}
	}
	if got, e := Join([]string{}); got != "" || e != api.OK {
		t.Errorf("Join of an empty list = %q, %d", got, e)
	}
}

// TestLines4_4: a line for each newline, whatever bytes stand between, and a text's last byte decides alone whether it is taken.
func TestLines4_4(t *testing.T) {
	r := rand.New(rand.NewSource(44))
	for range 3000 {
		s := fromPieces(r, []string{"\n", "\n", "a", "bc", "\r", " ", "\xff", "\x00", "é"}, 12)
		got, e := Lines(s)
		if s != "" && s[len(s)-1] != 10 {
			if len(got) != 0 || e != api.ErrLine {
				t.Errorf("Lines(%q) = %q, %d, want ErrLine", s, got, e)
			}
			continue
		}
		back := ""
		for _, line := range got {
			if strings.Contains(line, "\n") {
				t.Errorf("Lines(%q) has the line %q", s, line)
			}
			back += line + "\n"
		}
		if e != api.OK || back != s {
			t.Errorf("Lines(%q) = %q, %d", s, got, e)
		}
	}
	if got, e := Lines(strings.Repeat("\n", 100000)); len(got) != 100000 || e != api.OK {
		t.Errorf("Lines of 100000 newlines: %d lines, %d", len(got), e)
	}
}

// TestJoinLeaves4_4: the list that is handed in stays as it was, and so does the room behind it (R4).
func TestJoinLeaves4_4(t *testing.T) {
	for _, bad := range []string{"", "\n"} {
		room := []string{"a", "", "c" + bad, "spare", "spare too"}
		was := slices.Clone(room)
		Join(room[:3])
		if !slices.Equal(room, was) {
			t.Errorf("Join changed %q to %q", was, room)
		}
	}
}

// TestAnswersAreNew4_4and4_7: what is written into a list that was answered, or behind it, is not seen in another answer (R4).
func TestAnswersAreNew4_4and4_7(t *testing.T) {
	for _, c := range []struct {
		name string
		list func(s string) ([]string, api.Errno)
		s    string
		want []string
	}{
		{"Lines", Lines, "a\n\nb\n", []string{"a", "", "b"}},
		{"Lines", Lines, "\n", []string{""}},
		{"Lines", Lines, "", nil},
		{"Words", Words, "a % %20", []string{"a", "", " "}},
		{"Words", Words, "%", []string{""}},
		{"Words", Words, "", nil},
	} {
		first, _ := c.list(c.s)
		second, _ := c.list(c.s)
		for i := range first {
			first[i] = "written over"
		}
		for room := first[len(first):cap(first)]; len(room) > 0; room = room[1:] {
			room[0] = "written behind"
		}
		third, e := c.list(c.s)
		if !slices.Equal(second, c.want) || !slices.Equal(third, c.want) || e != api.OK {
			t.Errorf("%s(%q) = %q and then %q, %d, want %q", c.name, c.s, second, third, e, c.want)
		}
	}
}

// TestName4_5: the chapter's rows, the lengths around the edges, and every byte alone and at each end.
func TestName4_5(t *testing.T) {
	for _, c := range []struct {
		s  string
		ok bool
	}{
		{"log.example/2026", true}, {"a", true}, {strings.Repeat("a", 64), true}, {strings.Repeat("~", 63), true}, {"%", true}, {"=-_", true},
		{"", false}, {"a b", false}, {"a+b", false}, {"é", false}, {"a\x7f", false}, {strings.Repeat("a", 65), false}, {strings.Repeat("a", 66), false},
		{strings.Repeat("a", 63) + "+", false}, {strings.Repeat("a", 63) + " ", false}, {strings.Repeat("é", 32), false}, {strings.Repeat("a", 1000), false},
	} {
		if got := Name(c.s); got != c.ok {
			t.Errorf("Name(%q) = %v", c.s, got)
		}
	}
	for b := range 256 {
		ok := b >= 0x21 && b <= 0x7e && b != '+'
		for _, s := range []string{one(b), "a" + one(b), one(b) + "a", "log" + one(b) + "a", strings.Repeat("a", 63) + one(b), strings.Repeat(one(b), 64)} {
			if got := Name(s); got != ok {
				t.Errorf("Name(%q) = %v", s, got)
			}
		}
		if Name(strings.Repeat("a", 64) + one(b)) {
			t.Errorf("Name of 65 bytes with %#x at the end is true", b)
		}
	}
}

// TestEscapeExamples4_6: the chapter's rows.
func TestEscapeExamples4_6(t *testing.T) {
	for _, c := range []struct{ s, w string }{{"", "%"}, {"a b%\n", "a%20b%25%0A"}, {"é", "%C3%A9"}, {"+~!", "+~!"}, {" ", "%20"}, {"%", "%25"}, {"\x00\x7f\x80\xff", "%00%7F%80%FF"}, {"%41", "%2541"}, {"%%", "%25%25"}, {"%2", "%252"}} {
		if got := Escape(c.s); got != c.w {
			t.Errorf("Escape(%q) = %q, want %q", c.s, got, c.w)
		}
		if got, e := Unescape(c.w); got != c.s || e != api.OK {
			t.Errorf("Unescape(%q) = %q, %d, want %q", c.w, got, e, c.s)
		}
	}
	readings()[2].refuses(t, "a%2", "%41", "%7E", "%0a", "%%", "a%", "", "a b",
		"%2", "%G0", "%0G", "%0g", "%fF", "%Ff", "%ff", "%+1", "%-1", "% 1", "%1 ", "%%20", "%20%", "%21", "%2B", "%5A", "a%%", "%a", "%0", "%0\n", "\x7f", "é", "\x00", "\n", "a\n", " ", " a", "a ", "%25%", "%C3%A9é")
}

// TestEscape4_6: every byte alone, ahead, behind, and behind a '%'; each of the 65536 pairs of bytes behind a '%' is read just if it is an escape that would be written.
func TestEscape4_6(t *testing.T) {
	look := readings()[2]
	for b := range 256 {
		for _, s := range []string{one(b), "a" + one(b), one(b) + "a", "%" + one(b), one(b) + "%", "\x00" + one(b), one(b) + one(b)} {
			want := escaped(s)
			if got := Escape(s); got != want {
				t.Errorf("Escape(%q) = %q, want %q", s, got, want)
			}
			if got, e := Unescape(want); got != s || e != api.OK {
				t.Errorf("Unescape(%q) = %q, %d, want %q", want, got, e, s)
			}
			look.holds(t, s)
		}
		for c := range 256 {
			look.holds(t, "%"+one(b)+one(c))
			look.holds(t, "x%"+one(b)+one(c)+"y")
		}
	}
	if got, e := Unescape(Escape(allBytes())); got != allBytes() || e != api.OK || Escape(allBytes()) != escaped(allBytes()) {
		t.Errorf("every byte once: %q, %d", got, e)
	}
}

// TestWordsExamples4_7: the chapter's rows, and a refusal in each of the places.
func TestWordsExamples4_7(t *testing.T) {
	for _, c := range []struct {
		line  string
		words []string
	}{{"", nil}, {"%", []string{""}}, {"a % %20", []string{"a", "", " "}}, {"one", []string{"one"}}, {"% %", []string{"", ""}}, {"a%0A b", []string{"a\n", "b"}}} {
		if got, e := Words(c.line); !slices.Equal(got, c.words) || e != api.OK {
			t.Errorf("Words(%q) = %q, %d, want %q", c.line, got, e, c.words)
		}
	}
	for _, line := range []string{" ", "a ", "a  b", "\t", " a", "  ", "a\tb", "a %4", "%4 a", "a %41 b", "a b\n", "a %2 0", "a b c ", "% ", " %", "a é", "a b  c"} {
		if got, e := Words(line); len(got) != 0 || e != api.ErrEscape {
			t.Errorf("Words(%q) = %q, %d, want ErrEscape", line, got, e)
		}
	}
}

// TestWords4_7: lines of pieces that make words or don't, held against the rule: parted at each blank, each part read.
func TestWords4_7(t *testing.T) {
	r := rand.New(rand.NewSource(47))
	taken, refused := 0, 0
	for range 20000 {
		line := fromPieces(r, []string{" ", " ", "a", "b", "%", "%20", "%25", "%0A", "x", "2", "0", "%41", "~"}, 9)
		var want []string
		ok := true
		for part := range strings.SplitSeq(line, " ") {
			s, fits := unescaped(part)
			want = append(want, s)
			ok = ok && fits
		}
		if line == "" {
			want, ok = nil, true
		}
		got, e := Words(line)
		if ok {
			taken++
			if !slices.Equal(got, want) || e != api.OK {
				t.Errorf("Words(%q) = %q, %d, want %q", line, got, e, want)
			}
			continue
		}
		refused++
		if len(got) != 0 || e != api.ErrEscape {
			t.Errorf("Words(%q) = %q, %d, want ErrEscape", line, got, e)
		}
	}
	if taken < 1000 || refused < 1000 {
		t.Errorf("%d lines were words and %d were not", taken, refused)
	}
}

// TestThereAndBack4_8: what is written is read, whatever it is.
func TestThereAndBack4_8(t *testing.T) {
	r := rand.New(rand.NewSource(48))
	for _, c := range readings() {
		for n := range 300 {
			for _, s := range []string{bytesOf(r, n), strings.Repeat("\x00", n), strings.Repeat("%", n), strings.Repeat("=", n), strings.Repeat(" ", n)} {
				if got, e := c.read(c.write(s)); got != s || e != api.OK {
					t.Errorf("%s of what was written for %q = %q, %d", c.name, s, got, e)
				}
			}
		}
	}
	for range 20000 {
		n := int(r.Uint64()) >> r.Intn(64)
		if got, e := UnDec(Dec(n)); got != n || e != api.OK {
			t.Errorf("UnDec(Dec(%d)) = %d, %d", n, got, e)
		}
	}
	for range 3000 {
		lines := make([]string, r.Intn(6))
		for i := range lines {
			lines[i] = strings.ReplaceAll(bytesOf(r, r.Intn(5)), "\n", "")
		}
		s, e := Join(lines)
		if e != api.OK {
			t.Fatalf("Join(%q) refuses: %d", lines, e)
		}
		if got, e := Lines(s); !slices.Equal(got, lines) || e != api.OK {
			t.Errorf("Lines(Join(%q)) = %q, %d", lines, got, e)
		}
	}
}

// TestOneText4_8: what is read is just what would be written: texts with a sign too many, too few or wrong at each place, and texts of the alphabets' signs in any order.
func TestOneText4_8(t *testing.T) {
	good := map[string][]string{
		"UnB64":    {"", "Zg==", "Zm8=", "Zm9v", "Zm9vYg==", "+/8A+/8=", "AAAAAAAA", "////"},
		"UnHex":    {"", "00", "abff", "0123456789abcdef"},
		"Unescape": {"%", "a", "%20", "a%20b%25%0A", "%C3%A9", "+~!", "%00%FFz"},
	}
	pieces := map[string][]string{
		"UnB64":    {"A", "Q", "Z", "g", "w", "8", "/", "+", "=", "==", "-", "\n"},
		"UnHex":    {"0", "9", "a", "f", "ab", "A", "g", " "},
		"Unescape": {"%", "2", "0", "A", "F", "a", "~", "%20", "%41", "%0", " "},
	}
	r := rand.New(rand.NewSource(480))
	for _, c := range readings() {
		for _, s := range good[c.name] {
			if _, e := c.read(s); e != api.OK {
				t.Errorf("%s(%q) refuses: %d", c.name, s, e)
			}
			spoilt(s, func(s string) { c.holds(t, s) })
		}
		for range 20000 {
			s := fromPieces(r, pieces[c.name], 9)
			c.holds(t, s)
			if got, e := c.read(s); e == api.OK && c.write(got) != s {
				t.Errorf("%s takes %q, and %q is written for what it reads", c.name, s, c.write(got))
			}
		}
	}
	for range 3000 {
		s := fromPieces(r, []string{"\n", "\n", "a", "\r"}, 6)
		if lines, e := Lines(s); e == api.OK {
			if got, e := Join(lines); got != s || e != api.OK {
				t.Errorf("Join(Lines(%q)) = %q, %d", s, got, e)
			}
		}
	}
}

// TestWordsOfEscapes4_9: any texts at all, escaped, with one blank between each two, are one line of signs and blanks, and are read back.
func TestWordsOfEscapes4_9(t *testing.T) {
	r := rand.New(rand.NewSource(49))
	for n := range 12 {
		for range 500 {
			texts := make([]string, n)
			words := make([]string, n)
			for i := range texts {
				texts[i] = bytesOf(r, r.Intn(4))
				if r.Intn(2) == 0 {
					texts[i] = fromPieces(r, []string{" ", "%", "%20", "\n", "a", "\x00"}, 4)
				}
				words[i] = Escape(texts[i])
				if words[i] == "" {
					t.Errorf("Escape(%q) is empty", texts[i])
				}
				for _, b := range []byte(words[i]) {
					if b < 0x21 || b > 0x7e {
						t.Errorf("Escape(%q) = %q has the byte %#x", texts[i], words[i], b)
					}
				}
			}
			if got, e := Words(strings.Join(words, " ")); !slices.Equal(got, texts) || e != api.OK {
				t.Errorf("Words of %q = %q, %d, want %q", words, got, e, texts)
			}
		}
	}
}

// TestPieces4_10: what is written of two texts together is what is written of each, one behind the other, where it is promised.
func TestPieces4_10(t *testing.T) {
	r := rand.New(rand.NewSource(410))
	for n := range 40 {
		for m := range 40 {
			a, b := bytesOf(r, n), bytesOf(r, m)
			if got := B64(a+b) == B64(a)+B64(b); n%3 == 0 && !got {
				t.Errorf("B64(%q + %q) is not B64 of each", a, b)
			}
			if Hex(a+b) != Hex(a)+Hex(b) {
				t.Errorf("Hex(%q + %q) is not Hex of each", a, b)
			}
			if n > 0 && m > 0 && Escape(a+b) != Escape(a)+Escape(b) {
				t.Errorf("Escape(%q + %q) is not Escape of each", a, b)
			}
		}
	}
}
