package nums

import (
	"bytes"
	"fmt"
	"math"
	"math/big"
	"math/rand"
	"strings"
	"testing"

	"annals/api"
)

// edgeInts are the ints around 0, around each power of two and at both ends, and some between.
func edgeInts() []int {
	out := []int{math.MinInt, math.MinInt + 1, math.MaxInt - 1, math.MaxInt, -300, -8, -5, -3}
	for n := range 70 {
		out = append(out, n, -n)
	}
	for k := range 63 {
		p := 1 << k
		out = append(out, p-1, p, p+1, -p, 3*(p>>1))
	}
	r := rand.New(rand.NewSource(1))
	for k := range 63 {
		out = append(out, r.Int()>>k)
	}
	return out
}

// edgeWords are the numbers around each power of two, both ends, and some between.
func edgeWords() []uint64 {
	out := []uint64{0, 127, 128, 258, 300, 16383, 16384, math.MaxUint64 - 1, math.MaxUint64}
	for k := range 64 {
		p := uint64(1) << k
		out = append(out, p-1, p, p+1)
	}
	r := rand.New(rand.NewSource(2))
	for k := range 64 {
		out = append(out, r.Uint64()>>k)
	}
	return out
}

// looseTexts are texts of bytes that are likely to matter to Var, and of any bytes.
func looseTexts() []string {
	r := rand.New(rand.NewSource(3))
	few := []byte{0, 1, 2, 127, 128, 129, 255}
	var out []string
	for range 4000 {
		b := make([]byte, r.Intn(13))
		for i := range b {
			if b[i] = few[r.Intn(len(few))]; r.Intn(3) == 0 {
				b[i] = byte(r.Intn(256))
			}
		}
		out = append(out, string(b))
	}
	for n := range 12 {
		for _, last := range few {
			out = append(out, strings.Repeat("\x80", n)+string([]byte{last}), strings.Repeat("\xff", n)+string([]byte{last}))
		}
	}
	return out
}

func TestAddExamples(t *testing.T) {
	for _, c := range []struct {
		a, b, want int
		e          api.Errno
	}{
		{1 << 62, 1<<62 - 1, math.MaxInt, api.OK},
		{1 << 62, 1 << 62, 0, api.ErrOver},
		{-1, math.MaxInt, 0, api.ErrRange},
		{math.MaxInt, -1, 0, api.ErrRange},
		{math.MinInt, math.MinInt, 0, api.ErrRange},
		{math.MaxInt, math.MaxInt, 0, api.ErrOver},
		{math.MaxInt, 1, 0, api.ErrOver},
		{math.MaxInt, 0, math.MaxInt, api.OK},
		{0, 0, 0, api.OK},
		{2, 3, 5, api.OK},
	} {
		if got, e := Add(c.a, c.b); got != c.want || e != c.e {
			t.Errorf("1.1: Add(%d, %d) = %d, %d, want %d, %d", c.a, c.b, got, e, c.want, c.e)
		}
	}
}

func TestMulExamples(t *testing.T) {
	for _, c := range []struct {
		a, b, want int
		e          api.Errno
	}{
		{1 << 31, 1 << 31, 1 << 62, api.OK},
		{1 << 32, 1 << 31, 0, api.ErrOver},
		{0, math.MaxInt, 0, api.OK},
		{math.MaxInt, 0, 0, api.OK},
		{math.MaxInt, -1, 0, api.ErrRange},
		{0, -1, 0, api.ErrRange},
		{-1, 0, 0, api.ErrRange},
		{math.MinInt, -1, 0, api.ErrRange},
		{math.MaxInt, 1, math.MaxInt, api.OK},
		{1 << 32, 1 << 32, 0, api.ErrOver},
		{6, 7, 42, api.OK},
	} {
		if got, e := Mul(c.a, c.b); got != c.want || e != c.e {
			t.Errorf("1.1: Mul(%d, %d) = %d, %d, want %d, %d", c.a, c.b, got, e, c.want, c.e)
		}
	}
}

// wantSum is what 1.1 asks where the sum or product is exact.
func wantSum(a, b int, exact *big.Int) (int, api.Errno) {
	if a < 0 || b < 0 {
		return 0, api.ErrRange
	}
	if !exact.IsInt64() {
		return 0, api.ErrOver
	}
	return int(exact.Int64()), api.OK
}

func TestSumsAreExact(t *testing.T) {
	all := edgeInts()
	for _, a := range all {
		for _, b := range all {
			x, y := big.NewInt(int64(a)), big.NewInt(int64(b))
			want, we := wantSum(a, b, new(big.Int).Add(x, y))
			if got, e := Add(a, b); got != want || e != we {
				t.Fatalf("1.1: Add(%d, %d) = %d, %d, want %d, %d", a, b, got, e, want, we)
			}
			want, we = wantSum(a, b, new(big.Int).Mul(x, y))
			if got, e := Mul(a, b); got != want || e != we {
				t.Fatalf("1.1: Mul(%d, %d) = %d, %d, want %d, %d", a, b, got, e, want, we)
			}
		}
	}
}

// checkSum holds sum against exact sums, at and around the bound, whatever kind of number it is asked for.
func checkSum[N int | uint64](t *testing.T, most N) {
	t.Helper()
	for _, a := range []N{0, 1, most / 2, most/2 + 1, most - 1, most} {
		for _, b := range []N{0, 1, most / 2, most/2 + 1, most - 1, most} {
			exact := new(big.Int).Add(new(big.Int).SetUint64(uint64(a)), new(big.Int).SetUint64(uint64(b)))
			fits := exact.Cmp(new(big.Int).SetUint64(uint64(most))) <= 0
			if got, e := sum(a, b, most); fits != (e == api.OK) || fits && uint64(got) != exact.Uint64() || !fits && (got != 0 || e != api.ErrOver) {
				t.Errorf("1.1: sum(%d, %d, %d) = %d, %d", a, b, most, got, e)
			}
		}
	}
	if got, e := sum(5, 0, N(4)); got != 0 || e != api.ErrOver {
		t.Errorf("1.1: sum(5, 0, 4) = %d, %d", got, e)
	}
}

func TestSumOfBothKinds(t *testing.T) {
	checkSum(t, 100)
	checkSum(t, math.MaxInt)
	checkSum(t, uint64(100))
	checkSum(t, uint64(math.MaxUint64))
}

func TestBelowExamples(t *testing.T) {
	for _, c := range []struct {
		n, want int
		e       api.Errno
	}{
		{2, 1, api.OK}, {3, 2, api.OK}, {4, 2, api.OK}, {5, 4, api.OK}, {8, 4, api.OK}, {9, 8, api.OK},
		{1 << 62, 1 << 61, api.OK}, {1<<62 + 1, 1 << 62, api.OK}, {math.MaxInt, 1 << 62, api.OK},
		{1, 0, api.ErrRange}, {0, 0, api.ErrRange}, {-5, 0, api.ErrRange}, {math.MinInt, 0, api.ErrRange},
	} {
		if got, e := Below(c.n); got != c.want || e != c.e {
			t.Errorf("1.2: Below(%d) = %d, %d, want %d, %d", c.n, got, e, c.want, c.e)
		}
	}
}

func TestDigitsExamples(t *testing.T) {
	for _, c := range []struct {
		name    string
		f       func(int) int
		n, want int
	}{
		{"Bits", Bits, 0, 0}, {"Bits", Bits, 1, 1}, {"Bits", Bits, 255, 8}, {"Bits", Bits, 256, 9}, {"Bits", Bits, math.MaxInt, 63}, {"Bits", Bits, -1, 0}, {"Bits", Bits, math.MinInt, 0},
		{"Ones", Ones, 0, 0}, {"Ones", Ones, 255, 8}, {"Ones", Ones, 1 << 62, 1}, {"Ones", Ones, math.MaxInt, 63}, {"Ones", Ones, -1, 0}, {"Ones", Ones, math.MinInt, 0},
		{"Zeros", Zeros, 1, 0}, {"Zeros", Zeros, 12, 2}, {"Zeros", Zeros, 1 << 62, 62}, {"Zeros", Zeros, 0, 63}, {"Zeros", Zeros, -8, 63}, {"Zeros", Zeros, -1, 63}, {"Zeros", Zeros, math.MinInt, 63},
		{"Ceil", Ceil, -3, 0}, {"Ceil", Ceil, 0, 0}, {"Ceil", Ceil, 1, 0}, {"Ceil", Ceil, 2, 1}, {"Ceil", Ceil, 3, 2}, {"Ceil", Ceil, 8, 3}, {"Ceil", Ceil, 9, 4}, {"Ceil", Ceil, 1 << 62, 62}, {"Ceil", Ceil, math.MaxInt, 63}, {"Ceil", Ceil, math.MinInt, 0},
	} {
		if got := c.f(c.n); got != c.want {
			t.Errorf("1.3: %s(%d) = %d, want %d", c.name, c.n, got, c.want)
		}
	}
}

func TestOnesOfEachHalfByte(t *testing.T) {
	for half := range 16 {
		want := strings.Count(fmt.Sprintf("%b", half), "1")
		for i := range 15 {
			if got := Ones(half << (4 * i)); got != want {
				t.Errorf("1.3: Ones(%d << %d) = %d, want %d", half, 4*i, got, want)
			}
		}
	}
}

func TestDigitsAreThoseOfTheNumber(t *testing.T) {
	for _, n := range edgeInts() {
		bits, ones, zeros, ceil := 0, 0, 63, 0
		if n > 0 {
			digits := fmt.Sprintf("%b", n)
			bits, ones, zeros = len(digits), strings.Count(digits, "1"), len(digits)-len(strings.TrimRight(digits, "0"))
		}
		for new(big.Int).Lsh(big.NewInt(1), uint(ceil)).Cmp(big.NewInt(int64(n))) < 0 {
			ceil++
		}
		if Bits(n) != bits || Ones(n) != ones || Zeros(n) != zeros || Ceil(n) != ceil {
			t.Errorf("1.3: Bits, Ones, Zeros, Ceil of %d = %d, %d, %d, %d, want %d, %d, %d, %d", n, Bits(n), Ones(n), Zeros(n), Ceil(n), bits, ones, zeros, ceil)
		}
	}
}

func TestPutBEExamples(t *testing.T) {
	for _, c := range []struct {
		v    uint64
		size int
		want string
		e    api.Errno
	}{
		{258, 2, "\x01\x02", api.OK},
		{258, 3, "\x00\x01\x02", api.OK},
		{258, 1, "", api.ErrOver},
		{0, 0, "", api.ErrRange},
		{math.MaxUint64, 8, "\xff\xff\xff\xff\xff\xff\xff\xff", api.OK},
		{0, 1, "\x00", api.OK},
		{255, 1, "\xff", api.OK},
		{256, 1, "", api.ErrOver},
		{1 << 56, 7, "", api.ErrOver},
		{1<<56 - 1, 7, "\xff\xff\xff\xff\xff\xff\xff", api.OK},
		{math.MaxUint64, 9, "", api.ErrRange},
		{math.MaxUint64, 0, "", api.ErrRange},
		{1, -1, "", api.ErrRange},
		{1, math.MaxInt, "", api.ErrRange},
		{1, math.MinInt, "", api.ErrRange},
	} {
		if got, e := PutBE(c.v, c.size); got != c.want || e != c.e {
			t.Errorf("1.4: PutBE(%d, %d) = %q, %d, want %q, %d", c.v, c.size, got, e, c.want, c.e)
		}
	}
}

func TestBEExamples(t *testing.T) {
	const b = "\x01\x02\x03"
	for _, c := range []struct {
		b        string
		at, size int
		want     uint64
		e        api.Errno
	}{
		{b, 1, 2, 515, api.OK},
		{b, 2, 2, 0, api.ErrRange},
		{b, -1, 1, 0, api.ErrRange},
		{b, math.MaxInt, 1, 0, api.ErrRange},
		{b, 0, 9, 0, api.ErrRange},
		{b, 0, 3, 66051, api.OK},
		{b, 2, 1, 3, api.OK},
		{b, 3, 1, 0, api.ErrRange},
		{b, 0, 0, 0, api.ErrRange},
		{b, 0, -1, 0, api.ErrRange},
		{b, 4, -1, 0, api.ErrRange},
		{b, -1, 2, 0, api.ErrRange},
		{b, math.MaxInt, 8, 0, api.ErrRange},
		{b, math.MinInt, 8, 0, api.ErrRange},
		{b, 0, math.MaxInt, 0, api.ErrRange},
		{b, math.MaxInt, math.MaxInt, 0, api.ErrRange},
		{b + "456789", 0, 9, 0, api.ErrRange},
		{"", 0, 1, 0, api.ErrRange},
		{"\xff\xff\xff\xff\xff\xff\xff\xff", 0, 8, math.MaxUint64, api.OK},
		{"\x80\x00\x00\x00\x00\x00\x00\x01", 0, 8, 1<<63 + 1, api.OK},
	} {
		if got, e := BE(c.b, c.at, c.size); got != c.want || e != c.e {
			t.Errorf("1.5: BE(%q, %d, %d) = %d, %d, want %d, %d", c.b, c.at, c.size, got, e, c.want, c.e)
		}
	}
}

func TestPutVarExamples(t *testing.T) {
	for _, c := range []struct {
		v    uint64
		want string
	}{
		{0, "\x00"}, {1, "\x01"}, {127, "\x7f"}, {128, "\x80\x01"}, {300, "\xac\x02"}, {16383, "\xff\x7f"}, {16384, "\x80\x80\x01"},
		{1 << 63, strings.Repeat("\x80", 9) + "\x01"},
		{1<<63 - 1, strings.Repeat("\xff", 8) + "\x7f"},
		{math.MaxUint64, strings.Repeat("\xff", 9) + "\x01"},
	} {
		if got := PutVar(c.v); got != c.want {
			t.Errorf("1.6: PutVar(%d) = %q, want %q", c.v, got, c.want)
		}
	}
}

func TestPutVarGroups(t *testing.T) {
	for _, v := range edgeWords() {
		var want []byte
		for rest := v; ; rest /= 128 {
			if rest < 128 {
				want = append(want, byte(rest))
				break
			}
			want = append(want, byte(rest%128+128))
		}
		if got := PutVar(v); got != string(want) {
			t.Errorf("1.6: PutVar(%d) = %q, want %q", v, got, want)
		}
		if digits := len(fmt.Sprintf("%b", v)); len(PutVar(v)) != (digits+6)/7 {
			t.Errorf("1.6: PutVar(%d) has %d bytes for %d digits", v, len(PutVar(v)), digits)
		}
	}
}

func TestVarExamples(t *testing.T) {
	nine, low := strings.Repeat("\xff", 9), strings.Repeat("\x80", 9)
	for _, c := range []struct {
		b    string
		at   int
		want uint64
		end  int
		e    api.Errno
	}{
		{"\xac\x02\x05", 0, 300, 2, api.OK},
		{"\xac\x02\x05", 1, 2, 2, api.OK},
		{"\xac\x02\x05", 2, 5, 3, api.OK},
		{"\x00\x00", 0, 0, 1, api.OK},
		{low + "\x01", 0, 1 << 63, 10, api.OK},
		{nine + "\x01\x01", 0, math.MaxUint64, 10, api.OK},

		{"\xac\x02\x05", 3, 0, 0, api.ErrShort},
		{"\xac", 0, 0, 0, api.ErrShort},
		{"", 0, 0, 0, api.ErrShort},
		{low, 0, 0, 0, api.ErrShort},
		{nine, 0, 0, 0, api.ErrShort},

		{"\xac\x02\x05", -1, 0, 0, api.ErrRange},
		{"\xac\x02", 3, 0, 0, api.ErrRange},
		{"", 1, 0, 0, api.ErrRange},
		{"\xac\x02", math.MaxInt, 0, 0, api.ErrRange},
		{"\xac\x02", math.MinInt, 0, 0, api.ErrRange},

		{"\x80\x00", 0, 0, 0, api.ErrForm},
		{"\xff\x80\x00", 0, 0, 0, api.ErrForm},
		{low + "\x00", 0, 0, 0, api.ErrForm},
		{nine + "\x00", 0, 0, 0, api.ErrForm},

		{nine + "\x02", 0, 0, 0, api.ErrOver},
		{low + "\x81", 0, 0, 0, api.ErrOver},
		{low + "\x80", 0, 0, 0, api.ErrOver},
		{low + "\x80\x00", 0, 0, 0, api.ErrOver},
		{nine + "\xff\x01", 0, 0, 0, api.ErrOver},
	} {
		if got, end, e := Var(c.b, c.at); got != c.want || end != c.end || e != c.e {
			t.Errorf("1.7: Var(%q, %d) = %d, %d, %d, want %d, %d, %d", c.b, c.at, got, end, e, c.want, c.end, c.e)
		}
	}
}

// wantVar is 1.7 in its own words, reckoned without bounds.
func wantVar(b string, at int) (uint64, int, api.Errno) {
	v := new(big.Int)
	for i := 0; ; i++ {
		if at+i == len(b) {
			return 0, 0, api.ErrShort
		}
		c := b[at+i]
		if i == 9 && c > 1 {
			return 0, 0, api.ErrOver
		}
		if c == 0 && i != 0 {
			return 0, 0, api.ErrForm
		}
		part := big.NewInt(int64(c % 128))
		v.Add(v, part.Lsh(part, uint(7*i)))
		if c < 128 {
			return v.Uint64(), at + i + 1, api.OK
		}
	}
}

func TestVarOfAnyBytes(t *testing.T) {
	for _, b := range looseTexts() {
		for at := range len(b) + 1 {
			want, wantEnd, we := wantVar(b, at)
			if got, end, e := Var(b, at); got != want || end != wantEnd || e != we {
				t.Fatalf("1.7: Var(%q, %d) = %d, %d, %d, want %d, %d, %d", b, at, got, end, e, want, wantEnd, we)
			}
		}
	}
}

func TestBEThereAndBack(t *testing.T) {
	for _, v := range edgeWords() {
		for size := 1; size <= 8; size++ {
			s, e := PutBE(v, size)
			if fits := size == 8 || v < 1<<(8*size); fits != (e == api.OK) || len(s) != size && fits {
				t.Fatalf("1.4: PutBE(%d, %d) = %q, %d", v, size, s, e)
			}
			if e != api.OK {
				continue
			}
			if got, e := BE(s, 0, size); got != v || e != api.OK {
				t.Errorf("1.8: BE(PutBE(%d, %d)) = %d, %d", v, size, got, e)
			}
		}
	}
}

func TestBEBytesThereAndBack(t *testing.T) {
	for _, b := range looseTexts() {
		for at := range len(b) {
			for size := 1; size <= min(8, len(b)-at); size++ {
				v, e := BE(b, at, size)
				if s, pe := PutBE(v, size); e != api.OK || pe != api.OK || s != b[at:at+size] {
					t.Fatalf("1.8: PutBE(BE(%q, %d, %d)) = %q, %d, %d", b, at, size, s, e, pe)
				}
			}
		}
	}
}

func TestBEKeepsOrder(t *testing.T) {
	all := edgeWords()
	for _, a := range all {
		for _, b := range all {
			for size := 1; size <= 8; size++ {
				x, xe := PutBE(a, size)
				y, ye := PutBE(b, size)
				if xe == api.OK && ye == api.OK && (a < b) != (bytes.Compare([]byte(x), []byte(y)) < 0) {
					t.Fatalf("1.8: PutBE(%d, %d) = %q, PutBE(%d, %d) = %q: not in the numbers' order", a, size, x, b, size, y)
				}
			}
		}
	}
}

func TestVarThereAndBack(t *testing.T) {
	around := []string{"", "\x00", "\x80", "\xff\xff\xff\xff\xff\xff\xff\xff\xff\xff\xff", "ab"}
	for _, v := range edgeWords() {
		for _, x := range around {
			for _, y := range around {
				end := len(x) + len(PutVar(v))
				if got, n, e := Var(x+PutVar(v)+y, len(x)); got != v || n != end || e != api.OK {
					t.Fatalf("1.9: Var(%q, %d) = %d, %d, %d, want %d, %d", x+PutVar(v)+y, len(x), got, n, e, v, end)
				}
			}
		}
	}
}

func TestVarHasOneForm(t *testing.T) {
	read := 0
	for _, b := range looseTexts() {
		for at := range len(b) {
			v, end, e := Var(b, at)
			if e != api.OK {
				continue
			}
			read++
			if s := PutVar(v); s != b[at:end] {
				t.Fatalf("1.9: Var(%q, %d) = %d, %d, but PutVar of it is %q", b, at, v, end, s)
			}
		}
	}
	if read == 0 {
		t.Error("1.9: nothing was read")
	}
}

func TestNoPutVarBeginsAnother(t *testing.T) {
	all := edgeWords()
	for _, a := range all {
		for _, b := range all {
			if a != b && strings.HasPrefix(PutVar(b), PutVar(a)) {
				t.Fatalf("1.9: PutVar(%d) = %q begins PutVar(%d) = %q", a, PutVar(a), b, PutVar(b))
			}
		}
	}
}

func TestBelowIsAPowerOfTwo(t *testing.T) {
	for _, n := range edgeInts() {
		p, e := Below(n)
		if n < 2 {
			if p != 0 || e != api.ErrRange {
				t.Errorf("1.2: Below(%d) = %d, %d", n, p, e)
			}
			continue
		}
		if e != api.OK || p >= n || n-p > p || Ones(p) != 1 {
			t.Errorf("1.10: Below(%d) = %d, %d", n, p, e)
		}
	}
}

func TestDigitsHangTogether(t *testing.T) {
	for _, n := range edgeInts() {
		if n <= 0 {
			continue
		}
		if 1<<(Bits(n)-1) > n {
			t.Errorf("1.10: Bits(%d) = %d", n, Bits(n))
		}
		if Ceil(n) != Bits(n-1) {
			t.Errorf("1.10: Ceil(%d) = %d, Bits(%d) = %d", n, Ceil(n), n-1, Bits(n-1))
		}
		if rest := n >> Zeros(n); rest<<Zeros(n) != n || rest%2 != 1 {
			t.Errorf("1.10: Zeros(%d) = %d", n, Zeros(n))
		}
		if n > math.MaxInt/2 {
			continue
		}
		if Ones(2*n) != Ones(n) || Ones(2*n+1) != Ones(n)+1 {
			t.Errorf("1.10: Ones of %d, twice that, and one more = %d, %d, %d", n, Ones(n), Ones(2*n), Ones(2*n+1))
		}
	}
}
