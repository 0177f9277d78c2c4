package meter

import (
	"cmp"
	"math"
	"math/big"
	"math/rand"
	"slices"
	"strings"
	"testing"

	"annals/api"
	"annals/text"
)

// of are the bits of a float as Go writes it.
func of(x float64) uint64 { return math.Float64bits(x) }

const (
	most   = 1 << 53            // up to here floats are as close as ints
	nan    = 0x7ff8000000000000 // a quiet one
	signal = 0x7ff0000000000001 // a signalling one
	great  = 0x7fefffffffffffff // the greatest float
)

// edgeInts are the ints around 0, around each power of two, halfway between two floats, at both ends, and some by chance; both signs of each.
func edgeInts() []int {
	out := []int{math.MinInt, math.MinInt + 1, math.MinInt + 512, math.MinInt + 1024, math.MinInt + 1536, math.MaxInt - 511, math.MaxInt - 512, math.MaxInt}
	for n := range 20 {
		out = append(out, n, -n)
	}
	for k := range 62 {
		p := 1 << k
		out = append(out, p-1, p, p+1, -p, -p-1, 3*p/2)
	}
	for k := range 10 { // between 2 to the 53 + k and the next power, floats are 2 to the k + 1 apart
		step := 2 << k
		for i := range 8 {
			v := most<<k + i*step/2
			out = append(out, v-1, v, v+1, -v-1, -v, -v+1)
		}
	}
	r := rand.New(rand.NewSource(1))
	for k := range 63 {
		out = append(out, r.Int()>>k, -r.Int()>>k)
	}
	return out
}

// edgeFloats are bits around the ends of each kind of float, around halves and decimal halves, around the ends of int, and some by chance; both signs of each.
func edgeFloats() []uint64 {
	out := []uint64{0, 1, 2, 3, 1<<52 - 1, 1 << 52, 1<<52 + 1, great - 1, great, infinite, signal, nan, nan + 1, signBit - 1}
	for _, x := range []float64{0.001, 0.1, 0.2, 0.3, 0.49999999999999994, 0.5, 0.50000000000000011, 0.999, 1, 1.005, 2.675, 1e-9, 5e-10, 1e15, 1e22, 1e300, 123456.789} {
		out = append(out, of(x))
	}
	for n := range 40 {
		out = append(out, of(float64(n)), of(float64(n)+0.5), of(float64(n)/8), of(float64(n)/1024), of(float64(n)/100))
	}
	for _, x := range []float64{1 << 51, 1 << 52, 1 << 53, 1 << 62, 1 << 63, 3 << 62, 1 << 64} {
		for i := range uint64(5) {
			out = append(out, of(x)-i, of(x)+i)
		}
	}
	r := rand.New(rand.NewSource(2))
	for range 120 {
		out = append(out, r.Uint64())
		out = append(out, of(float64(r.Int63()>>r.Intn(63))/float64(int(1)<<r.Intn(30)))) // of few bits behind the point: halves among them
	}
	for _, bits := range slices.Clone(out) {
		out = append(out, bits^signBit)
	}
	return out
}

// someSamples are lists of all kinds: none, alike, of both signs, with sums and squares about the ends of int.
func someSamples() [][]int {
	list := [][]int{nil, {}, {0}, {5}, {-7}, {1, 2}, {2, 1}, {7, 7, 7}, {-3, 3}, {math.MaxInt}, {math.MinInt}, {math.MinInt, math.MaxInt}}
	r := rand.New(rand.NewSource(3))
	ends := []int{math.MaxInt, math.MinInt, 1 << 62, -1 << 62, 3037000499, 3037000500, -3037000499, 1 << 31, 1<<31 - 1, 65535, 1 << 53, 1, -1, 0}
	for range 1500 {
		sort := r.Intn(4)
		part := make([]int, 1+r.Intn(9))
		for i := range part {
			switch sort {
			case 0:
				part[i] = r.Intn(7) - 3
			case 1:
				part[i] = (r.Int() >> r.Intn(63)) * (1 - 2*r.Intn(2))
			case 2:
				part[i] = ends[r.Intn(len(ends))]
			case 3:
				part[i] = (1 << 31 / len(part)) - r.Intn(1<<28) // n q is about the end of int
			}
		}
		list = append(list, part)
	}
	return list
}

// TestExamples: the chapter's table, line by line.
func TestExamples(t *testing.T) {
	same := func(what string, got, want any) {
		t.Helper()
		if got != want {
			t.Errorf("%s = %v, want %v", what, got, want)
		}
	}
	word := func(bits uint64, e api.Errno) [2]uint64 { return [2]uint64{bits, uint64(e)} }
	whole := func(n int, e api.Errno) [2]int { return [2]int{n, int(e)} }
	refused := func(e api.Errno) [2]uint64 { return word(0, e) }

	same("Bits(0)", Bits(0), uint64(0))
	same("Bits(1)", Bits(1), uint64(0x3ff0000000000000))
	same("Bits(-2)", Bits(-2), uint64(0xc000000000000000))
	same("Bits(2^53 + 1)", Bits(most+1), Bits(most))
	same("Bits(2^53 + 3)", Bits(most+3), Bits(most+4))
	same("Quot(1, 3)", word(Quot(1, 3)), word(0x3fd5555555555555, api.OK))
	same("Quot(0, -5)", word(Quot(0, -5)), word(signBit, api.OK))
	same("Quot(1, 0)", word(Quot(1, 0)), refused(api.ErrZero))
	same("1 + 2", word(Add(Bits(1), Bits(2))), word(Bits(3), api.OK))
	same("1 + 2^-53", word(Add(Bits(1), of(0x1p-53))), word(Bits(1), api.OK))
	same("1 + 3 2^-54", word(Add(Bits(1), of(0x3p-54))), word(0x3ff0000000000001, api.OK))
	same("-0 + 0", word(Add(signBit, 0)), word(0, api.OK))
	same("-0 + -0", word(Add(signBit, signBit)), word(signBit, api.OK))
	same("the greatest float, twice", word(Add(great, great)), refused(api.ErrOver))
	same("infinity + 0", word(Add(infinite, 0)), refused(api.ErrValue))
	for x, n := range map[float64]int{2.5: 3, -2.5: -3, 0.49: 0, -0.5: -1, 1 << 62: 1 << 62, -1 << 63: -1 << 63} {
		same("Whole", whole(Whole(of(x))), whole(n, api.OK))
	}
	same("Whole of 2^63", whole(Whole(of(1<<63))), whole(0, api.ErrOver))
	same("Whole of not a number", whole(Whole(nan)), whole(0, api.ErrValue))
	same("Mean(1, 2)", word(Mean([]int{1, 2})), word(of(1.5), api.OK))
	same("Mean of none", word(Mean(nil)), refused(api.ErrZero))
	same("Mean(2^62, 2^62)", word(Mean([]int{1 << 62, 1 << 62})), refused(api.ErrOver))
	same("Variance(1, 2, 3, 4)", word(Variance([]int{1, 2, 3, 4})), word(of(1.25), api.OK))
	same("Variance(5)", word(Variance([]int{5})), word(0, api.OK))
	same("Variance(2^32)", word(Variance([]int{1 << 32})), refused(api.ErrOver))
	same("Rank(5 1 4, 1, 2)", whole(Rank([]int{5, 1, 4}, 1, 2)), whole(4, api.OK))
	same("Rank(5 1 4, 0, 9)", whole(Rank([]int{5, 1, 4}, 0, 9)), whole(1, api.OK))
	same("Rank(5 1 4, 99, 100)", whole(Rank([]int{5, 1, 4}, 99, 100)), whole(5, api.OK))
	same("Rank(1 2, 1, 2)", whole(Rank([]int{1, 2}, 1, 2)), whole(1, api.OK))
	same("Rank(1, 2, 1)", whole(Rank([]int{1}, 2, 1)), whole(0, api.ErrRange))
	same("Rank(1, 0, 0)", whole(Rank([]int{1}, 0, 0)), whole(0, api.ErrRange))
	same("Rank(none, 2, 1)", whole(Rank(nil, 2, 1)), whole(0, api.ErrZero))
	fixed(t, of(2.5), 0, "2", api.OK)
	fixed(t, of(3.5), 0, "4", api.OK)
	fixed(t, of(0.125), 2, "0.12", api.OK)
	fixed(t, of(0.1), 9, "0.100000000", api.OK)
	fixed(t, of(-0.001), 2, "-0.00", api.OK)
	fixed(t, of(1), 10, "", api.ErrRange)
	if s, e := Fixed(great, 0); len(s) != 309 || !strings.HasPrefix(s, "179769313") || e != api.OK {
		t.Errorf("Fixed of the greatest float = %q, %d", s, int(e))
	}
}

// fixed looks whether Fixed answers so.
func fixed(t *testing.T, bits uint64, digits int, want string, code api.Errno) {
	t.Helper()
	if s, e := Fixed(bits, digits); s != want || e != code {
		t.Errorf("Fixed(%#x, %d) = %q, %d, want %q, %d", bits, digits, s, int(e), want, int(code))
	}
}

// TestModel: the model's floats are those of the machine where both are sure.
func TestModel(t *testing.T) {
	for _, bits := range edgeFloats() {
		if !isFinite(bits) {
			continue
		}
		value, _ := exact(bits).Float64()
		if want := math.Float64frombits(bits); value != want {
			t.Fatalf("exact(%#x) = %v, want %v", bits, value, want)
		}
		if back := nearest(exact(bits), bits == signBit); back != bits {
			t.Fatalf("nearest of the value of %#x = %#x", bits, back)
		}
	}
	beyond := new(big.Rat).Add(exact(great), new(big.Rat).Sub(exact(infinite), exact(great)))
	if got := nearest(beyond, false); got != infinite {
		t.Errorf("nearest of 2^1024 = %#x", got)
	}
}

func TestBits_25_1(t *testing.T) {
	for _, v := range edgeInts() {
		if got, want := Bits(v), modelBits(v); got != want {
			t.Errorf("Bits(%d) = %#x, want %#x", v, got, want)
		}
	}
}

func TestQuot_25_2(t *testing.T) {
	ints := edgeInts()
	r := rand.New(rand.NewSource(4))
	look := func(a, b int) {
		got, e := Quot(a, b)
		if want, code := modelQuot(a, b); got != want || e != code {
			t.Errorf("Quot(%d, %d) = %#x, %d, want %#x, %d", a, b, got, int(e), want, int(code))
		}
	}
	for _, a := range ints {
		for _, b := range []int{0, 1, -1, 3, -5, 10, most + 1, math.MaxInt, math.MinInt, ints[r.Intn(len(ints))], r.Int()} {
			look(a, b)
		}
		look(0, a)
	}
}

func TestAdd_25_3(t *testing.T) {
	floats := edgeFloats()
	r := rand.New(rand.NewSource(5))
	refusals := map[api.Errno]int{}
	look := func(a, b uint64) {
		got, e := Add(a, b)
		if want, code := modelAdd(a, b); got != want || e != code {
			t.Errorf("Add(%#x, %#x) = %#x, %d, want %#x, %d", a, b, got, int(e), want, int(code))
		}
		refusals[e]++
	}
	for _, a := range floats {
		apart := uint64(r.Intn(60)) << 52 // of an exponent not far below
		for _, b := range []uint64{0, signBit, 1, great, great | signBit, of(0x1p970), of(0x1p969), infinite, nan, a, a ^ signBit, a - 1, a - apart, a - apart | 1, floats[r.Intn(len(floats))]} {
			look(a, b)
			look(b, a)
		}
	}
	look(great, of(0x1p970)-1)                   // just below the half that becomes an infinity
	look(great|signBit, (of(0x1p970)-1)|signBit) // and below 0
	for _, e := range []api.Errno{api.OK, api.ErrValue, api.ErrOver} {
		if refusals[e] < 50 {
			t.Errorf("%d was answered %d times", int(e), refusals[e])
		}
	}
}

func TestWhole_25_4(t *testing.T) {
	for _, bits := range edgeFloats() {
		got, e := Whole(bits)
		if want, code := modelWhole(bits); got != want || e != code {
			t.Errorf("Whole(%#x) = %d, %d, want %d, %d", bits, got, int(e), want, int(code))
		}
	}
	for _, c := range []struct {
		x    float64
		n    int
		code api.Errno
	}{
		{0x1p63, 0, api.ErrOver}, {0x1p63 - 1024, math.MaxInt - 1023, api.OK}, {-0x1p63, math.MinInt, api.OK}, {-0x1p63 - 2048, 0, api.ErrOver},
		{1.5, 2, api.OK}, {-1.5, -2, api.OK}, {0.49999999999999994, 0, api.OK}, {-0.49999999999999994, 0, api.OK}, {0x1p52 + 1, 1<<52 + 1, api.OK},
		{4503599627370495.5, 1 << 52, api.OK}, {math.Inf(1), 0, api.ErrValue}, {math.Inf(-1), 0, api.ErrValue}, {math.MaxFloat64, 0, api.ErrOver}, {-math.MaxFloat64, 0, api.ErrOver},
	} {
		if n, e := Whole(of(c.x)); n != c.n || e != c.code {
			t.Errorf("Whole of %v = %d, %d, want %d, %d", c.x, n, int(e), c.n, int(c.code))
		}
	}
}

// kept looks whether what was handed in is as it was, the spare room too.
func kept(t *testing.T, list []int, call func(list []int)) {
	t.Helper()
	room := append(slices.Clone(list), 77, 78, 79)
	before := slices.Clone(room)
	call(room[:len(list)])
	if !slices.Equal(room, before) {
		t.Errorf("the list or its spare room was changed: %v, before it %v", room, before)
	}
}

func TestMean_25_5(t *testing.T) {
	answers := map[api.Errno]int{}
	for _, list := range someSamples() {
		kept(t, list, func(list []int) {
			got, e := Mean(list)
			if want, code := modelMean(list); got != want || e != code {
				t.Errorf("Mean(%v) = %#x, %d, want %#x, %d", list, got, int(e), want, int(code))
			}
			answers[e]++
		})
	}
	if answers[api.OK] < 200 || answers[api.ErrOver] < 50 || answers[api.ErrZero] < 2 {
		t.Errorf("answers: %v", answers)
	}
	// What leaves int on the way is refused, though the whole sum would be one; in another order it is none.
	if got, e := Mean([]int{math.MaxInt, 1, -1}); got != 0 || e != api.ErrOver {
		t.Errorf("Mean on the way over = %#x, %d", got, int(e))
	}
	third, _ := modelQuot(math.MaxInt, 3)
	if got, e := Mean([]int{math.MaxInt, -1, 1}); got != third || e != api.OK {
		t.Errorf("Mean on the way below = %#x, %d", got, int(e))
	}
	if got, e := Mean([]int{math.MinInt, -1, 1}); got != 0 || e != api.ErrOver {
		t.Errorf("Mean on the way under = %#x, %d", got, int(e))
	}
}

// TestTally: a tally tells of each sum and product whether it leaves int, of those too that no measure asks for.
func TestTally(t *testing.T) {
	ints := edgeInts()
	for i, a := range ints {
		for k, b := range []int{0, 1, -1, 2, -2, math.MaxInt, math.MinInt, -a, a, ints[(13*i+5)%len(ints)]} {
			var plus, times tally
			c, d := plus.plus(a, b), times.times(a, b)
			x, y := big.NewInt(int64(a)), big.NewInt(int64(b))
			sum, product := new(big.Int).Add(x, y), new(big.Int).Mul(x, y)
			if plus.left == sum.IsInt64() || !plus.left && int64(c) != sum.Int64() {
				t.Errorf("%d: %d + %d = %d, left %v", k, a, b, c, plus.left)
			}
			if times.left == product.IsInt64() || !times.left && int64(d) != product.Int64() {
				t.Errorf("%d: %d * %d = %d, left %v", k, a, b, d, times.left)
			}
			plus.plus(0, 0)
			times.times(0, 0)
			if plus.left == sum.IsInt64() || times.left == product.IsInt64() {
				t.Errorf("%d, %d: a tally has forgotten", a, b)
			}
		}
	}
}

func TestVariance_25_6(t *testing.T) {
	list := append(someSamples(), []int{3037000499}, []int{-3037000499}, []int{3037000500}, []int{-3037000500}, []int{3037000499, 1},
		[]int{3037000499, -3037000499}, []int{1 << 31, 0}, []int{1<<31 - 1, 65535}, []int{math.MaxInt, -math.MaxInt}, []int{1 << 32, -1 << 32}, []int{1 << 62, -1 << 62})
	answers := map[api.Errno]int{}
	for _, list := range list {
		kept(t, list, func(list []int) {
			got, e := Variance(list)
			if want, code := modelVariance(list); got != want || e != code {
				t.Errorf("Variance(%v) = %#x, %d, want %#x, %d", list, got, int(e), want, int(code))
			}
			answers[e]++
		})
	}
	if answers[api.OK] < 200 || answers[api.ErrOver] < 200 || answers[api.ErrZero] < 2 {
		t.Errorf("answers: %v", answers)
	}
}

// TestVariance_25_6_exact: far from 0 it is still reckoned from whole numbers, not from rounded ones.
func TestVariance_25_6_exact(t *testing.T) {
	far := 1 << 29
	for _, list := range [][]int{{far, far + 1}, {far, far, far + 1}, {far - 1, far, far + 1}, {-far, -far + 3}} {
		near := slices.Clone(list)
		for i := range near {
			near[i] -= list[0]
		}
		a, one := Variance(list)
		b, other := Variance(near)
		if a != b || one != api.OK || other != api.OK {
			t.Errorf("Variance(%v) = %#x, %d, but of the same list moved %#x, %d", list, a, int(one), b, int(other))
		}
	}
}

// shares are the shares that are asked for, wrong ones too.
func shares(r *rand.Rand) [][2]int {
	out := [][2]int{{0, 1}, {1, 1}, {0, 9}, {1, 2}, {1, 3}, {2, 3}, {99, 100}, {1, 1000000}, {999999, 1000000}, {1000000, 1000000}, {0, 1000000},
		{2, 1}, {0, 0}, {1, 0}, {-1, 5}, {0, -1}, {-1, -1}, {-2, -1}, {0, 1000001}, {1000001, 1000001}, {1000001, 1000000}, {math.MaxInt, math.MaxInt}, {math.MinInt, 1}, {0, math.MinInt}}
	for range 4 {
		den := 1 + r.Intn(12)
		out = append(out, [2]int{r.Intn(den + 1), den})
	}
	return out
}

func TestRank_25_7(t *testing.T) {
	r := rand.New(rand.NewSource(6))
	answers := map[api.Errno]int{}
	for _, list := range someSamples() {
		for _, share := range shares(r) {
			kept(t, list, func(list []int) {
				got, e := Rank(list, share[0], share[1])
				if want, code := modelRank(list, share[0], share[1]); got != want || e != code {
					t.Errorf("Rank(%v, %d, %d) = %d, %d, want %d, %d", list, share[0], share[1], got, int(e), want, int(code))
				}
				answers[e]++
			})
		}
	}
	if answers[api.OK] < 1000 || answers[api.ErrRange] < 1000 || answers[api.ErrZero] < 40 {
		t.Errorf("answers: %v", answers)
	}
}

// TestRank_25_7_many: among the numbers from 1 on, the k-th is k.
func TestRank_25_7_many(t *testing.T) {
	for _, n := range []int{1, 2, 999, 1000, 1001, 200000} {
		list := make([]int, n)
		for i, p := range rand.New(rand.NewSource(7)).Perm(n) {
			list[i] = p + 1
		}
		for _, share := range [][2]int{{0, 7}, {1, 1}, {1, 2}, {1, 3}, {333, 1000}, {1, 1000000}, {999999, 1000000}, {500001, 1000000}} {
			k := max((share[0]*n+share[1]-1)/share[1], 1)
			if got, e := Rank(list, share[0], share[1]); got != k || e != api.OK {
				t.Errorf("Rank(1 to %d, %d, %d) = %d, %d, want %d", n, share[0], share[1], got, int(e), k)
			}
		}
	}
}

func TestFixed_25_8(t *testing.T) {
	for _, bits := range edgeFloats() {
		for _, digits := range []int{0, 1, 2, 3, 8, 9, -1, 10, math.MinInt, math.MaxInt} {
			want, code := modelFixed(bits, digits)
			fixed(t, bits, digits, want, code)
		}
	}
	for _, c := range []struct {
		x      float64
		digits int
		want   string
	}{
		{0.5, 0, "0"}, {1.5, 0, "2"}, {0.25, 1, "0.2"}, {0.75, 1, "0.8"}, {9.5, 0, "10"}, {0.999, 2, "1.00"}, {-0.5, 0, "-0"}, {math.Copysign(0, -1), 0, "-0"},
		{math.Copysign(0, -1), 2, "-0.00"}, {2.675, 2, "2.67"}, {1.005, 2, "1.00"}, {0x1p-10, 9, "0.000976562"}, {0x3p-10, 9, "0.002929688"}, {math.SmallestNonzeroFloat64, 9, "0.000000000"}, {1e22, 1, "10000000000000000000000.0"},
	} {
		fixed(t, of(c.x), c.digits, c.want, api.OK)
	}
	fixed(t, nan, 10, "", api.ErrValue) // the float is looked at first
	fixed(t, infinite|signBit, -1, "", api.ErrValue)
}

func TestBitsBack_25_9(t *testing.T) {
	ints := edgeInts()
	slices.Sort(ints)
	last := math.Inf(-1)
	for _, v := range ints {
		if n, e := Whole(Bits(v)); v >= -most && v <= most && (n != v || e != api.OK) {
			t.Errorf("Whole(Bits(%d)) = %d, %d", v, n, int(e))
		}
		x := math.Float64frombits(Bits(v))
		if cmp.Compare(x, last) < 0 {
			t.Errorf("Bits(%d) is below the one ahead of it", v)
		}
		last = x
		if q, e := Quot(v, v); v != 0 && (q != Bits(1) || e != api.OK) {
			t.Errorf("Quot(%d, %d) = %#x, %d", v, v, q, int(e))
		}
		if q, e := Quot(v, 1); q != Bits(v) || e != api.OK {
			t.Errorf("Quot(%d, 1) = %#x, %d", v, q, int(e))
		}
	}
}

func TestAddLaws_25_10(t *testing.T) {
	floats := edgeFloats()
	for i, a := range floats {
		b := floats[(7*i+3)%len(floats)]
		one, e := Add(a, b)
		if other, f := Add(b, a); one != other || e != f {
			t.Errorf("Add(%#x, %#x) = %#x, %d, the other way %#x, %d", a, b, one, int(e), other, int(f))
		}
		if sum, e := Add(a, a^signBit); isFinite(a) && (sum != 0 || e != api.OK) {
			t.Errorf("Add(%#x, its opposite) = %#x, %d", a, sum, int(e))
		}
	}
	ints := edgeInts()
	small := func(v int) bool { return v >= -most && v <= most }
	looked := 0
	for i, a := range ints {
		for k := range 5 {
			b := ints[(11*i+k)%len(ints)]
			if !small(a) || !small(b) || !small(a+b) {
				continue
			}
			looked++
			if sum, e := Add(Bits(a), Bits(b)); sum != Bits(a+b) || e != api.OK {
				t.Errorf("Add(Bits(%d), Bits(%d)) = %#x, %d", a, b, sum, int(e))
			}
		}
	}
	if looked < 500 {
		t.Errorf("%d sums of ints", looked)
	}
}

func TestRankShares_25_11(t *testing.T) {
	r := rand.New(rand.NewSource(8))
	for _, list := range someSamples()[2:] {
		n := len(list)
		den := 1 + r.Intn(20)
		num := r.Intn(den + 1)
		v, e := Rank(list, num, den)
		less, notAbove := around(list, v)
		if e != api.OK || notAbove*den < num*n || (n-less)*den < (den-num)*n {
			t.Errorf("Rank(%v, %d, %d) = %d, %d", list, num, den, v, int(e))
		}
		if v, e := Rank(list, 0, 1); v != slices.Min(list) || e != api.OK {
			t.Errorf("Rank(%v, 0, 1) = %d, %d", list, v, int(e))
		}
		if v, e := Rank(list, 1, 1); v != slices.Max(list) || e != api.OK {
			t.Errorf("Rank(%v, 1, 1) = %d, %d", list, v, int(e))
		}
	}
}

func TestFixedInts_25_12(t *testing.T) {
	for _, v := range edgeInts() {
		if v < -most || v > most {
			continue
		}
		fixed(t, Bits(v), 0, text.Dec(v), api.OK)
		for d := 1; d <= 9; d++ {
			fixed(t, Bits(v), d, text.Dec(v)+"."+strings.Repeat("0", d), api.OK)
		}
	}
}

func TestAlike_25_13(t *testing.T) {
	measured := 0
	for _, v := range edgeInts() {
		for n := 1; n <= 12; n++ {
			list := slices.Repeat([]int{v}, n)
			if v > most/n || v < -most/n {
				continue
			}
			if m, e := Mean(list); m != Bits(v) || e != api.OK {
				t.Errorf("Mean of %d times %d = %#x, %d", n, v, m, int(e))
			}
			q, e := Variance(list)
			if q != 0 || e != api.OK && e != api.ErrOver {
				t.Errorf("Variance of %d times %d = %#x, %d", n, v, q, int(e))
			}
			if e == api.OK {
				measured++
			}
		}
	}
	if measured < 500 {
		t.Errorf("%d variances", measured)
	}
}
