package peer

import (
	"encoding/base64"
	"math"
	"math/rand"
	"regexp"
	"slices"
	"strconv"
	"strings"
	"testing"

	"annals/api"
)

// The oracle of 22.6: the form as an expression, its parts read by the library.

var form = regexp.MustCompile(`(?s)\Aold (0|[1-9][0-9]*)\n((?:[A-Za-z0-9+/=]+\n){0,63})\n(.*)\z`)

func wantAsked(b string) (api.Request, api.Errno) {
	m := form.FindStringSubmatch(b)
	if m == nil {
		return api.Request{}, api.ErrForm
	}
	old, err := strconv.Atoi(m[1])
	if err != nil || old > 1<<62 {
		return api.Request{}, api.ErrForm
	}
	r := api.Request{Old: old, Note: b[len(b)-len(m[3]):]} // as it is, whatever bytes are no runes
	for line := range strings.Lines(m[2]) {
		h, err := base64.StdEncoding.Strict().DecodeString(strings.TrimSuffix(line, "\n"))
		if err != nil || len(h) < 1 || len(h) > 32 {
			return api.Request{}, api.ErrForm
		}
		r.Proof = append(r.Proof, string(h))
	}
	return r, api.OK
}

func sameRequest(a, b api.Request) bool {
	return a.Old == b.Old && slices.Equal(a.Proof, b.Proof) && a.Note == b.Note
}

// reads looks whether a text is read as it should be, and written again as it is.
func reads(t *testing.T, b string) api.Errno {
	t.Helper()
	got, e := Asked(b)
	want, r := wantAsked(b)
	if !sameRequest(got, want) || e != r {
		t.Fatalf("Asked(%.300q) = %+v, %d, want %+v, %d", b, got, int(e), want, int(r))
	}
	if e != api.OK {
		return e
	}
	if again, e := Ask(got); again != b || e != api.OK {
		t.Fatalf("Asked took %.300q, Ask writes %.300q, %d", b, again, int(e))
	}
	return api.OK
}

func TestAskExamples(t *testing.T) {
	if s, e := Ask(api.Request{Old: 3, Proof: []string{"\xff"}, Note: "x"}); s != "old 3\n/w==\n\nx" || e != api.OK {
		t.Errorf("Ask = %q, %d", s, int(e))
	}
	if r, e := Asked("old 3\n\n"); !sameRequest(r, api.Request{Old: 3}) || e != api.OK {
		t.Errorf("Asked = %+v, %d", r, int(e))
	}
	for _, b := range []string{"old 03\n\nx", "old 3\nx"} {
		if r, e := Asked(b); !sameRequest(r, api.Request{}) || e != api.ErrForm {
			t.Errorf("Asked(%q) = %+v, %d", b, r, int(e))
		}
	}
}

// TestAsk_22_6: each bound, and which refusal goes ahead.
func TestAsk_22_6(t *testing.T) {
	hashes := func(count, size int) []string { return slices.Repeat([]string{strings.Repeat("h", size)}, count) }
	for _, c := range []struct {
		old   int
		proof []string
		want  api.Errno
	}{
		{0, nil, api.OK}, {1 << 62, nil, api.OK}, {-1, nil, api.ErrRange}, {1<<62 + 1, nil, api.ErrRange}, {math.MinInt, nil, api.ErrRange}, {math.MaxInt, nil, api.ErrRange},
		{-1, hashes(64, 0), api.ErrRange}, {-1, hashes(1, 33), api.ErrRange}, {5, hashes(63, 32), api.OK}, {5, hashes(64, 32), api.ErrMany}, {5, hashes(64, 0), api.ErrMany}, {5, hashes(70000, 33), api.ErrMany},
		{5, hashes(1, 1), api.OK}, {5, hashes(1, 0), api.ErrHash}, {5, hashes(1, 33), api.ErrHash}, {5, append(hashes(62, 32), ""), api.ErrHash}, {5, append(hashes(62, 32), strings.Repeat("h", 33)), api.ErrHash}, {5, append(hashes(62, 32), "h"), api.OK},
	} {
		s, e := Ask(api.Request{Old: c.old, Proof: c.proof, Note: "note"})
		if e != c.want || (s == "") != (e != api.OK) {
			t.Errorf("Ask(%d, %d hashes) = %.99q, %d, want %d", c.old, len(c.proof), s, int(e), int(c.want))
		}
		if e != api.OK {
			continue
		}
		want := "old " + strconv.Itoa(c.old) + "\n"
		for _, h := range c.proof {
			want += base64.StdEncoding.EncodeToString([]byte(h)) + "\n"
		}
		if s != want+"\nnote" {
			t.Errorf("Ask(%d, %d hashes) = %.99q", c.old, len(c.proof), s)
		}
	}
}

// TestAsked_22_6: texts that are none, and some that are.
func TestAsked_22_6(t *testing.T) {
	line := "/w==\n"
	long := base64.StdEncoding.EncodeToString([]byte(strings.Repeat("h", 32))) + "\n"
	tooLong := base64.StdEncoding.EncodeToString([]byte(strings.Repeat("h", 33))) + "\n"
	for b, want := range map[string]api.Errno{
		"old 0\n\n": api.OK, "old 0\n\n\n": api.OK, "old 0\n\n\n\nx": api.OK, "old 0\n\nold 0\n\n": api.OK, "old 0\n\n\x00\xff": api.OK, "old 0\n\n\xff\xfe": api.OK, "old 4611686018427387904\n\n": api.OK,
		"old 3\n" + line + "\nx": api.OK, "old 3\n" + long + line + "\n": api.OK, "old 3\n" + strings.Repeat(line, 63) + "\n": api.OK, "old 3\n\n" + strings.Repeat(line, 64): api.OK,
		"": api.ErrForm, "\n": api.ErrForm, "\n\n": api.ErrForm, "old": api.ErrForm, "old ": api.ErrForm, "old \n\n": api.ErrForm, "old 3": api.ErrForm, "old 3\n": api.ErrForm, "old 3 \n\n": api.ErrForm, "old\n3\n\n": api.ErrForm, " old 3\n\n": api.ErrForm,
		"old 4611686018427387905\n\n": api.ErrForm, "old 9223372036854775808\n\n": api.ErrForm, "old -0\n\n": api.ErrForm, "old +3\n\n": api.ErrForm, "old 3\r\n\r\n": api.ErrForm, "OLD 3\n\n": api.ErrForm, "\nold 3\n\n": api.ErrForm, "old  3\n\n": api.ErrForm, "old 3\n \n\n": api.ErrForm,
		"old 3\n" + strings.Repeat(line, 64) + "\n": api.ErrForm, "old 3\n" + strings.Repeat(line, 70000) + "\n": api.ErrForm, "old 3\n" + tooLong + "\n": api.ErrForm, "old 3\n" + line: api.ErrForm, "old 3\n/w=\n\n": api.ErrForm, "old 3\n/x==\n\n": api.ErrForm, "old 3\n/w==/w==\n\n": api.ErrForm, "old 3\n====\n\n": api.ErrForm, "old 3\n" + line + " \n\n": api.ErrForm,
	} {
		if e := reads(t, b); e != want {
			t.Errorf("Asked(%.99q) = %d, want %d", b, int(e), int(want))
		}
	}
}

// TestAskedShort_22_6: all short texts of some bytes, behind the opening and without it.
func TestAskedShort_22_6(t *testing.T) {
	taken := 0
	var grow func(b string, left int)
	grow = func(b string, left int) {
		for _, opening := range []string{"old ", "", "old 1\n/w=", "old 1\nAA"} {
			if reads(t, opening+b) == api.OK {
				taken++
			}
		}
		for _, next := range []string{"0", "7", "-", "\n", "=", "A", " "} {
			if left > 0 {
				grow(b+next, left-1)
			}
		}
	}
	grow("", 6)
	if taken < 100 {
		t.Errorf("%d texts were taken only", taken)
	}
}

// TestThereAndBack_22_11: any request that is written, is read; bytes that are changed in it are told or are another one's.
func TestThereAndBack_22_11(t *testing.T) {
	r := rand.New(rand.NewSource(22))
	bytes := func(n int) string {
		b := make([]byte, n)
		r.Read(b)
		return string(b)
	}
	for range 400 {
		q := api.Request{Old: int(r.Uint64() >> (2 + r.Intn(62))), Note: bytes(r.Intn(60)) + []string{"", "\n", "\n\n", "\n\nx"}[r.Intn(4)]}
		for range r.Intn(64) * r.Intn(2) {
			q.Proof = append(q.Proof, bytes(1+r.Intn(32)))
		}
		s, e := Ask(q)
		if e != api.OK {
			t.Fatalf("Ask(%+v) = %d", q, int(e))
		}
		if got, e := Asked(s); !sameRequest(got, q) || e != api.OK {
			t.Fatalf("Asked(%q) = %+v, %d", s, got, int(e))
		}
		for range 30 {
			b := []byte(s)
			b[r.Intn(len(b))] ^= 1 << r.Intn(8)
			reads(t, string(b))
			i := r.Intn(len(s) + 1)
			reads(t, s[:i])
			reads(t, s[i:])
			reads(t, s[:i]+"\n"+s[i:])
		}
	}
}
