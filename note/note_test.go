package note

import (
	"crypto/hmac"
	"crypto/sha256"
	"encoding/base64"
	"fmt"
	"math"
	"math/rand"
	"slices"
	"strconv"
	"strings"
	"testing"
	"unicode/utf8"

	"annals/api"
)

var (
	logKey  = api.Key{Name: "log", Secret: "s"}
	witness = api.Key{Name: "w", Secret: "x"}

	// Two secrets whose keys have one name and, by chance, one ID.
	twin  = api.Key{Name: "log", Secret: "60360"}
	other = api.Key{Name: "log", Secret: "12170"}
)

// code is the library's HMAC.
func code(secret, msg string) string {
	h := hmac.New(sha256.New, []byte(secret))
	h.Write([]byte(msg))
	return string(h.Sum(nil))
}

// keyID is the chapter's rule of layer 3, by the library.
func keyID(k api.Key) string {
	sum := sha256.Sum256([]byte(k.Name + "\n\x02" + code(k.Secret, "annals key")))
	return string(sum[:4])
}

func sigOf(k api.Key, body string) api.Sig {
	return api.Sig{Name: k.Name, ID: keyID(k), Mac: code(k.Secret, body)}
}

func sigLine(s api.Sig) string {
	return "— " + s.Name + " " + base64.StdEncoding.EncodeToString([]byte(s.ID+s.Mac)) + "\n"
}

func signedBy(body string, keys ...api.Key) string {
	out := body + "\n"
	for _, k := range keys {
		out += sigLine(sigOf(k, body))
	}
	return out
}

func numbered(n int) []api.Key {
	var list []api.Key
	for i := range n {
		list = append(list, api.Key{Name: "k" + strconv.Itoa(i), Secret: "s" + strconv.Itoa(i)})
	}
	return list
}

func sigsOf(body string, keys ...api.Key) []api.Sig {
	var list []api.Sig
	for _, k := range keys {
		list = append(list, sigOf(k, body))
	}
	return list
}

func alike(a, b api.Opened) bool {
	return a.Text == b.Text && slices.Equal(a.Good, b.Good) && slices.Equal(a.Rest, b.Rest)
}

func same(a, b api.Checkpoint) bool {
	return a.Origin == b.Origin && a.Size == b.Size && a.Root == b.Root && slices.Equal(a.Ext, b.Ext)
}

// short is a text as it is told in a failure.
func short(s string) string {
	if len(s) > 200 {
		return fmt.Sprintf("%q and %d bytes more", s[:200], len(s)-200)
	}
	return strconv.Quote(s)
}

func signs(t *testing.T, body string, keys []api.Key, want string, e api.Errno) {
	t.Helper()
	if got, r := Sign(body, keys); got != want || r != e {
		t.Errorf("Sign(%s, %d keys) = %s, %d, want %s, %d", short(body), len(keys), short(got), r, short(want), e)
	}
}

func opens(t *testing.T, note string, known []api.Key, want api.Opened, e api.Errno) {
	t.Helper()
	if got, r := Open(note, known); !alike(got, want) || r != e {
		t.Errorf("Open(%s, %d known) = %+v, %d, want %+v, %d", short(note), len(known), got, r, want, e)
	}
}

func adds(t *testing.T, note string, k api.Key, want string, e api.Errno) {
	t.Helper()
	if got, r := Add(note, k); got != want || r != e {
		t.Errorf("Add(%s, %+v) = %s, %d, want %s, %d", short(note), k, short(got), r, short(want), e)
	}
}

func tells(t *testing.T, c api.Checkpoint, want string, e api.Errno) {
	t.Helper()
	if got, r := Text(c); got != want || r != e {
		t.Errorf("Text(%+v) = %s, %d, want %s, %d", c, short(got), r, short(want), e)
	}
}

func parses(t *testing.T, s string, want api.Checkpoint, e api.Errno) {
	t.Helper()
	if got, r := Parse(s); !same(got, want) || r != e {
		t.Errorf("Parse(%s) = %+v, %d, want %+v, %d", short(s), got, r, want, e)
	}
}

// TestExamples: the chapter's table, line by line.
func TestExamples(t *testing.T) {
	k := []api.Key{logKey}
	hi := "hi\n\n" + sigLine(sigOf(logKey, "hi\n"))
	none := api.Opened{}
	signs(t, "hi\n", k, hi, api.OK)
	if lines := strings.Split(hi, "\n"); len(lines[2]) != len("— log ")+48 {
		t.Errorf("the signature's line is %q", lines[2])
	}
	for _, body := range []string{"hi", "", "a\tb\n", "\xff\n"} {
		signs(t, body, k, "", api.ErrNote)
	}
	signs(t, "hi\n", nil, "", api.ErrEmpty)
	signs(t, "hi\n", numbered(17), "", api.ErrMany)
	signs(t, "hi\n", []api.Key{{Name: "a b", Secret: "s"}}, "", api.ErrName)
	signs(t, "hi\n", []api.Key{{Name: "a+b", Secret: "s"}}, "", api.ErrName)
	signs(t, "hi\n", []api.Key{logKey, logKey}, "", api.ErrNote)
	opens(t, hi, k, api.Opened{Text: "hi\n", Good: sigsOf("hi\n", logKey)}, api.OK)
	opens(t, hi, []api.Key{{Name: "log", Secret: "t"}}, none, api.ErrUnsigned)
	opens(t, hi, nil, none, api.ErrUnsigned)
	opens(t, strings.Replace(hi, "hi", "ho", 1), k, none, api.ErrSig)
	opens(t, strings.Replace(hi, "log", "lag", 1), k, none, api.ErrUnsigned)
	opens(t, hi[:len(hi)-1], k, none, api.ErrNote)
	opens(t, hi+" ", k, none, api.ErrNote)
	opens(t, hi+sigLine(sigOf(logKey, "hi\n")), k, none, api.ErrNote)
	opens(t, "", k, none, api.ErrNote)
	adds(t, hi, witness, hi+sigLine(sigOf(witness, "hi\n")), api.OK)
	adds(t, hi, logKey, hi, api.OK)
	parted := "a\n\nb\n\n" + sigLine(sigOf(logKey, "a\n\nb\n"))
	signs(t, "a\n\nb\n", k, parted, api.OK)
	opens(t, parted, k, api.Opened{Text: "a\n\nb\n", Good: sigsOf("a\n\nb\n", logKey)}, api.OK)

	c := api.Checkpoint{Origin: "log", Size: 7, Root: "\x00", Ext: []string{"x"}}
	tells(t, c, "log\n7\nAA==\nx\n", api.OK)
	tells(t, api.Checkpoint{Origin: "a b", Size: -1}, "", api.ErrName)
	tells(t, api.Checkpoint{Origin: "log", Size: -1}, "", api.ErrRange)
	tells(t, api.Checkpoint{Origin: "log", Size: 7}, "", api.ErrHash)
	tells(t, api.Checkpoint{Origin: "log", Size: 7, Root: "\x00", Ext: []string{""}}, "", api.ErrLine)
	c.Ext = nil
	parses(t, "log\n7\nAA==\n", c, api.OK)
	for _, s := range []string{"log\n07\nAA==\n", "log\n7\nAA==", "log\n7\nAB==\n"} {
		parses(t, s, api.Checkpoint{}, api.ErrPoint)
	}
}

// noNames are names that are none by layer 4.
func noNames() []string {
	return []string{"", " ", "a b", "a+b", "+", "é", "a\n", "a\x00", "a\x7f", "—", strings.Repeat("n", 65)}
}

func TestID_20_1(t *testing.T) {
	for _, name := range []string{"log", "!", "~", "log.example/2026", "a%2=", strings.Repeat("n", 64)} {
		for _, secret := range []string{"", "s", "\x00\xff\n", strings.Repeat("k", 65)} {
			k := api.Key{Name: name, Secret: secret}
			if id, e := ID(k); id != keyID(k) || e != api.OK {
				t.Errorf("ID(%+v) = %x, %d", k, id, e)
			}
		}
	}
	for _, name := range noNames() {
		if id, e := ID(api.Key{Name: name, Secret: "s"}); id != "" || e != api.ErrName {
			t.Errorf("ID of the name %q = %x, %d", name, id, e)
		}
	}
}

// bodies are texts that go, and such as don't, told by the library and by bytes.
func bodies() []string {
	list := []string{"", "\n", "\n\n", "hi", "hi\n", "a\n\nb\n", "a\n\n", "\n\na\n", " \n", "é\n", "\ufffd\n", "\xff\n", "\x80\n", "\xc3\n", "\xc0\x80\n", "\xed\xa0\x80\n", "\xf4\x90\x80\x80\n", "\xf0\x9f\x98\x80\n", "\xf0\x9f\x98\n", "\ufeff\n", "\ufffe\n", "\u0085\u2028\n", "hi\n\xff", "hi\n ", "— log AAAA\n", "hi\xef\xbf\n", "\xef\xbf\xbd\xbd\n"}
	for b := range 256 {
		list = append(list, string([]byte{'a', byte(b), '\n'}), string([]byte{byte(b)}))
	}
	list = append(list, signedBy("hi\n", logKey), signedBy("hi\n", logKey, witness)+"x\n")
	return list
}

func goesByBytes(s string) bool {
	for i := range len(s) {
		if s[i] < 32 && s[i] != '\n' {
			return false
		}
	}
	return s != "" && s[len(s)-1] == '\n' && utf8.ValidString(s)
}

func TestSignTexts_20_2(t *testing.T) {
	went := 0
	for _, body := range bodies() {
		if !goesByBytes(body) {
			signs(t, body, []api.Key{logKey}, "", api.ErrNote)
			continue
		}
		went++
		signs(t, body, []api.Key{logKey}, signedBy(body, logKey), api.OK)
		signs(t, body, []api.Key{witness, logKey, twin}, signedBy(body, witness, logKey, twin), api.OK)
	}
	if went < 100 {
		t.Errorf("%d texts went", went)
	}
}

func TestSignRefusals_20_2(t *testing.T) {
	bad := api.Key{Name: "a b", Secret: "s"}
	long := strings.Repeat("x", api.MaxNote) + "\n"
	signs(t, "hi", nil, "", api.ErrNote)
	signs(t, "hi", numbered(17), "", api.ErrNote)
	signs(t, long[:api.MaxNote], nil, "", api.ErrNote)
	signs(t, long, nil, "", api.ErrEmpty)
	signs(t, long, append(numbered(16), bad), "", api.ErrMany)
	signs(t, long, append(numbered(1), numbered(16)...), "", api.ErrMany)
	signs(t, long, []api.Key{bad}, "", api.ErrName)
	signs(t, long, []api.Key{logKey, logKey}, "", api.ErrNote)
	signs(t, long, []api.Key{logKey}, "", api.ErrBig)
	signs(t, "hi\n", []api.Key{logKey, bad, logKey}, "", api.ErrName)
	signs(t, "hi\n", []api.Key{logKey, logKey, bad}, "", api.ErrNote)
	signs(t, "hi\n", []api.Key{logKey, witness, logKey}, "", api.ErrNote)
	signs(t, "hi\n", []api.Key{bad, bad}, "", api.ErrName)
	for _, name := range noNames() {
		signs(t, "hi\n", []api.Key{{Name: name}}, "", api.ErrName)
		signs(t, "hi\n", append(numbered(15), api.Key{Name: name}), "", api.ErrName)
	}
}

// TestSignKeys_20_2: keys are told apart by name and ID, not by their secrets.
func TestSignKeys_20_2(t *testing.T) {
	if keyID(twin) != keyID(other) || code(twin.Secret, "") == code(other.Secret, "") {
		t.Fatal("the two secrets don't have one ID and unlike codes")
	}
	signs(t, "hi\n", []api.Key{twin, other}, "", api.ErrNote)
	nought := api.Key{Name: "log", Secret: "s\x00"}
	signs(t, "hi\n", []api.Key{logKey, nought}, "", api.ErrNote)
	another := []api.Key{logKey, {Name: "log", Secret: "t"}, {Name: "lag", Secret: "s"}}
	signs(t, "hi\n", another, signedBy("hi\n", another...), api.OK)
	signs(t, "hi\n", numbered(16), signedBy("hi\n", numbered(16)...), api.OK)
	signs(t, "hi\n", append(numbered(15), numbered(1)...), "", api.ErrNote)
}

// TestSignLongest_20_2: a note has MaxNote bytes at most, whatever of it is text and what signatures.
func TestSignLongest_20_2(t *testing.T) {
	for _, keys := range [][]api.Key{{logKey}, {witness, logKey}, numbered(16), {{Name: strings.Repeat("n", 64)}}} {
		room := api.MaxNote - len(signedBy("", keys...))
		body := strings.Repeat("é", (room-1)/2) + strings.Repeat("x", (room-1)%2) + "\n"
		note := signedBy(body, keys...)
		if len(note) != api.MaxNote {
			t.Fatalf("the note has %d bytes", len(note))
		}
		signs(t, body, keys, note, api.OK)
		signs(t, "x"+body, keys, "", api.ErrBig)
		opens(t, note, keys, api.Opened{Text: body, Good: sigsOf(body, keys...)}, api.OK)
	}
	signs(t, strings.Repeat("x", 1<<22)+"\n", numbered(16), "", api.ErrBig)
}

// sigForms are lines, of which the first is a signature's and the others are none that could stand in a note.
func sigForms() []string {
	raw := keyID(logKey) + code("s", "hi\n")
	b64 := base64.StdEncoding.EncodeToString([]byte(raw))
	list := []string{
		"— log " + b64, "—  log " + b64, "— log  " + b64, "— log " + b64 + " ", " — log " + b64, "—log " + b64, "- log " + b64, "– log " + b64,
		"\u2014\u2014 log " + b64, "— log" + b64, "— log", "— log ", "—", "— ", "—  ", "x", " ", "— " + b64, "—  " + b64, "— log\t" + b64, "—\tlog " + b64,
		"— log " + b64[:47], "— log " + b64[:44], "— log " + b64[:47] + "=", "— log " + b64[:46] + "==", "— log " + b64 + "AAAA", "— log " + b64 + "=", "— log " + b64[:47] + "-",
		"— log " + b64 + "\r", "— log " + b64 + " " + b64, "— log x " + b64, "\xe2\x80 log " + b64, "\xe2\x80\x94\xa0log " + b64, "\u2014\u00a0log " + b64,
	}
	for _, name := range noNames() {
		list = append(list, "— "+name+" "+b64)
	}
	return append(list, "— log "+base64.StdEncoding.EncodeToString([]byte(raw[:34])), "— log "+base64.StdEncoding.EncodeToString([]byte(raw[:35])),
		"— log "+base64.StdEncoding.EncodeToString([]byte(raw+"x")), "— log "+base64.URLEncoding.EncodeToString([]byte(strings.Repeat("\xff", 36))))
}

func TestOpenForms_20_3(t *testing.T) {
	keys := []api.Key{logKey, witness}
	forms := sigForms()
	good, wit := sigOf(logKey, "hi\n"), sigOf(witness, "hi\n")
	opens(t, "hi\n\n"+forms[0]+"\n"+sigLine(wit), keys, api.Opened{Text: "hi\n", Good: []api.Sig{good, wit}}, api.OK)
	for _, line := range forms[1:] {
		for _, note := range []string{"hi\n\n" + line + "\n", "hi\n\n" + line + "\n" + sigLine(wit), "hi\n\n" + sigLine(wit) + line + "\n"} {
			opens(t, note, keys, api.Opened{}, api.ErrNote)
			adds(t, note, witness, "", api.ErrNote)
		}
	}
	for _, note := range []string{"\n", "\n\n", "\n\n\n", "hi", "hi\n", "hi\n\n", "hi\n\n\n", sigLine(good), "\n" + sigLine(good), "hi\n" + sigLine(good), signedBy("hi\n", logKey) + "\n", signedBy("hi\n", logKey) + "\n\n", signedBy("hi\n", logKey) + " ", "hi\n\n" + sigLine(good) + "\n" + sigLine(good)[1:]} {
		opens(t, note, keys, api.Opened{}, api.ErrNote)
	}
}

// TestOpenTexts_20_3: the text is all ahead of the last empty line.
func TestOpenTexts_20_3(t *testing.T) {
	for _, body := range bodies() {
		note := signedBy(body, witness, logKey)
		if !goesByBytes(body) {
			opens(t, note, []api.Key{logKey}, api.Opened{}, api.ErrNote)
			continue
		}
		opens(t, note, []api.Key{logKey}, api.Opened{Text: body, Good: sigsOf(body, logKey), Rest: sigsOf(body, witness)}, api.OK)
	}
}

func TestOpenMany_20_3(t *testing.T) {
	keys := numbered(17)
	opens(t, signedBy("hi\n", keys[:16]...), keys, api.Opened{Text: "hi\n", Good: sigsOf("hi\n", keys[:16]...)}, api.OK)
	opens(t, signedBy("hi\n", keys...), keys, api.Opened{}, api.ErrNote)
	twice := append(sigsOf("hi\n", keys[:3]...), sigOf(keys[0], "ho\n"))
	opens(t, "hi\n\n"+sigLine(twice[0])+sigLine(twice[1])+sigLine(twice[2])+sigLine(twice[3]), keys, api.Opened{}, api.ErrNote)
	opens(t, "hi\n\n"+sigLine(sigOf(twin, "hi\n"))+sigLine(sigOf(other, "hi\n")), keys, api.Opened{}, api.ErrNote)
	odd := []string{"\n", signedBy("hi\n", keys[:2]...), "hi"}
	for _, note := range odd {
		long := strings.Repeat("x\n", api.MaxNote/2) + note
		opens(t, long[:api.MaxNote+1], keys, api.Opened{}, api.ErrBig)
		opens(t, long[:api.MaxNote], keys, api.Opened{}, api.ErrNote)
	}
}

// TestOpenKnown_20_3: which of the known keys a signature is looked at with, and in which order what is wrong is told.
func TestOpenKnown_20_3(t *testing.T) {
	ho := func(keys ...api.Key) []api.Sig { return sigsOf("ho\n", keys...) }
	lines := func(sigs ...api.Sig) string {
		out := "ho\n\n"
		for _, s := range sigs {
			out += sigLine(s)
		}
		return out
	}
	byTwin := lines(ho(twin)...)
	opens(t, byTwin, []api.Key{twin, other}, api.Opened{Text: "ho\n", Good: ho(twin)}, api.OK)
	opens(t, byTwin, []api.Key{other, twin}, api.Opened{}, api.ErrSig)
	opens(t, byTwin, []api.Key{logKey, witness, {Name: "lag", Secret: "12170"}, twin, other, twin}, api.Opened{Text: "ho\n", Good: ho(twin)}, api.OK)
	opens(t, byTwin, []api.Key{other}, api.Opened{}, api.ErrSig)

	wrong := sigOf(logKey, "hi\n")
	opens(t, lines(ho(witness)[0], wrong), []api.Key{witness}, api.Opened{Text: "ho\n", Good: ho(witness), Rest: []api.Sig{wrong}}, api.OK)
	opens(t, lines(wrong, ho(witness)[0]), []api.Key{witness}, api.Opened{Text: "ho\n", Good: ho(witness), Rest: []api.Sig{wrong}}, api.OK)
	for _, known := range [][]api.Key{{witness, logKey}, {logKey, witness}, {logKey}} {
		opens(t, lines(ho(witness)[0], wrong), known, api.Opened{}, api.ErrSig)
		opens(t, lines(wrong, ho(witness)[0]), known, api.Opened{}, api.ErrSig)
	}
	opens(t, lines(wrong), []api.Key{witness}, api.Opened{}, api.ErrUnsigned)

	mixed := numbered(6)
	opens(t, signedBy("ho\n", mixed...), []api.Key{mixed[4], {Name: "a b"}, {}, mixed[1], mixed[4], {Name: strings.Repeat("k", 70)}},
		api.Opened{Text: "ho\n", Good: ho(mixed[1], mixed[4]), Rest: ho(mixed[0], mixed[2], mixed[3], mixed[5])}, api.OK)
	for _, name := range noNames() {
		opens(t, signedBy("ho\n", logKey), []api.Key{{Name: name, Secret: "s"}}, api.Opened{}, api.ErrUnsigned)
	}
	for _, name := range []string{"log ", "lo", "logg", "Log"} {
		opens(t, signedBy("ho\n", logKey), []api.Key{{Name: name, Secret: "s"}}, api.Opened{}, api.ErrUnsigned)
	}
	opens(t, signedBy("ho\n", logKey), []api.Key{{Name: "log", Secret: "s\x00"}}, api.Opened{Text: "ho\n", Good: ho(logKey)}, api.OK)
}

func TestAdd_20_4(t *testing.T) {
	bad := api.Key{Name: "a b"}
	hi := signedBy("hi\n", logKey)
	long := strings.Repeat("x", api.MaxNote+1)
	adds(t, long, bad, "", api.ErrName)
	adds(t, "x", bad, "", api.ErrName)
	for _, name := range noNames() {
		adds(t, hi, api.Key{Name: name, Secret: "s"}, "", api.ErrName)
	}
	adds(t, long, logKey, "", api.ErrBig)
	adds(t, long[:api.MaxNote], logKey, "", api.ErrNote)
	for _, note := range []string{"", "\n", "hi\n", "hi\n\n", hi[:len(hi)-1], hi + "\n", hi + " ", hi + hi[4:], "a\tb\n\n" + hi[4:], signedBy("hi\n", numbered(17)...)} {
		adds(t, note, witness, "", api.ErrNote)
	}
	adds(t, hi, witness, signedBy("hi\n", logKey, witness), api.OK)
	adds(t, hi, api.Key{Name: "log", Secret: "t"}, hi+sigLine(sigOf(api.Key{Name: "log", Secret: "t"}, "hi\n")), api.OK)
	adds(t, hi, api.Key{Name: "lag", Secret: "s"}, hi+sigLine(sigOf(api.Key{Name: "lag", Secret: "s"}, "hi\n")), api.OK)
	ho := strings.Replace(hi, "hi", "ho", 1)
	adds(t, ho, logKey, ho, api.OK)
	adds(t, ho, witness, ho+sigLine(sigOf(witness, "ho\n")), api.OK)
	adds(t, signedBy("hi\n", twin), other, signedBy("hi\n", twin), api.OK)

	keys := numbered(17)
	full := signedBy("hi\n", keys[:16]...)
	adds(t, signedBy("hi\n", keys[:15]...), keys[15], full, api.OK)
	adds(t, full, keys[16], "", api.ErrMany)
	adds(t, full, keys[15], full, api.OK)
	adds(t, full, keys[0], full, api.OK)
}

func TestAddLongest_20_4(t *testing.T) {
	keys := numbered(17)
	for _, n := range []int{2, 3, 16, 17} {
		room := api.MaxNote - len(signedBy("", keys[:n]...))
		body := strings.Repeat("x", room-1) + "\n"
		ahead := signedBy(body, keys[:n-1]...)
		want, e := signedBy(body, keys[:n]...), api.OK
		if len(want) != api.MaxNote {
			t.Fatalf("the note has %d bytes", len(want))
		}
		if n == 17 {
			want, e = "", api.ErrMany
		}
		adds(t, ahead, keys[n-1], want, e)
		ahead = signedBy("x"+body, keys[:n-1]...)
		if e == api.OK {
			e = api.ErrBig
		}
		adds(t, ahead, keys[n-1], "", e)
		adds(t, ahead, keys[0], ahead, api.OK)
	}
}

func goodLine(s string) bool {
	return s != "" && goesByBytes(s+"\n") && !strings.Contains(s, "\n")
}

func TestTextRefusals_20_5(t *testing.T) {
	names := append(noNames(), "log", "!", strings.Repeat("n", 64))
	sizes := []int{math.MinInt, -1, 0, 7, api.MaxSize, api.MaxSize + 1, math.MaxInt}
	roots := []string{"", "\x00", "\n", "abc", strings.Repeat("\xff", 32), strings.Repeat("r", 33)}
	exts := [][]string{nil, {"x"}, {""}, {"x", "\n"}, {"a b", "é", "\ufffd"}, {"x", "\xff", "y"}, {"a\tb"}, {"x\n"}, {"\x1f"}, {"\x20"}, {"\x7f"}}
	for _, name := range names {
		for _, size := range sizes {
			for _, root := range roots {
				for _, ext := range exts {
					c := api.Checkpoint{Origin: name, Size: size, Root: root, Ext: ext}
					want, e := textByWords(c)
					tells(t, c, want, e)
					if e == api.OK {
						parses(t, want, c, api.OK)
					}
				}
			}
		}
	}
	for _, s := range bodies() {
		c := api.Checkpoint{Origin: "log", Size: 7, Root: "\x00", Ext: []string{"x", s, "y"}}
		want, e := textByWords(c)
		tells(t, c, want, e)
		line := strings.TrimSuffix(s, "\n")
		c.Ext[1] = line
		want, e = textByWords(c)
		tells(t, c, want, e)
		if (e == api.OK) != goodLine(line) {
			t.Errorf("the line %q: %d", line, e)
		}
	}
}

func isName(s string) bool {
	for i := range len(s) {
		if s[i] < 0x21 || s[i] > 0x7e || s[i] == '+' {
			return false
		}
	}
	return len(s) >= 1 && len(s) <= 64
}

// textByWords is the chapter's 20.5, by the library.
func textByWords(c api.Checkpoint) (string, api.Errno) {
	if !isName(c.Origin) {
		return "", api.ErrName
	}
	if c.Size < 0 || c.Size > 1<<62 {
		return "", api.ErrRange
	}
	if len(c.Root) == 0 || len(c.Root) > 32 {
		return "", api.ErrHash
	}
	out := fmt.Sprintf("%s\n%d\n%s\n", c.Origin, c.Size, base64.StdEncoding.EncodeToString([]byte(c.Root)))
	for _, line := range c.Ext {
		if !goodLine(line) {
			return "", api.ErrLine
		}
		out += line + "\n"
	}
	return out, api.OK
}

// TestTextGoes_20_5: a checkpoint's text can be signed.
func TestTextGoes_20_5(t *testing.T) {
	c := api.Checkpoint{Origin: "log", Size: 3, Root: "r", Ext: []string{"x", "— log AAAA", "é"}}
	body, e := Text(c)
	if e != api.OK {
		t.Fatalf("Text: %d", e)
	}
	signed, e := Sign(body, []api.Key{logKey})
	if e != api.OK {
		t.Fatalf("Sign: %d", e)
	}
	opened, e := Open(signed, []api.Key{logKey})
	if e != api.OK {
		t.Fatalf("Open: %d", e)
	}
	parses(t, opened.Text, c, api.OK)
}

func TestParseRefusals_20_6(t *testing.T) {
	long := base64.StdEncoding.EncodeToString([]byte(strings.Repeat("x", 33)))
	for _, s := range []string{
		"", "\n", "\n\n\n", "log", "log\n", "log\n7", "log\n7\n", "log\n7\nAA==", "log\n7\nAA==\nx", "log\n7\nAA==\n\n", "log\n7\nAA==\nx\n\n", "log\n7\nAA==\n\nx\n", "\nlog\n7\nAA==\n",
		"a b\n7\nAA==\n", "a+b\n7\nAA==\n", "\n7\nAA==\n", strings.Repeat("n", 65) + "\n7\nAA==\n", " log\n7\nAA==\n", "log\r\n7\r\nAA==\r\n",
		"log\n\nAA==\n", "log\n-1\nAA==\n", "log\n+7\nAA==\n", "log\n07\nAA==\n", "log\n-0\nAA==\n", "log\n 7\nAA==\n", "log\n7 \nAA==\n", "log\n0x7\nAA==\n", "log\n7_0\nAA==\n", "log\nseven\nAA==\n", "log\n4611686018427387905\nAA==\n", "log\n9223372036854775807\nAA==\n", "log\n18446744073709551623\nAA==\n",
		"log\n7\n\n", "log\n7\nAA\n", "log\n7\nAA=\n", "log\n7\nAB==\n", "log\n7\nAA==AA==\n", "log\n7\n AA==\n", "log\n7\nAA== \n", "log\n7\n__8=\n", "log\n7\n" + long + "\n", "log\n7\n====\n",
		"log\n7\nAA==\na\x01\n", "log\n7\nAA==\n\t\n", "log\n7\nAA==\n\xff\n", "log\n7\nAA==\nx\n\xed\xa0\x80\n", "log\n7\nAA==\nx\r\n",
	} {
		parses(t, s, api.Checkpoint{}, api.ErrPoint)
	}
	parses(t, "log\n0\nAA==\n", api.Checkpoint{Origin: "log", Root: "\x00"}, api.OK)
	parses(t, "log\n4611686018427387904\nAAA=\n \n— x\n", api.Checkpoint{Origin: "log", Size: 1 << 62, Root: "\x00\x00", Ext: []string{" ", "— x"}}, api.OK)
}

// randomBody is a text that goes, with lines of all sorts.
func randomBody(r *rand.Rand) string {
	lines := []string{"", "", "hi", "é", "a b", "— log", "—", "\ufffd", strings.TrimSuffix(sigLine(sigOf(logKey, "hi\n")), "\n")}
	out := ""
	for range 1 + r.Intn(4) {
		out += lines[r.Intn(len(lines))] + "\n"
	}
	return out
}

func randomKeys(r *rand.Rand) []api.Key {
	names, secrets := []string{"log", "w", "a", "b"}, []string{"s", "x", "60360", "12170"}
	var list []api.Key
	for range 1 + r.Intn(5) {
		list = append(list, api.Key{Name: names[r.Intn(len(names))], Secret: secrets[r.Intn(len(secrets))]})
	}
	return list
}

// firstOf are the keys without those that have one ahead of them of the same name and ID.
func firstOf(keys []api.Key) []api.Key {
	var list []api.Key
	for _, k := range keys {
		if !slices.ContainsFunc(list, func(a api.Key) bool { return a.Name == k.Name && keyID(a) == keyID(k) }) {
			list = append(list, k)
		}
	}
	return list
}

// TestThereAndBack_20_7: what is signed is opened, and adding goes on from there.
func TestThereAndBack_20_7(t *testing.T) {
	r := rand.New(rand.NewSource(207))
	for range 2000 {
		body, keys, known := randomBody(r), randomKeys(r), randomKeys(r)
		signers := firstOf(keys)
		if len(signers) < len(keys) {
			signs(t, body, keys, "", api.ErrNote)
		}
		signed, e := Sign(body, signers)
		if e != api.OK || signed != signedBy(body, signers...) {
			t.Fatalf("Sign(%q, %+v) = %q, %d", body, signers, signed, e)
		}
		want, e := openByWords(signed, known)
		opens(t, signed, known, want, e)
		opens(t, signed, signers, api.Opened{Text: body, Good: sigsOf(body, signers...)}, api.OK)
		some := signers[r.Intn(len(signers))]
		got, e := Open(signed, []api.Key{some})
		if e != api.OK || got.Text != body || !slices.Equal(got.Good, sigsOf(body, some)) || len(got.Rest) != len(signers)-1 {
			t.Fatalf("Open(%q, %+v) = %+v, %d", signed, some, got, e)
		}
		for _, k := range known {
			added, e := Add(signed, k)
			if e != api.OK {
				t.Fatalf("Add(%q, %+v): %d", signed, k, e)
			}
			longer := firstOf(append(slices.Clone(signers), k))
			if added != signedBy(body, longer...) {
				t.Fatalf("Add(%q, %+v) = %q", signed, k, added)
			}
			signed, signers = added, longer
		}
	}
}

// noteByWords parts a note as the chapter says, by the library.
func noteByWords(note string) (string, []api.Sig, bool) {
	at := strings.LastIndex(note, "\n\n")
	if at < 0 || !goesByBytes(note[:at+1]) || !strings.HasSuffix(note[at+2:], "\n") {
		return "", nil, false
	}
	lines := strings.Split(strings.TrimSuffix(note[at+2:], "\n"), "\n")
	var sigs []api.Sig
	for _, line := range lines {
		words := strings.Split(line, " ")
		if len(words) != 3 || words[0] != "—" || !isName(words[1]) {
			return "", nil, false
		}
		raw, err := base64.StdEncoding.Strict().DecodeString(words[2])
		if err != nil || len(raw) != 36 || strings.Contains(words[2], "\r") {
			return "", nil, false
		}
		s := api.Sig{Name: words[1], ID: string(raw[:4]), Mac: string(raw[4:])}
		if slices.ContainsFunc(sigs, func(a api.Sig) bool { return a.Name == s.Name && a.ID == s.ID }) {
			return "", nil, false
		}
		sigs = append(sigs, s)
	}
	return note[:at+1], sigs, len(sigs) <= 16
}

// openByWords is the chapter's 20.3.
func openByWords(note string, known []api.Key) (api.Opened, api.Errno) {
	if len(note) > 65536 {
		return api.Opened{}, api.ErrBig
	}
	body, sigs, ok := noteByWords(note)
	if !ok {
		return api.Opened{}, api.ErrNote
	}
	out := api.Opened{Text: body}
	for _, s := range sigs {
		at := slices.IndexFunc(known, func(k api.Key) bool { return k.Name == s.Name && keyID(k) == s.ID })
		if at < 0 {
			out.Rest = append(out.Rest, s)
		} else if code(known[at].Secret, body) != s.Mac {
			return api.Opened{}, api.ErrSig
		} else {
			out.Good = append(out.Good, s)
		}
	}
	if out.Good == nil {
		return api.Opened{}, api.ErrUnsigned
	}
	return out, api.OK
}

// writtenAgain is the note of an opened one: its signatures in the order in which they stand in the note.
func writtenAgain(note string, o api.Opened) string {
	sigs := slices.Concat(o.Good, o.Rest)
	slices.SortFunc(sigs, func(a, b api.Sig) int {
		return strings.LastIndex(note, sigLine(a)) - strings.LastIndex(note, sigLine(b))
	})
	out := o.Text + "\n"
	for _, s := range sigs {
		out += sigLine(s)
	}
	return out
}

// changed is a text with a byte or a piece of it changed, taken out, doubled or moved.
func changed(r *rand.Rand, s string) string {
	i := r.Intn(len(s))
	j := i + r.Intn(min(len(s)-i, 60)+1)
	bytes := "\n\n \t—+=A\xff\x00x"
	switch r.Intn(6) {
	case 0:
		return s[:i] + string(bytes[r.Intn(len(bytes))]) + s[i+1:]
	case 1:
		return s[:i] + bytes[r.Intn(len(bytes)):] + s[i:]
	case 2:
		return s[:i] + s[i+1:]
	case 3:
		return s[:i] + s[j:]
	case 4:
		return s[:j] + s[i:]
	}
	lines := strings.SplitAfter(s, "\n")
	r.Shuffle(len(lines), func(a, b int) { lines[a], lines[b] = lines[b], lines[a] })
	return strings.Join(lines, "")
}

// TestChanged_20_8: notes with something changed are taken just if the chapter's words take them, and what is taken is the one note of what was opened.
func TestChanged_20_8(t *testing.T) {
	r := rand.New(rand.NewSource(208))
	answers := make(map[api.Errno]int)
	for range 20000 {
		signed := signedBy(randomBody(r), firstOf(randomKeys(r))...)
		for range r.Intn(3) {
			if signed != "" {
				signed = changed(r, signed)
			}
		}
		known := randomKeys(r)
		want, e := openByWords(signed, known)
		opens(t, signed, known, want, e)
		answers[e]++
		got, e := Open(signed, known)
		if e == api.OK && writtenAgain(signed, got) != signed {
			t.Errorf("Open(%q) = %+v, which is written otherwise", signed, got)
		}
		if _, _, ok := noteByWords(signed); !ok {
			adds(t, signed, witness, "", api.ErrNote)
		}
	}
	for _, e := range []api.Errno{api.OK, api.ErrNote, api.ErrSig, api.ErrUnsigned} {
		if answers[e] < 500 {
			t.Errorf("%d of the notes were answered %d", answers[e], e)
		}
	}
}

// TestEachByte_20_8: no byte of a note that all known keys signed can be another one.
func TestEachByte_20_8(t *testing.T) {
	body := "a\n\né\n"
	signed := signedBy(body, logKey, witness)
	known := []api.Key{logKey, witness}
	for i := range len(signed) {
		for b := range 256 {
			if byte(b) == signed[i] {
				continue
			}
			note := signed[:i] + string([]byte{byte(b)}) + signed[i+1:]
			want, e := openByWords(note, known)
			opens(t, note, known, want, e)
			if i < len(body) && e != api.ErrSig && e != api.ErrNote {
				t.Errorf("byte %d of the text as %d: %d", i, b, e)
			}
			if _, _, ok := noteByWords(note); ok && i < len(body) && e != api.ErrSig {
				t.Errorf("byte %d of the text as %d, a note still: %d", i, b, e)
			}
		}
	}
}

// TestPoints_20_9: there and back, and nothing but what is written is read.
func TestPoints_20_9(t *testing.T) {
	r := rand.New(rand.NewSource(209))
	read := 0
	for range 20000 {
		c := api.Checkpoint{Origin: randomKeys(r)[0].Name, Size: r.Intn(1<<62) >> r.Intn(62), Root: strings.Repeat("\x00\xffr", 11)[:1+r.Intn(32)]}
		for range r.Intn(3) {
			c.Ext = append(c.Ext, []string{"x", "a b", "é", "7", "\ufffd"}[r.Intn(5)])
		}
		s, e := Text(c)
		if want, r := textByWords(c); s != want || e != r {
			t.Fatalf("Text(%+v) = %q, %d", c, s, e)
		}
		parses(t, s, c, api.OK)
		s = changed(r, s)
		got, e := Parse(s)
		if e != api.OK {
			if e != api.ErrPoint || !same(got, api.Checkpoint{}) || pointByWords(s) {
				t.Fatalf("Parse(%q) = %+v, %d", s, got, e)
			}
			continue
		}
		read++
		if again, e := textByWords(got); again != s || e != api.OK {
			t.Fatalf("Parse(%q) = %+v, which is written as %q", s, got, again)
		}
	}
	if read < 500 {
		t.Errorf("%d changed texts were read", read)
	}
}

// pointByWords: is there a checkpoint that is written so?
func pointByWords(s string) bool {
	lines := strings.Split(s, "\n")
	if len(lines) < 4 || lines[len(lines)-1] != "" {
		return false
	}
	size, err := strconv.Atoi(lines[1])
	root, bad := base64.StdEncoding.DecodeString(lines[2])
	again, e := textByWords(api.Checkpoint{Origin: lines[0], Size: size, Root: string(root), Ext: lines[3 : len(lines)-1]})
	return err == nil && bad == nil && e == api.OK && again == s
}

// TestMemory_R4: lists that are handed in are left alone with their spare room, and answers share none.
func TestMemory_R4(t *testing.T) {
	keys := append(make([]api.Key, 0, 4), logKey, witness)
	spare := keys[:4]
	spare[2] = twin
	kept := slices.Clone(spare)
	signed, _ := Sign("hi\n", keys)
	first, _ := Open(signed, keys[:1])
	second, _ := Open(signed, keys[:1])
	if !slices.Equal(spare, kept) {
		t.Errorf("the keys are %+v now", spare)
	}
	for _, list := range [][]api.Sig{first.Good, first.Rest} {
		list = list[:cap(list)]
		for i := range list {
			list[i] = api.Sig{Name: "changed"}
		}
	}
	want := api.Opened{Text: "hi\n", Good: sigsOf("hi\n", logKey), Rest: sigsOf("hi\n", witness)}
	if !alike(second, want) {
		t.Errorf("an earlier answer is %+v now", second)
	}
	one, _ := Open(signed, keys[:1])
	_ = append(one.Good, api.Sig{Name: "behind"})
	if !alike(one, want) {
		t.Errorf("Good and Rest share memory: %+v", one)
	}

	ext := append(make([]string, 0, 5), "x", "y")
	room := ext[:5]
	room[2] = "kept"
	c := api.Checkpoint{Origin: "log", Root: "r", Ext: ext}
	s, _ := Text(c)
	if !slices.Equal(room, []string{"x", "y", "kept", "", ""}) {
		t.Errorf("Ext's room is %q now", room)
	}
	back, _ := Parse(s)
	again, _ := Parse(s)
	back.Ext[0] = "changed"
	if again.Ext[0] != "x" || ext[0] != "x" {
		t.Error("Ext is shared")
	}
}
