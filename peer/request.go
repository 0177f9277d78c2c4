package peer

import (
	"strings"

	"annals/api"
	"annals/text"
)

// mostHashes is how many hashes a request has at most: no consistency proof has more.
const mostHashes = 63

// opening is what a request begins with.
const opening = "old "

// Ask writes a request.
func Ask(r api.Request) (string, api.Errno) {
	if e := writable(r); e != api.OK {
		return "", e
	}
	var out strings.Builder
	out.WriteString(opening + text.Dec(r.Old) + "\n")
	for _, h := range r.Proof {
		out.WriteString(text.B64(h) + "\n")
	}
	out.WriteString("\n" + r.Note)
	return out.String(), api.OK
}

// writable is why a request cannot be written. What its note holds is not asked.
func writable(r api.Request) api.Errno {
	if r.Old < 0 || r.Old > api.MaxSize {
		return api.ErrRange
	}
	if len(r.Proof) > mostHashes {
		return api.ErrMany
	}
	for _, h := range r.Proof {
		if len(h) < 1 || len(h) > api.MaxWidth {
			return api.ErrHash
		}
	}
	return api.OK
}

// Asked reads it. Whatever the lines seem to say, the text must be the one that the request is written as.
func Asked(b string) (api.Request, api.Errno) {
	r, reads := fromText(b)
	if !reads {
		return api.Request{}, api.ErrForm
	}
	if again, e := Ask(r); e != api.OK || again != b {
		return api.Request{}, api.ErrForm
	}
	return r, api.OK
}

// fromText is what a request's text seems to say. No line of a hash is empty: so the first empty line is the one ahead of the note, which may have some itself.
func fromText(b string) (api.Request, bool) {
	head, signed, parted := strings.Cut(b, "\n\n")
	number, opens := strings.CutPrefix(head, opening)
	if !parted || !opens {
		return api.Request{}, false
	}
	number, hashes, some := strings.Cut(number, "\n")
	old, e := text.UnDec(number)
	if e != api.OK {
		return api.Request{}, false
	}
	r := api.Request{Old: old, Note: strings.Clone(signed)}
	for some {
		var line string
		line, hashes, some = strings.Cut(hashes, "\n")
		h, e := text.UnB64(line)
		if e != api.OK {
			return api.Request{}, false
		}
		r.Proof = append(r.Proof, h)
	}
	return r, true
}
