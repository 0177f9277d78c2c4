package seat

import (
	"strings"

	"annals/api"
	"annals/keeper"
	"annals/nums"
)

// The manifest's records: two slots, so that one stands while the other is written.
const (
	slotSpace = 0
	slotKind  = 1
	slots     = 2
)

// The spaces of engines.
const (
	firstSpace = 1
	lastSpace  = 1<<40 - 1 // what is beyond belongs to others
)

// Serials: a move that is planned at mostPlanned can be ended, and told as ended, well below mostSerial.
const (
	mostSerial  = 1 << 56
	mostPlanned = 1 << 55
)

// A manifest in bytes is so many numbers, of so many bytes each.
const (
	numberCount = 16
	numberBytes = 8
)

// numbersOf are the numbers of a manifest, in the order in which they are written.
func numbersOf(m api.Manifest) [numberCount]int {
	moving := 0
	if m.Moving {
		moving = 1
	}
	o, to := m.Opts, m.To
	return [numberCount]int{
		m.Serial, o.Engine, o.Width, o.Bundle, o.Height, o.Cache, o.Bits, m.Space,
		moving, to.Engine, to.Width, to.Bundle, to.Height, to.Cache, to.Bits, m.Target,
	}
}

// manifestOf is the manifest of such numbers.
func manifestOf(n [numberCount]int) api.Manifest {
	return api.Manifest{
		Serial: n[0],
		Opts:   api.Opts{Engine: n[1], Width: n[2], Bundle: n[3], Height: n[4], Cache: n[5], Bits: n[6]},
		Space:  n[7],
		Moving: n[8] == 1,
		To:     api.Opts{Engine: n[9], Width: n[10], Bundle: n[11], Height: n[12], Cache: n[13], Bits: n[14]},
		Target: n[15],
	}
}

// bytesOf are the bytes of a manifest. Eight bytes have room for every number.
func bytesOf(m api.Manifest) string {
	var out strings.Builder
	for _, n := range numbersOf(m) {
		b, _ := nums.PutBE(uint64(n), numberBytes)
		out.WriteString(b)
	}
	return out.String()
}

// readManifest is the manifest whose bytes these are; false, if they are none's. A number from 2 to the 63 on turns below 0: it is no part of a sound manifest.
func readManifest(b string) (api.Manifest, bool) {
	var numbers [numberCount]int
	for i := range numbers {
		n, r := nums.BE(b, i*numberBytes, numberBytes)
		if r != api.OK {
			return api.Manifest{}, false
		}
		numbers[i] = int(n)
	}
	m := manifestOf(numbers)
	return m, bytesOf(m) == b
}

// slotOf is the slot in which the manifest of a serial stands.
func slotOf(serial int) int {
	return serial % slots
}

// recordOf is the record of a manifest.
func recordOf(m api.Manifest) keeper.Record {
	return keeper.Record{Kind: slotKind, Number: slotOf(m.Serial), Payload: bytesOf(m)}
}

// isSpace: may an engine's records stand in this space?
func isSpace(space int) bool {
	return firstSpace <= space && space <= lastSpace
}

// isKept: may options stand in a manifest so?
func isKept(o api.Opts) bool {
	return o == named(o) && optsGo(o)
}

// isSound: may a manifest be, whichever slot it stands in?
func isSound(m api.Manifest) bool {
	return 1 <= m.Serial && m.Serial <= mostSerial && isKept(m.Opts) && isSpace(m.Space) && moveIsSound(m)
}

// moveIsSound: may what a manifest says of a move be?
func moveIsSound(m api.Manifest) bool {
	if m.Moving {
		return isKept(m.To) && isSpace(m.Target) && m.Target != m.Space
	}
	return m.To == api.Opts{} && (m.Target == 0 || isSpace(m.Target))
}

// readSlot is the manifest that stands in a slot; false, if the slot is not sound.
func readSlot(kept keeper.Keeper, slot int) (api.Manifest, bool) {
	payload, r := kept.Get(slotKind, slot)
	if r != api.OK {
		return api.Manifest{}, false
	}
	m, whole := readManifest(payload)
	return m, whole && isSound(m) && slotOf(m.Serial) == slot
}

// newest is the manifest: the one with the greater serial of those that stand in sound slots; false, if none is sound.
func newest(kept keeper.Keeper) (api.Manifest, bool) {
	var found api.Manifest
	for slot := range slots {
		if m, sound := readSlot(kept, slot); sound && m.Serial > found.Serial {
			found = m
		}
	}
	return found, found.Serial > 0
}

// moved is a manifest with a move to these options, in a space that was never used.
func moved(m api.Manifest, to api.Opts) api.Manifest {
	m.Moving, m.To, m.Target = true, to, newestSpace(m)+1
	return m
}

// settled is a manifest without its move. Its target stays, so that the space is not used again.
func settled(m api.Manifest) api.Manifest {
	m.Moving, m.To = false, api.Opts{}
	return m
}

// flipped is a manifest whose move is done.
func flipped(m api.Manifest) api.Manifest {
	m.Opts, m.Space = m.To, m.Target
	return settled(m)
}

// newestSpace is the greatest space that was used.
func newestSpace(m api.Manifest) int {
	return max(m.Space, m.Target)
}
