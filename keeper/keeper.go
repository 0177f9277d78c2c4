// Package keeper: what all engines have in common: see doc/15-lone.md, "All engines". The seat keeps its manifests by it, too, the queue its submissions, and the witness what it has cosigned.
package keeper

import (
	"slices"

	"annals/api"
	"annals/book"
	"annals/store"
)

// A book key is a letter, the space in eight bytes, the kind in one, and the number in eight.
const (
	kindAt   = 9 // where the kind stands in a key; the bytes ahead of it name the space
	keyBytes = 18
)

// recordBytes is how many bytes a book record counts beside its payload: the key, the frame and what every record counts.
const recordBytes = keyBytes + 18 + api.Overhead

// Record is a record of an engine's space.
type Record struct {
	Kind    int
	Number  int
	Payload string
}

// Keeper has an engine's records, in its space of a store. It never changes; one without a store is as if the power were off.
type Keeper struct {
	st    *store.Store
	space int
	age   int // of the store, when the engine was made or opened
}

// OptsGo: do options go for the engine of this number, as far as all engines look at them?
func OptsGo(o api.Opts, engine int) bool {
	return o.Engine == engine && 1 <= o.Width && o.Width <= api.MaxWidth
}

// BatchGoes is why leaves do not go behind so many others, whatever room there is.
func BatchGoes(list []string, size int) api.Errno {
	tooLong := func(leaf string) bool { return len(leaf) > api.MaxLeaf }
	switch {
	case len(list) == 0:
		return api.ErrEmpty
	case len(list) > api.MaxBatch:
		return api.ErrMany
	case slices.ContainsFunc(list, tooLong):
		return api.ErrBig
	case len(list) > api.MaxSize-size:
		return api.ErrRange
	}
	return api.OK
}

// Make takes a space and all records out of it. Wipe refuses just what an engine's Make does, in its order.
func Make(st *store.Store, space int) (Keeper, api.Errno) {
	if _, e := book.Wipe(st, space); e != api.OK {
		return Keeper{}, e
	}
	return Open(st, space)
}

// Open takes a space as it is.
func Open(st *store.Store, space int) (Keeper, api.Errno) {
	if _, e := book.Key(space, 1, 0); e != api.OK {
		return Keeper{}, e
	}
	if st.Down() {
		return Keeper{}, api.ErrDown
	}
	return Keeper{st, space, st.Age()}, api.OK
}

// Gone: is the engine given up? One of whose calls answered ErrDown is, without a mark of its own: the power comes back by a cut alone, and the store has another age then.
func (k Keeper) Gone() bool {
	return k.st.Down() || k.st.Age() != k.age
}

// Get reads a record.
func (k Keeper) Get(kind, number int) (string, api.Errno) {
	return book.Get(k.st, k.space, kind, number)
}

// Fits: is there room for records, each in the place of the one that has its key? The keys of the list are unlike.
func (k Keeper) Fits(list []Record) bool {
	used := k.st.Used()
	for _, r := range list {
		used += recordBytes + len(r.Payload) - k.counted(r)
	}
	return used <= k.st.Room()
}

// counted is how many bytes the record counts that has the key of r: none, if there is no such record. What it holds is not looked at, since it may be no frame.
func (k Keeper) counted(r Record) int {
	key, _ := book.Key(k.space, r.Kind, r.Number)
	data, e := k.st.Get(key)
	if e != api.OK {
		return 0
	}
	return len(key) + len(data) + api.Overhead
}

// Put writes records, one behind the other; the first refusal ends it.
func (k Keeper) Put(list []Record) api.Errno {
	for _, r := range list {
		if e := book.Put(k.st, k.space, r.Kind, r.Number, r.Payload); e != api.OK {
			return e
		}
	}
	return api.OK
}

// Purge takes out every record of the space that does not belong to a list, the numbers of a kind rising, the kinds rising; the first refusal ends it.
func (k Keeper) Purge(belongs func(kind, number int) bool) api.Errno {
	for _, kind := range k.kinds() {
		for _, number := range book.Numbers(k.st, k.space, kind) {
			if belongs(kind, number) {
				continue
			}
			if e := book.Drop(k.st, k.space, kind, number); e != api.OK {
				return e
			}
		}
	}
	return api.OK
}

// kinds are the kinds of the space's records, rising, each once. They are told from one look at the keys, since book's Numbers goes through the whole store for each kind that it is asked for.
func (k Keeper) kinds() []int {
	first, _ := book.Key(k.space, 1, 0)
	var list []int
	for _, key := range k.st.Keys(first[:kindAt]) {
		if len(key) == keyBytes {
			list = append(list, int(key[kindAt]))
		}
	}
	return slices.Compact(list)
}
