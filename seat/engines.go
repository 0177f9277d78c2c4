package seat

import (
	"annals/api"
	"annals/lone"
	"annals/shard"
	"annals/store"
	"annals/tiled"
)

// engine is what a list is asked through, whichever engine keeps it.
type engine interface {
	Append(list []string) api.Errno
	Size() int
	Leaf(i int) (string, api.Errno)
	Node(a api.Addr) (string, api.Errno)
	Root(n int) (string, api.Errno)
	Flush() api.Errno
	Counts() api.Counts
}

// way is how a list is kept by the engine of a number: the options that it names, and how it is made and opened in a space.
type way struct {
	engine int
	named  func(o api.Opts) api.Opts
	create func(st *store.Store, o api.Opts, space int) (engine, api.Errno)
	open   func(st *store.Store, o api.Opts, space int) (engine, api.Errno)
}

// ways are the three ways to keep a list. An engine is opened with whatever stands: the seat vouches for no number of leaves.
func ways() []way {
	return []way{
		{
			engine: api.Lone,
			named:  func(o api.Opts) api.Opts { return api.Opts{Engine: o.Engine, Width: o.Width} },
			create: func(st *store.Store, o api.Opts, space int) (engine, api.Errno) { return face(lone.Make(st, o, space)) },
			open: func(st *store.Store, o api.Opts, space int) (engine, api.Errno) {
				return face(lone.Open(st, o, space, 0))
			},
		},
		{
			engine: api.Tiled,
			named: func(o api.Opts) api.Opts {
				return api.Opts{Engine: o.Engine, Width: o.Width, Bundle: o.Bundle, Height: o.Height, Cache: o.Cache}
			},
			create: func(st *store.Store, o api.Opts, space int) (engine, api.Errno) {
				return face(tiled.Make(st, o, space))
			},
			open: func(st *store.Store, o api.Opts, space int) (engine, api.Errno) {
				return face(tiled.Open(st, o, space, 0))
			},
		},
		{
			engine: api.Shard,
			named:  func(o api.Opts) api.Opts { return api.Opts{Engine: o.Engine, Width: o.Width, Bits: o.Bits} },
			create: func(st *store.Store, o api.Opts, space int) (engine, api.Errno) {
				return face(shard.Make(st, o, space))
			},
			open: func(st *store.Store, o api.Opts, space int) (engine, api.Errno) {
				return face(shard.Open(st, o, space, 0))
			},
		},
	}
}

// face puts an engine behind the interface. With a refusal there is none: a nil one behind the interface would be taken for an engine.
func face[E engine](e E, r api.Errno) (engine, api.Errno) {
	if r != api.OK {
		return nil, r
	}
	return e, api.OK
}

// wayOf is the way that options name by their Engine; false, if there is none.
func wayOf(o api.Opts) (way, bool) {
	for _, w := range ways() {
		if w.engine == o.Engine {
			return w, true
		}
	}
	return way{}, false
}

// named are options with the fields alone that their engine names.
func named(o api.Opts) api.Opts {
	w, known := wayOf(o)
	if !known {
		return o
	}
	return w.named(o)
}

// makeEngine makes the engine that options name, with an empty list.
func makeEngine(st *store.Store, o api.Opts, space int) (engine, api.Errno) {
	w, known := wayOf(o)
	if !known {
		return nil, api.ErrOpts
	}
	return w.create(st, o, space)
}

// openEngine opens the engine that options name, with the list that stands in the space.
func openEngine(st *store.Store, o api.Opts, space int) (engine, api.Errno) {
	w, known := wayOf(o)
	if !known {
		return nil, api.ErrOpts
	}
	return w.open(st, o, space)
}

// optsGo: does the engine that options name take them? It knows its own bounds: it is asked to be made in a store that nobody has.
func optsGo(o api.Opts) bool {
	_, r := makeEngine(store.New(0), o, firstSpace)
	return r == api.OK
}

// sizeOf is how many leaves an engine has: none, where there is no engine.
func sizeOf(e engine) int {
	if e == nil {
		return 0
	}
	return e.Size()
}

// begins: is the list of one engine, leaf by leaf, a beginning of the other's?
func begins(whole, part engine) bool {
	if part.Size() > whole.Size() {
		return false
	}
	for i := range part.Size() {
		if !sameLeaf(whole, part, i) {
			return false
		}
	}
	return true
}

// sameLeaf: do two engines tell the same leaf at a place?
func sameLeaf(one, other engine, i int) bool {
	a, r := one.Leaf(i)
	if r != api.OK {
		return false
	}
	b, r := other.Leaf(i)
	return r == api.OK && a == b
}

// leavesOf are count leaves of an engine, from a place on.
func leavesOf(e engine, from, count int) ([]string, api.Errno) {
	list := make([]string, 0, count)
	for i := range count {
		leaf, r := e.Leaf(from + i)
		if r != api.OK {
			return nil, r
		}
		list = append(list, leaf)
	}
	return list, api.OK
}
