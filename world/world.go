// Package world: files, sockets, a clock, a disk: see doc/01-world.md.
package world

import (
	"bytes"
	"maps"

	"concierge/api"
)

// latest is where the clock stops.
const latest = 1 << 60

// World is what a script plays. In a nil one nothing is and nothing happens; a zero one is as one of New.
type World struct {
	now     int64
	stamp   int64
	files   map[string]file
	sent    []api.Datagram
	streams []api.Stream
	disk    disk
}

// file is a path that was put or removed once; its body is never written into, only exchanged.
type file struct {
	body  []byte
	stamp int64
	there bool
}

// New: an empty world, its clock at 0.
func New() *World { return &World{} }

// Now: the clock.
func (w *World) Now() int64 {
	if w == nil {
		return 0
	}
	return w.now
}

// Advance: the clock goes on by n (below 1: it stays), at most to 2^60.
func (w *World) Advance(n int64) {
	if w == nil || n < 1 {
		return
	}
	// The room that is left is asked, as a sum could wrap.
	w.now += min(n, latest-w.now)
}

// Put: the file's bytes are body.
func (w *World) Put(path string, body []byte) {
	if w != nil {
		w.change(path, file{body: bytes.Clone(body), there: true})
	}
}

// Remove: the file is taken away, and has a new stamp all the same.
func (w *World) Remove(path string) {
	if w != nil {
		w.change(path, file{})
	}
}

// change gives the path the next stamp of all.
func (w *World) change(path string, f file) {
	w.stamp++
	f.stamp = w.stamp
	if w.files == nil {
		w.files = make(map[string]file)
	}
	w.files[path] = f
}

// Read: the file's bytes, its last stamp (0: it never was), and if it is there.
func (w *World) Read(path string) ([]byte, int64, bool) {
	if w == nil {
		return nil, 0, false
	}
	f := w.files[path]
	return bytes.Clone(f.body), f.stamp, f.there
}

// Append: a raw write of bytes at the end of a file of the disk.
func (w *World) Append(name string, body []byte) {
	if w != nil {
		w.disk.extend(name, body)
	}
}

// Replace: a raw write of all bytes of a file of the disk.
func (w *World) Replace(name string, body []byte) {
	if w != nil {
		w.disk.replace(name, body)
	}
}

// Load: the bytes of a file of the disk (none: it is not there).
func (w *World) Load(name string) []byte {
	if w == nil {
		return nil
	}
	return bytes.Clone(w.disk.files[name])
}

// Sync: what was written to the disk until now stays.
func (w *World) Sync() {
	if w != nil {
		w.disk.sync()
	}
}

// Raw: how many raw writes there were.
func (w *World) Raw() int {
	if w == nil {
		return 0
	}
	return w.disk.writes()
}

// Cut: the world behind a power failure that the first n raw writes outlast (at least those that were synced).
func (w *World) Cut(n int) *World {
	if w == nil {
		return nil
	}
	return &World{
		now:   w.now,
		stamp: w.stamp,
		// The bodies may be shared: neither world ever writes into one.
		files: maps.Clone(w.files),
		disk:  w.disk.cut(n),
	}
}
