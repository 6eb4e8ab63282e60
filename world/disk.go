package world

import "bytes"

// disk is files by names, with what is needed to undo each raw write that was not synced.
type disk struct {
	files  map[string][]byte
	synced int
	undo   []before
}

// before is what a file held ahead of a raw write (nil: it was empty or not there, which Load doesn't tell apart).
type before struct {
	name string
	body []byte
}

// extend appends body to a file. It writes only behind the file's end, so what undo keeps may share its memory.
func (d *disk) extend(name string, body []byte) {
	d.write(name, append(d.files[name], body...))
}

// replace sets all bytes of a file, in memory of its own: what undo keeps is left as it is.
func (d *disk) replace(name string, body []byte) {
	d.write(name, bytes.Clone(body))
}

// write counts a raw write by which the file holds body.
func (d *disk) write(name string, body []byte) {
	d.undo = append(d.undo, before{name, d.files[name]})
	if d.files == nil {
		d.files = make(map[string][]byte)
	}
	d.files[name] = body
}

// sync: no raw write until now is undone any more.
func (d *disk) sync() {
	d.synced = d.writes()
	d.undo = nil
}

// writes: how many raw writes there were.
func (d *disk) writes() int { return d.synced + len(d.undo) }

// cut: a disk of its own with the first n raw writes, but all that were synced, and no more than there are.
func (d *disk) cut(n int) disk {
	n = min(max(n, d.synced), d.writes())
	// Of several writes to one file the first one that is undone says what the file held.
	held := make(map[string][]byte)
	for i := len(d.undo) - 1; i >= n-d.synced; i-- {
		held[d.undo[i].name] = d.undo[i].body
	}
	files := make(map[string][]byte)
	for name, body := range d.files {
		if was, ok := held[name]; ok {
			body = was
		}
		files[name] = bytes.Clone(body)
	}
	return disk{files: files, synced: n}
}
