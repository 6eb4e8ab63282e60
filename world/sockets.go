package world

import (
	"bytes"

	"concierge/api"
)

// Send notes a datagram.
func (w *World) Send(d api.Datagram) {
	if w != nil {
		w.sent = append(w.sent, copyDatagram(d))
	}
}

// Sent: all datagrams, in the order in which they were sent.
func (w *World) Sent() []api.Datagram {
	if w == nil {
		return nil
	}
	all := make([]api.Datagram, len(w.sent))
	for i, d := range w.sent {
		all[i] = copyDatagram(d)
	}
	return all
}

// Open notes a stream: its number, which is how many were opened ahead of it.
func (w *World) Open(to string) int {
	if w == nil {
		return 0
	}
	w.streams = append(w.streams, api.Stream{To: to})
	return len(w.streams) - 1
}

// Write adds to what was written to a stream that is open; else it does nothing.
func (w *World) Write(stream int, body []byte) {
	if w.isOpen(stream) {
		s := &w.streams[stream]
		s.Written = append(s.Written, body...)
	}
}

// Close closes a stream that is open; else it does nothing.
func (w *World) Close(stream int) {
	if w.isOpen(stream) {
		w.streams[stream].Closed = true
	}
}

// Streams: all streams, in the order in which they were opened.
func (w *World) Streams() []api.Stream {
	if w == nil {
		return nil
	}
	all := make([]api.Stream, len(w.streams))
	for i, s := range w.streams {
		s.Written = bytes.Clone(s.Written)
		all[i] = s
	}
	return all
}

// isOpen: there is a stream of that number, and it is not closed.
func (w *World) isOpen(stream int) bool {
	return w != nil && stream >= 0 && stream < len(w.streams) && !w.streams[stream].Closed
}

// copyDatagram gives the datagram bytes of its own.
func copyDatagram(d api.Datagram) api.Datagram {
	d.Body = bytes.Clone(d.Body)
	return d
}
