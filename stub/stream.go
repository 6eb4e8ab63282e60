package stub

// lengthBytes is how many bytes of a stream tell a message's length.
const lengthBytes = 2

// stream is one that was opened to a server, with what was heard of it.
type stream struct {
	number int
	server string
	heard  []byte
}

// openStream asks anew, by a stream, what was asked by t.
func (l *lookup) openStream(t try) {
	w := l.stub.world
	l.stream = &stream{number: w.Open(t.server), server: t.server}
	body := l.message(t.id)
	w.Write(l.stream.number, []byte{byte(len(body) >> 8), byte(len(body))})
	w.Write(l.stream.number, body)
	l.wait()
}

// hangUp closes the stream that is heard, if there is one.
func (l *lookup) hangUp() {
	if l.stream != nil {
		l.stub.world.Close(l.stream.number)
		l.stream = nil
	}
}

// Bytes adds body to what was heard of the stream, if it is the one that is heard. Behind the message, or the end, it is heard no longer.
func (l *lookup) Bytes(number int, body []byte, end bool) {
	s := l.stream
	if s == nil || s.number != number {
		return
	}
	s.heard = append(s.heard, body...)
	told, whole := s.message()
	if !whole && !end {
		return
	}
	l.hangUp()
	// What isn't whole tells no bytes, which are no message.
	if m, ok := l.accept(s.server, told); ok {
		l.settle(m)
		return
	}
	l.nextTry()
}

// message: the bytes that the first two ones count, and true; none and false, as long as they aren't all there.
func (s *stream) message() ([]byte, bool) {
	if len(s.heard) < lengthBytes {
		return nil, false
	}
	size, rest := int(s.heard[0])<<8|int(s.heard[1]), s.heard[lengthBytes:]
	if len(rest) < size {
		return nil, false
	}
	return rest[:size], true
}
