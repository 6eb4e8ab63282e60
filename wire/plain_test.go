package wire_test

import (
	"encoding/binary"
	"regexp"
	"strings"
	"testing"

	"concierge/api"
)

// A second reading of messages, apart from the program's: each function tells what stands at a place, and where it ends (0: it is none).

var isLabel = regexp.MustCompile(`\A[A-Za-z0-9_-]+\z`)

// plainWord: the two bytes at a place.
func plainWord(b string, at int) (int, int) {
	if at+2 > len(b) {
		return 0, 0
	}
	return int(binary.BigEndian.Uint16([]byte(b[at : at+2]))), at + 2
}

// plainLabels: the labels at a place, below which all their pointers must lead.
func plainLabels(b string, at, below int) ([]string, int) {
	if at >= len(b) {
		return nil, 0
	}
	n := int(b[at])
	if n == 0 {
		return nil, at + 1
	}
	if n >= 0xc0 {
		to, end := plainWord(b, at)
		to &= 1<<14 - 1
		if end == 0 || to >= at || to >= below {
			return nil, 0
		}
		labels, ok := plainLabels(b, to, to)
		return labels, end * min(ok, 1)
	}
	if n > 63 || at+1+n > len(b) || !isLabel.MatchString(b[at+1:at+1+n]) {
		return nil, 0
	}
	labels, end := plainLabels(b, at+1+n, below)
	return append([]string{b[at+1 : at+1+n]}, labels...), end
}

// plainName: the name at a place.
func plainName(b string, at int) (string, int) {
	labels, end := plainLabels(b, at, len(b))
	name := strings.ToLower(strings.Join(labels, "."))
	if end == 0 || name == "" || len(name) > 253 {
		return "", 0
	}
	return name, end
}

// plainSubject: the name and type at a place, of class 1.
func plainSubject(b string, at int) (string, int, int) {
	name, at := plainName(b, at)
	if at == 0 {
		return "", 0, 0
	}
	kind, _ := plainWord(b, at)
	class, at := plainWord(b, at+2)
	if kind == 0 || class != 1 {
		return "", 0, 0
	}
	return name, kind, at
}

// plainRecord: the record at a place.
func plainRecord(b string, at int) (api.Record, int) {
	name, kind, at := plainSubject(b, at)
	if at == 0 || at+6 > len(b) {
		return api.Record{}, 0
	}
	ttl := binary.BigEndian.Uint32([]byte(b[at : at+4]))
	size, at := plainWord(b, at+4)
	if ttl>>31 != 0 || at+size > len(b) {
		return api.Record{}, 0
	}
	data := b[at : at+size]
	switch {
	case kind == api.TPtr:
		target, end := plainName(b, at)
		if end != at+size {
			return api.Record{}, 0
		}
		data = target
	case kind == api.TA && size != 4, kind == api.TAAAA && size != 16, size > 256:
		return api.Record{}, 0
	}
	return api.Record{Name: name, Type: kind, TTL: int64(ttl), Data: data}, at + size
}

// plainMessage: the message that b begins with, and whether there is one.
func plainMessage(b string) (api.Message, bool) {
	if len(b) < 12 || len(b) > 4096 {
		return api.Message{}, false
	}
	id, _ := plainWord(b, 0)
	flags, _ := plainWord(b, 2)
	questions, _ := plainWord(b, 4)
	answers, _ := plainWord(b, 6)
	m := api.Message{ID: id, Reply: b[2] >= 0x80, Cut: b[2]&2 == 2, Want: b[2]&1 == 1, Code: int(b[3] % 16)}
	name, kind, at := plainSubject(b, 12)
	if flags>>11%16 != 0 || questions != 1 || answers > 32 || at == 0 {
		return api.Message{}, false
	}
	m.Question = api.Question{Name: name, Type: kind}
	for range answers {
		var r api.Record
		if r, at = plainRecord(b, at); at == 0 {
			return api.Message{}, false
		}
		m.Answers = append(m.Answers, r)
	}
	return m, true
}

// agree holds Decode against the second reading, and what Encode makes of a message against what was read.
func agree(t *testing.T, b string) {
	t.Helper()
	want, good := plainMessage(b)
	got, ok := decoded(t, b)
	if ok != good || !same(got, want) {
		t.Fatalf("P5.2: Decode(%q): %v, %t, want %v, %t", b, got, ok, want, good)
	}
	if !good {
		return
	}
	// Without its pointers it may be too long.
	s, ok := encoded(t, got)
	if again, ok2 := decoded(t, s); ok && (!ok2 || !same(again, got)) {
		t.Fatalf("P5.1: Encode of %v: %q, which is %v, %t", got, s, again, ok2)
	}
	if !ok && len(b) < 200 {
		t.Fatalf("P5.1: Encode(%v): none", got)
	}
}

// samples are messages of many kinds of parts.
func samples() []string {
	return []string{
		asked,
		told,
		oneAnswer + question + "\x01A\xc0\x0e" + tail(api.TA, "\x01\x02\x03\x04"),
		twoAnswer + question + "\xc0\x0c" + tail(api.TPtr, "\x01c\xc0\x0e") + "\xc0\x21" + tail(api.TPtr, "\xc0\x21"),
		twoAnswer + question + "\x01x\x00" + tail(9, "\x01q\xc0\x0e\x00\xc0\x22") + "\x01y\xc0\x22" + tail(api.TAAAA, label[:16]),
		"\x01z\x00\x00\x00\x01\x00\x01\x00\x00\x00\x00" + "\xc0\x00" + "\x00\x01\x00\x01" + "\xc0\x0c" + tail(2, "\x00\x01\x01"),
	}
}

// TestBytes lays each byte at each place of messages, and between their bytes, and takes each away.
func TestBytes(t *testing.T) {
	for _, s := range samples() {
		for at := range s {
			for c := range 256 {
				agree(t, s[:at]+string([]byte{byte(c)})+s[at+1:])
				agree(t, s[:at]+string([]byte{byte(c)})+s[at:])
			}
			agree(t, s[:at]+s[at+1:])
			agree(t, s[:at])
		}
	}
}

// TestPairs lays two bytes side by side at each place of messages: all pointers that may lead anywhere among them.
func TestPairs(t *testing.T) {
	for _, s := range samples() {
		for at := range len(s) - 1 {
			for _, high := range []byte{0, 1, 2, 12, 28, 63, 64, 0x80, 0xbf, 0xc0, 0xc1, 0xff} {
				for low := range 128 {
					agree(t, s[:at]+string([]byte{high, byte(low)})+s[at+2:])
				}
			}
		}
	}
}

// TestShortNames: all names of a few bytes, as a question and as data.
func TestShortNames(t *testing.T) {
	const signs = "\x00\x01\x02\x0c\x22aZ.-\xc0\xff"
	var grow func(name string, left int)
	grow = func(name string, left int) {
		agree(t, noAnswer+name+"\x00\x01\x00\x01")
		agree(t, oneAnswer+question+"\x01x\x00"+tail(api.TPtr, name))
		for i := 0; left > 0 && i < len(signs); i++ {
			grow(name+signs[i:i+1], left-1)
		}
	}
	grow("", 5)
}
