package services_test

import (
	"strings"
	"testing"

	"concierge/services"
)

// Letters that both may hold, and what names may hold beside them.
const (
	letters = "abcdefghijklmnopqrstuvwxyzABCDEFGHIJKLMNOPQRSTUVWXYZ"
	others  = "0123456789-_."
)

// agree holds what is told of s against whether it is a name and a protocol.
func agree(t *testing.T, s string, name, proto bool) {
	t.Helper()
	if got := services.IsName(s); got != name {
		t.Errorf("P7.1: IsName(%.60q): %t", s, got)
	}
	if got := services.IsProto(s); got != proto {
		t.Errorf("P7.1: IsProto(%.60q): %t", s, got)
	}
}

// TestBytes lays each byte alone and at each place of a longer text.
func TestBytes(t *testing.T) {
	for b := range 256 {
		s := string([]byte{byte(b)})
		proto := strings.Contains(letters, s)
		name := proto || strings.Contains(others, s)
		for _, whole := range []string{s, s + "xy", "x" + s + "y", "xy" + s} {
			agree(t, whole, name, proto)
		}
	}
}

func TestLengths(t *testing.T) {
	for n := range 100 {
		agree(t, strings.Repeat("x", n), 1 <= n && n <= 32, 1 <= n && n <= 8)
	}
	agree(t, strings.Repeat("x", 1<<20), false, false)
}

// TestRunes: letters and digits beyond ASCII are none, though some have one of ASCII as their other case.
func TestRunes(t *testing.T) {
	for _, s := range []string{"\u212a", "\u017f", "\u00e4", "\u0661", "\uff21", "\ufffd", "x\u0301", "\xc3\x28"} {
		agree(t, s, false, false)
	}
}
