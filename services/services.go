// Package services: what services' names and protocols may be: see the words of doc/07-svctab.md.
package services

import "strings"

// How long they may be, in bytes.
const (
	mostName  = 32
	mostProto = 8
)

// IsName: s is a service's name.
func IsName(s string) bool {
	return s != "" && len(s) <= mostName && !strings.ContainsFunc(s, isForeign)
}

// isForeign: r is none of what services' names are made of.
func isForeign(r rune) bool {
	return isNoLetter(r) && (r < '0' || r > '9') && r != '-' && r != '_' && r != '.'
}

// IsProto: s is a protocol, in whatever letters.
func IsProto(s string) bool {
	return s != "" && len(s) <= mostProto && !strings.ContainsFunc(s, isNoLetter)
}

// isNoLetter: r is none of A to Z and a to z.
func isNoLetter(r rune) bool { return (r < 'a' || r > 'z') && (r < 'A' || r > 'Z') }
