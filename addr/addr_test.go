package addr_test

import (
	"fmt"
	"math"
	"regexp"
	"strings"
	"testing"

	"concierge/addr"
)

// parsed tells what Parse answers in one text: the bytes in hexadecimal, or none.
func parsed(s string) string {
	a, ok := addr.Parse(s)
	if !ok {
		return "none" + a
	}
	return fmt.Sprintf("%x", a)
}

func TestParseShort(t *testing.T) {
	for s, want := range map[string]string{
		"1.2.3.4":         "01020304",
		"0.0.0.0":         "00000000",
		"255.255.255.255": "ffffffff",
		"10.0.0.1":        "0a000001",
		"9.10.99.100":     "090a6364",
		"199.200.249.250": "c7c8f9fa",
	} {
		if got := parsed(s); got != want {
			t.Errorf("P3.1: Parse(%q): %s, want %s", s, got, want)
		}
	}
}

// TestParseNumbers lays each number at each of the four places.
func TestParseNumbers(t *testing.T) {
	for n := range 1100 {
		for place := range 4 {
			numbers := []int{1, 2, 3, 4}
			numbers[place] = n
			s := strings.Trim(strings.ReplaceAll(fmt.Sprint(numbers), " ", "."), "[]")
			want := "none"
			if n <= 255 {
				want = fmt.Sprintf("%02x%02x%02x%02x", numbers[0], numbers[1], numbers[2], numbers[3])
			}
			if got := parsed(s); got != want {
				t.Errorf("P3.1: Parse(%q): %s, want %s", s, got, want)
			}
		}
	}
}

func TestParseLong(t *testing.T) {
	for s, want := range map[string]string{
		"1:2:3:4:5:6:7:8":                         "00010002000300040005000600070008",
		"0123:4567:89ab:cdef:0123:4567:89ab:cdef": "0123456789abcdef0123456789abcdef",
		"ABCD:EF01:aBcD:eF01:0:00:000:0000":       "abcdef01abcdef010000000000000000",
		"0:0:0:0:0:0:0:0":                         "00000000000000000000000000000000",
		"::":                                      "00000000000000000000000000000000",
		"::1":                                     "00000000000000000000000000000001",
		"1::":                                     "00010000000000000000000000000000",
		"1::8":                                    "00010000000000000000000000000008",
		"fe80::1:2":                               "fe800000000000000000000000010002",
		// The shortest run that may be left out is of one group.
		"::2:3:4:5:6:7:8": "00000002000300040005000600070008",
		"1::3:4:5:6:7:8":  "00010000000300040005000600070008",
		"1:2:3:4:5:6::8":  "00010002000300040005000600000008",
		"1:2:3:4:5:6:7::": "00010002000300040005000600070000",
		// Other zeros may be written out beside it.
		"0::0":     "00000000000000000000000000000000",
		"0:0::0:0": "00000000000000000000000000000000",
		"0:1::0:2": "00000001000000000000000000000002",
		// A short address at the end.
		"1:2:3:4:5:6:7.8.9.10": "0001000200030004000500060708090a",
		"::1.2.3.4":            "00000000000000000000000001020304",
		"::ffff:1.2.3.4":       "00000000000000000000ffff01020304",
		"1::1.2.3.4":           "00010000000000000000000001020304",
		"1:2:3:4:5::1.2.3.4":   "00010002000300040005000001020304",
		"::2:3:4:5:6:1.2.3.4":  "00000002000300040005000601020304",
		"::255.255.255.255":    "000000000000000000000000ffffffff",
		"64:ff9b::0.0.0.0":     "0064ff9b000000000000000000000000",
	} {
		if got := parsed(s); got != want {
			t.Errorf("P3.1: Parse(%q): %s, want %s", s, got, want)
		}
	}
}

func TestParseNone(t *testing.T) {
	for _, s := range []string{
		"", " ", ".", "...", "1", "1.2.3", "1.2.3.", ".2.3.4", "1..3.4", "1.2.3.4.", ".1.2.3.4", "1.2.3.4.5",
		"01.2.3.4", "1.00.3.4", "1.2.3.04", "1.2.000.4", "256.2.3.4", "1.2.3.256", "1.2.3.999", "1.2.3.1000",
		"1.2.3.4 ", " 1.2.3.4", "1. 2.3.4", "1.2.3.4\n", "1.2.3.4\x00", "+1.2.3.4", "1.2.3.-4", "-0.0.0.0",
		"a.b.c.d", "0x1.2.3.4", "1e1.2.3.4", "1_0.2.3.4", "1.2.3.4/8", "1.2.3.4%1", "[1.2.3.4]", "١.2.3.4",
		"1.2.3.18446744073709551617", "1.2.3.4294967297", "16909060", "1,2,3,4",
		"1.2.3.4:80", "1.2.3.4:", ":1.2.3.4",
		":", ":::", "::::", "1", "1:", ":1", "1:2", "1:2:3:4:5:6:7", "1:2:3:4:5:6:7:8:9", "1:2:3:4:5:6:7:8:9:10",
		":1:2:3:4:5:6:7:8", "1:2:3:4:5:6:7:8:", ":2:3:4:5:6:7:8", "1:2:3:4:5:6:7:", "1:::8", ":::1", "1:::", "::1:", ":1::",
		"1::2::3", "::1::", "::2::", "1:2::3::", "1::::2",
		// Nothing is left out.
		"1:2:3:4:5:6:7:8::", "::1:2:3:4:5:6:7:8", "1:2:3:4::5:6:7:8", "1:2:3:4:5:6:7:8::9", "1:2:3:4:5:6:7::8:9",
		"1:2:3:4:5:6::1.2.3.4", "::1:2:3:4:5:6:1.2.3.4", "1:2:3::4:5:6:1.2.3.4",
		"12345::", "::12345", "00001::", "::00000", "1:2:3:4:5:6:7:00008", "10000::", "::fffff",
		"g::", "::G", "::+1", "::-1", "::0x1", "::1_0", ":: 1", " ::1", "::1 ", "::1\n", "::\x00", "::\xff", "::1%eth0", "::1/64", "[::1]", "::١",
		// A short address that is none, or that doesn't end the whole.
		"::1.2.3", "::1.2.3.4.5", "::01.2.3.4", "::1.2.3.256", "::1.2.3.a", "::a.2.3.4", "::1.2.3.4:5", "::1.2.3.4:", "::1.2.3.4:1.2.3.4",
		"1.2.3.4::", "1.2.3.4::1", "1:1.2.3.4::", "1.2.3.4::1.2.3.4", "1.2.3.4:1.2.3.4::", "1.2.3.4:5:6:7:8:9:a",
		"1:2:3:4:5:1.2.3.4", "1:2:3:4:5:6:7:1.2.3.4", "1:2:3:4:5:6:7:8:1.2.3.4", "1:2:3:4:5:6:1.2.3.4:8", "1:1.2.3.4",
	} {
		if a, ok := addr.Parse(s); ok || a != "" {
			t.Errorf("P3.1: Parse(%q): %q, %t", s, a, ok)
		}
	}
}

// TestParseHuge: long texts end too.
func TestParseHuge(t *testing.T) {
	const many = 1 << 20
	for _, piece := range []string{"0", "1.", "1:", ":", "::", ".", "1::", "f", "1.2.3.4:", "\x00", "\xff"} {
		for _, frame := range []string{"%s", "::%s", "%s::", "1.2.3.%s", "%s.2.3.4", "%s:2:3:4:5:6:7:8", "1:2:3:4:5:6:7:%s", "::%s.2.3.4"} {
			s := fmt.Sprintf(frame, strings.Repeat(piece, many))
			if a, ok := addr.Parse(s); ok || a != "" {
				t.Errorf("P0.1: Parse of many %q in %q: %q, %t", piece, frame, a, ok)
			}
		}
	}
}

// number, group and the rest are the promise's words as patterns: a second reading, apart from the program's.
const (
	number = `(0|[1-9][0-9]?|1[0-9][0-9]|2[0-4][0-9]|25[0-5])`
	group  = `[0-9a-fA-F]{1,4}`
)

var (
	isShort = regexp.MustCompile(`^` + number + `(\.` + number + `){3}$`)
	isLong  = regexp.MustCompile(`^(` + group + `:){7}` + group + `$`)
)

// plain: s is an address, by writing out what was left out until there are eight groups.
func plain(s string) bool {
	if isShort.MatchString(s) {
		return true
	}
	// Two groups take the place of a short address at the end.
	if at := strings.LastIndex(s, ":"); at >= 0 && isShort.MatchString(s[at+1:]) {
		s = s[:at+1] + "1:1"
	}
	if isLong.MatchString(s) {
		return true
	}
	for n := 1; n <= 8 && strings.Contains(s, "::"); n++ {
		// Colons at the ends come from zeros that have no neighbour there.
		zeros := ":" + strings.Repeat("0:", n)
		whole := strings.Replace(s, "::", zeros, 1)
		if strings.HasPrefix(s, "::") {
			whole = whole[1:]
		}
		if strings.HasSuffix(s, "::") {
			whole = whole[:len(whole)-1]
		}
		if isLong.MatchString(whole) {
			return true
		}
	}
	return false
}

// agree holds Parse against plain, and an address' text against Print.
func agree(t *testing.T, s string) {
	t.Helper()
	a, ok := addr.Parse(s)
	if ok != plain(s) {
		t.Fatalf("P3.1: Parse(%q): %t", s, ok)
	}
	if !ok && a != "" {
		t.Fatalf("P0.2: Parse(%q): %q beside false", s, a)
	}
	if b, okB := addr.Parse(addr.Print(a)); b != a || okB != ok {
		t.Fatalf("P3.1: Parse(%q) printed and read again: %x, was %x", s, b, a)
	}
}

// TestShortTexts: all texts of a few pieces, within texts that nearly are addresses.
func TestShortTexts(t *testing.T) {
	pieces := []string{"0", "1", "25", "6", "F", "g", ".", ":", "::", "1.2.3.4", " ", "\xff"}
	frames := [][2]string{{"", ""}, {"1.2.", ""}, {"", ".4"}, {"1:2:3:", ":7:8"}, {"1:2:3:4:5:", ""}, {"", ":4:5:6:7:8"}, {"::", ""}, {"", "::"}, {"1::", ":8"}, {"1:2:3:4:5:6:7", ""}, {"", ":1.2.3.4"}}
	var grow func(body string, left int)
	grow = func(body string, left int) {
		for _, f := range frames {
			agree(t, f[0]+body+f[1])
		}
		for i := 0; left > 0 && i < len(pieces); i++ {
			grow(body+pieces[i], left-1)
		}
	}
	grow("", 4)
}

// TestBytes lays each byte at each place of texts that are addresses, and between their bytes.
func TestBytes(t *testing.T) {
	for _, s := range []string{"1.20.134.0", "12:ab::9:0", "1:2:3:4:5:6:7:8", "::ffff:1.2.3.4", "a:b:c:d:e:f:255.9.9.9"} {
		for at := range len(s) + 1 {
			for b := range 256 {
				agree(t, s[:at]+string([]byte{byte(b)})+s[at:])
				if at < len(s) {
					agree(t, s[:at]+string([]byte{byte(b)})+s[at+1:])
				}
			}
			agree(t, s[:at])
			agree(t, s[at:])
		}
	}
}

func TestPrint(t *testing.T) {
	for a, want := range map[string]string{
		"\x00\x00\x00\x00": "0.0.0.0",
		"\xff\xff\xff\xff": "255.255.255.255",
		"\x01\x0a\x63\x64": "1.10.99.100",
		"abcd":             "97.98.99.100",
		"\x00\x01\x00\x02\x00\x03\x00\x04\x00\x05\x00\x06\x00\x07\x00\x08": "1:2:3:4:5:6:7:8",
		"\xab\xcd\x0e\xf0\x00\x1f\x10\x00\x0f\xff\xff\xff\x00\x10\x01\x00": "abcd:ef0:1f:1000:fff:ffff:10:100",
		"abcdefghijklmnop":          "6162:6364:6566:6768:696a:6b6c:6d6e:6f70",
		strings.Repeat("\x00", 16):  "::",
		strings.Repeat("\xff", 16):  "ffff:ffff:ffff:ffff:ffff:ffff:ffff:ffff",
		v6(0, 0, 0, 0, 0, 0, 0, 1):  "::1",
		v6(1, 0, 0, 0, 0, 0, 0, 0):  "1::",
		v6(0, 1, 1, 1, 1, 1, 1, 1):  "0:1:1:1:1:1:1:1",
		v6(1, 1, 1, 1, 1, 1, 1, 0):  "1:1:1:1:1:1:1:0",
		v6(1, 0, 1, 0, 1, 0, 1, 0):  "1:0:1:0:1:0:1:0",
		v6(1, 0, 0, 1, 1, 1, 1, 1):  "1::1:1:1:1:1",
		v6(0, 0, 1, 1, 1, 1, 0, 0):  "::1:1:1:1:0:0",
		v6(0, 0, 1, 1, 1, 0, 0, 0):  "0:0:1:1:1::",
		v6(0, 0, 0, 1, 1, 0, 0, 0):  "::1:1:0:0:0",
		v6(1, 0, 0, 1, 0, 0, 0, 1):  "1:0:0:1::1",
		v6(1, 0, 0, 0, 1, 0, 0, 1):  "1::1:0:0:1",
		v6(1, 0, 0, 1, 0, 0, 1, 0):  "1::1:0:0:1:0",
		v6(0, 1, 0, 0, 0, 0, 1, 0):  "0:1::1:0",
		v6(0, 0, 0, 0, 0, -1, 1, 1): "::ffff:1:1",
	} {
		if got := addr.Print(a); got != want {
			t.Errorf("P3.1: Print(%x): %q, want %q", a, got, want)
		}
	}
}

// v6 is the address of eight groups.
func v6(groups ...int) string {
	var a []byte
	for _, g := range groups {
		a = append(a, byte(g>>8), byte(g))
	}
	return string(a)
}

func TestPrintNone(t *testing.T) {
	for n := range 40 {
		for _, fill := range []string{"\x00", "a", "\xff"} {
			got := addr.Print(strings.Repeat(fill, n))
			if is := n == 4 || n == 16; (got != "") != is {
				t.Errorf("P3.1: Print of %d bytes %q: %q", n, fill, got)
			}
		}
	}
	for _, a := range []string{"1.2.3.4.5", strings.Repeat("a", 1<<20)} {
		if got := addr.Print(a); got != "" {
			t.Errorf("P3.1: Print of %d bytes: %q", len(a), got)
		}
	}
}

// TestPrintZeros: each way to lay zeros among eight groups.
func TestPrintZeros(t *testing.T) {
	for mask := range 256 {
		groups, texts := make([]int, 8), make([]string, 8)
		for i := range groups {
			if mask>>i&1 == 1 {
				groups[i] = 0xa0 + i
			}
			texts[i] = fmt.Sprintf("%x", groups[i])
		}
		want := strings.Join(texts, ":")
		// The longest runs first, of these the leftmost: the first that is there is the one.
		for n := 8; n >= 2 && !strings.Contains(want, "::"); n-- {
			for i := 0; i+n <= 8 && !strings.Contains(want, "::"); i++ {
				if strings.Trim(strings.Join(texts[i:i+n], ""), "0") == "" {
					want = strings.Join(texts[:i], ":") + "::" + strings.Join(texts[i+n:], ":")
				}
			}
		}
		a := v6(groups...)
		if got := addr.Print(a); got != want {
			t.Errorf("P3.1: Print(%x): %q, want %q", a, got, want)
		}
		agree(t, want)
		agree(t, strings.Join(texts, ":"))
	}
}

// flip is a with one bit changed.
func flip(a string, bit int) string {
	b := []byte(a)
	b[bit/8] ^= 0x80 >> (bit % 8)
	return string(b)
}

// TestBits: two addresses that differ at each bit first, alone and with others behind it.
func TestBits(t *testing.T) {
	for _, a := range []string{"\x01\x02\x03\x04", "\x00\x00\x00\x00", "\xff\xff\xff\xff", "abcdefghijklmnop", strings.Repeat("\x00", 16)} {
		all := 8 * len(a)
		for bit := range all + 1 {
			b := a
			if bit < all {
				b = flip(a, bit)
			}
			if bit+1 < all {
				checkBits(t, a, flip(b, all-1), bit)
				checkBits(t, a, flip(b, bit+1), bit)
			}
			checkBits(t, a, b, bit)
		}
	}
}

// checkBits: a and b have just so many bits alike.
func checkBits(t *testing.T, a, b string, alike int) {
	t.Helper()
	if got, back := addr.Common(a, b), addr.Common(b, a); got != alike || back != alike {
		t.Errorf("P3.2: Common(%x, %x): %d and %d, want %d", a, b, got, back, alike)
	}
	for bits := -1; bits <= 8*len(a)+1; bits++ {
		want := bits >= 0 && bits <= alike
		if got, back := addr.In(a, b, bits), addr.In(b, a, bits); got != want || back != want {
			t.Errorf("P3.2: In(%x, %x, %d): %t and %t, want %t", a, b, bits, got, back, want)
		}
	}
}

func TestBitsOfWrongOnes(t *testing.T) {
	ones := []string{"", "a", "abc", "abcd", "abcde", "abcdefghijklmno", "abcdefghijklmnop", "abcdefghijklmnopq", "1.2.3.4", strings.Repeat("a", 1<<20)}
	for i, a := range ones {
		for j, b := range ones {
			if i != j {
				for _, bits := range []int{math.MinInt, -1, 0, 1, 8, 32, 128, math.MaxInt} {
					if addr.In(a, b, bits) {
						t.Errorf("P3.2: In of %d and %d bytes, %d: true", len(a), len(b), bits)
					}
				}
			}
			if i == j && (len(a) == 4 || len(a) == 16) {
				continue
			}
			if got := addr.Common(a, b); got != 0 {
				t.Errorf("P3.2: Common of %d and %d bytes: %d", len(a), len(b), got)
			}
		}
	}
	for _, bits := range []int{math.MinInt, math.MinInt + 1, -128, -32, -1, 33, 128, 256, math.MaxInt - 1, math.MaxInt} {
		if addr.In("abcd", "abcd", bits) {
			t.Errorf("P3.2: In of 4 bytes and %d bits: true", bits)
		}
	}
	if addr.In("abcdefghijklmnop", "abcdefghijklmnop", 129) {
		t.Error("P3.2: In of 16 bytes and 129 bits: true")
	}
}

// TestInOtherLengths: In asks for one length alone, as its words say.
func TestInOtherLengths(t *testing.T) {
	for _, c := range []struct {
		a, prefix string
		bits      int
		want      bool
	}{
		{"", "", 0, true},
		{"", "", 1, false},
		{"abc", "abc", 24, true},
		{"abc", "abc", 25, false},
		{"abc", "abb", 23, true},
		{"abc", "abb", 24, false},
	} {
		if got := addr.In(c.a, c.prefix, c.bits); got != c.want {
			t.Errorf("P3.2: In(%q, %q, %d): %t", c.a, c.prefix, c.bits, got)
		}
	}
}
