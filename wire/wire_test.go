package wire_test

import (
	"bytes"
	"errors"
	"math"
	"reflect"
	"strconv"
	"strings"
	"testing"

	"concierge/api"
	"concierge/wire"
)

// label is the longest one that may be, longest a name of 253 bytes, and inBytes that name as a message has it.
var (
	label   = strings.Repeat("a", 63)
	longest = label + "." + label + "." + label + "." + label[:61]
	inBytes = "?" + label + "?" + label + "?" + label + "=" + label[:61] + "\x00"
)

// What most messages of these tests begin with: all that is ahead of the question, with so many answers, and the question for the TA of a.b.
const (
	noAnswer  = "\x00\x07\x80\x00\x00\x01\x00\x00\x00\x00\x00\x00"
	oneAnswer = "\x00\x07\x80\x00\x00\x01\x00\x01\x00\x00\x00\x00"
	twoAnswer = "\x00\x07\x80\x00\x00\x01\x00\x02\x00\x00\x00\x00"
	question  = "\x01a\x01b\x00\x00\x01\x00\x01"
)

// tail: a record behind its name.
func tail(kind int, data string) string {
	return string([]byte{byte(kind >> 8), byte(kind), 0, 1, 0, 0, 0, 9, byte(len(data) >> 8), byte(len(data))}) + data
}

// ask is a message without answers, and tell one with a record of each kind.
func ask() api.Message {
	return api.Message{ID: 7, Want: true, Question: api.Question{Name: "a.b", Type: api.TA}}
}

func tell() api.Message {
	return api.Message{ID: 0xabcd, Reply: true, Code: 3, Question: api.Question{Name: "gate", Type: 0x1234}, Answers: []api.Record{
		{Name: "a.b", Type: api.TA, TTL: 0x01020304, Data: "\x0a\x00\x00\xff"},
		{Name: "c", Type: api.TAAAA, TTL: 1, Data: "0123456789abcdef"},
		{Name: "4.3.2.1.in-addr.arpa", Type: api.TPtr, TTL: 2, Data: "gate.x"},
		{Name: "_d-1", Type: 0xffff, Data: "\x00\xff."},
		{Name: "e", Type: 2, Data: ""},
	}}
}

const (
	asked = "\x00\x07\x01\x00\x00\x01\x00\x00\x00\x00\x00\x00" + question
	told  = "\xab\xcd\x80\x03\x00\x01\x00\x05\x00\x00\x00\x00" + "\x04gate\x00\x12\x34\x00\x01" +
		"\x01a\x01b\x00\x00\x01\x00\x01\x01\x02\x03\x04\x00\x04\x0a\x00\x00\xff" +
		"\x01c\x00\x00\x1c\x00\x01\x00\x00\x00\x01\x00\x100123456789abcdef" +
		"\x014\x013\x012\x011\x07in-addr\x04arpa\x00\x00\x0c\x00\x01\x00\x00\x00\x02\x00\x08\x04gate\x01x\x00" +
		"\x04_d-1\x00\xff\xff\x00\x01\x00\x00\x00\x00\x00\x03\x00\xff." +
		"\x01e\x00\x00\x02\x00\x01\x00\x00\x00\x00\x00\x00"
)

// same: two messages are one, but for lists that are nil or empty.
func same(a, b api.Message) bool {
	if len(a.Answers)+len(b.Answers) == 0 {
		a.Answers, b.Answers = nil, nil
	}
	return reflect.DeepEqual(a, b)
}

// encoded tells what Encode answers in one text, and whether it is a message.
func encoded(t *testing.T, m api.Message) (string, bool) {
	t.Helper()
	b, err := wire.Encode(m)
	if err == nil {
		return string(b), true
	}
	if !errors.Is(err, api.BadMessage) || len(b) != 0 {
		t.Errorf("P5.1: %q, %v; want none and BadMessage", b, err)
	}
	return "", false
}

// decoded tells what Decode answers, and whether it is a message.
func decoded(t *testing.T, s string) (api.Message, bool) {
	t.Helper()
	m, err := wire.Decode([]byte(s))
	if err == nil {
		return m, true
	}
	if !errors.Is(err, api.BadMessage) || !same(m, api.Message{}) {
		t.Errorf("P5.2: Decode(%q): %v, %v; want a zero one and BadMessage", s, m, err)
	}
	return m, false
}

func TestEncode(t *testing.T) {
	for why, c := range map[string]struct {
		m    api.Message
		want string
	}{
		"ask":      {ask(), asked},
		"tell":     {tell(), told},
		"no flags": {api.Message{Question: api.Question{Name: "x", Type: 1}}, "\x00\x00\x00\x00\x00\x01\x00\x00\x00\x00\x00\x00\x01x\x00\x00\x01\x00\x01"},
		"reply":    {api.Message{Reply: true, Question: api.Question{Name: "x", Type: 1}}, "\x00\x00\x80\x00\x00\x01\x00\x00\x00\x00\x00\x00\x01x\x00\x00\x01\x00\x01"},
		"cut":      {api.Message{Cut: true, Question: api.Question{Name: "x", Type: 1}}, "\x00\x00\x02\x00\x00\x01\x00\x00\x00\x00\x00\x00\x01x\x00\x00\x01\x00\x01"},
		"want":     {api.Message{Want: true, Question: api.Question{Name: "x", Type: 1}}, "\x00\x00\x01\x00\x00\x01\x00\x00\x00\x00\x00\x00\x01x\x00\x00\x01\x00\x01"},
		"all":      {api.Message{ID: 65535, Reply: true, Cut: true, Want: true, Code: 15, Question: api.Question{Name: "x", Type: 65535}}, "\xff\xff\x83\x0f\x00\x01\x00\x00\x00\x00\x00\x00\x01x\x00\xff\xff\x00\x01"},
		"longest":  {api.Message{Question: api.Question{Name: longest, Type: 1}}, "\x00\x00\x00\x00\x00\x01\x00\x00\x00\x00\x00\x00" + inBytes + "\x00\x01\x00\x01"},
	} {
		if got, ok := encoded(t, c.m); got != c.want || !ok {
			t.Errorf("P5.1: %s: %q, %t, want %q", why, got, ok, c.want)
		}
		if got, ok := decoded(t, c.want); !same(got, c.m) || !ok {
			t.Errorf("P5.2: %s: %v, %t, want %v", why, got, ok, c.m)
		}
	}
}

// TestEncodeNumbers: each number at its limits, and beyond them.
func TestEncodeNumbers(t *testing.T) {
	for _, c := range []struct {
		why   string
		most  int
		least int
		put   func(m *api.Message, n int)
	}{
		{"ID", 65535, 0, func(m *api.Message, n int) { m.ID = n }},
		{"Code", 15, 0, func(m *api.Message, n int) { m.Code = n }},
		{"the question's Type", 65535, 1, func(m *api.Message, n int) { m.Question.Type = n }},
		{"the first record's Type", 65535, 1, func(m *api.Message, n int) {
			m.Answers[0].Type, m.Answers[0].Data = n, string(make([]byte, typeSize(n)))
		}},
		{"the last record's Type", 65535, 1, func(m *api.Message, n int) {
			m.Answers[4].Type, m.Answers[4].Data = n, string(make([]byte, typeSize(n)))
		}},
		{"the first TTL", math.MaxInt32, 0, func(m *api.Message, n int) { m.Answers[0].TTL = int64(n) }},
		{"the last TTL", math.MaxInt32, 0, func(m *api.Message, n int) { m.Answers[4].TTL = int64(n) }},
	} {
		for _, n := range []int{c.least, c.least + 1, c.most - 1, c.most, 2, 9, 15} {
			m := tell()
			c.put(&m, n)
			s, ok := encoded(t, m)
			if got, ok2 := decoded(t, s); !ok || !ok2 || !same(got, m) {
				t.Errorf("P5.1: %s %d: %t, %t: %v", c.why, n, ok, ok2, got)
			}
		}
		for _, n := range []int{c.least - 1, c.most + 1, -1, -65536, 1 << 16 * 2, 1 << 32, 1<<32 + 1, 1<<32 + 7, 1<<40 + 9, -1<<32 + 1, math.MinInt, math.MinInt + 1, math.MaxInt} {
			m := tell()
			c.put(&m, n)
			if n < c.least || n > c.most {
				if s, ok := encoded(t, m); ok {
					t.Errorf("P5.1: %s %d: %q", c.why, n, s)
				}
			}
		}
	}
}

// typeSize: how many bytes of data each type but TPtr may have.
func typeSize(kind int) int {
	switch kind {
	case api.TA:
		return 4
	case api.TAAAA:
		return 16
	}
	return 2
}

// places put a name into each place of a message that has one.
var places = map[string]func(m *api.Message, s string){
	"question":    func(m *api.Message, s string) { m.Question.Name = s },
	"first":       func(m *api.Message, s string) { m.Answers[0].Name = s },
	"last":        func(m *api.Message, s string) { m.Answers[4].Name = s },
	"pointer":     func(m *api.Message, s string) { m.Answers[2].Name = s },
	"pointed at":  func(m *api.Message, s string) { m.Answers[2].Data = s },
	"the longest": func(m *api.Message, s string) { m.Answers[2].Name, m.Answers[2].Data = longest, s },
}

func TestEncodeNames(t *testing.T) {
	for why, put := range places {
		for _, s := range []string{"a", "0", "-", "_", "a.b", "a-b_c.0", label, "x." + label, longest, strings.Repeat("a.", 126) + "b"} {
			m := tell()
			put(&m, s)
			b, ok := encoded(t, m)
			if got, ok2 := decoded(t, b); !ok || !ok2 || !same(got, m) {
				t.Errorf("P5.1: %s %q: %t, %t: %v", why, s, ok, ok2, got)
			}
		}
		for _, s := range []string{
			"", ".", "..", ".a", "a..b", "a.", "a.b.", "A", "a.B", "a.bcD", " ", "a b", "a!", "a\x00", "\x00", "\xff", "a\xc0\x0c", "\xc3\xa4", "\u212a",
			"\x01a\x00", label + "a", "x." + label + "a", longest + "a", longest + ".", longest + ".a", strings.ToUpper(longest),
			strings.Repeat("a.", 127), strings.Repeat("a.", 127) + "b", strings.Repeat("a", 1<<20), strings.Repeat(".", 1<<20),
		} {
			m := tell()
			put(&m, s)
			if b, ok := encoded(t, m); ok {
				t.Errorf("P5.1: %s %.40q: %q", why, s, b)
			}
		}
	}
}

// TestData: how long the data of each type may be, written and read.
func TestData(t *testing.T) {
	for kind, fits := range map[int]func(n int) bool{
		api.TA:    func(n int) bool { return n == 4 },
		api.TAAAA: func(n int) bool { return n == 16 },
		2:         func(n int) bool { return n <= 256 },
		11:        func(n int) bool { return n <= 256 },
		13:        func(n int) bool { return n <= 256 },
		256 + 1:   func(n int) bool { return n <= 256 },
		256 + 12:  func(n int) bool { return n <= 256 },
		256 + 28:  func(n int) bool { return n <= 256 },
		65535:     func(n int) bool { return n <= 256 },
	} {
		for n := range 600 {
			m := ask()
			m.Reply, m.Want = true, false
			m.Answers = []api.Record{{Name: "x", Type: kind, TTL: 9, Data: strings.Repeat("\xc0", n)}}
			b := oneAnswer + question + "\x01x\x00" + tail(kind, m.Answers[0].Data)
			want := b
			if !fits(n) {
				want = ""
			}
			if got, ok := encoded(t, m); got != want || ok != fits(n) {
				t.Fatalf("P5.1: type %d, %d bytes: %q, %t", kind, n, got, ok)
			}
			if got, ok := decoded(t, b); ok != fits(n) || ok && !same(got, m) {
				t.Fatalf("P5.2: type %d, %d bytes: %v, %t", kind, n, got, ok)
			}
		}
	}
	for _, n := range []int{4097, 65535, 65536, 65536 + 4, 65536 + 16, 1 << 20} {
		for _, kind := range []int{api.TA, api.TAAAA, api.TPtr, 2, 65535} {
			m := tell()
			m.Answers[0] = api.Record{Name: "x", Type: kind, Data: strings.Repeat("a", n)}
			if b, ok := encoded(t, m); ok {
				t.Errorf("P5.1: type %d, %d bytes: %d", kind, n, len(b))
			}
		}
	}
}

// TestSize: messages of the most bytes that may be, and of one more.
func TestSize(t *testing.T) {
	// Beside 19 bytes of the question, 15 records of 269 bytes leave 42 for the last one.
	full := func(last int) api.Message {
		m := api.Message{Question: api.Question{Name: "a", Type: 1}}
		for range 15 {
			m.Answers = append(m.Answers, api.Record{Name: "a", Type: 9, Data: strings.Repeat("x", 256)})
		}
		m.Answers = append(m.Answers, api.Record{Name: "a", Type: 9, Data: strings.Repeat("x", last)})
		return m
	}
	for n := range 257 {
		b, ok := encoded(t, full(n))
		if ok != (n <= 29) || ok && len(b) != 4067+n {
			t.Errorf("P5.1: %d bytes: %t", 4067+n, ok)
		}
		if got, ok2 := decoded(t, b); ok && (!ok2 || !same(got, full(n))) {
			t.Errorf("P5.2: %d bytes: %t", len(b), ok2)
		}
	}
	if b, ok := encoded(t, full(29)); len(b) != api.MaxMessage || !ok {
		t.Errorf("P5.1: %d bytes: %t", len(b), ok)
	}
	if _, ok := decoded(t, asked+strings.Repeat("x", api.MaxMessage-len(asked))); !ok {
		t.Error("P5.2: 4096 bytes")
	}
	for _, n := range []int{api.MaxMessage + 1, 1 << 16, 1<<16 + len(asked), 1 << 20} {
		if _, ok := decoded(t, asked+strings.Repeat("x", n-len(asked))); ok {
			t.Errorf("P5.2: %d bytes", n)
		}
	}
}

// TestAnswers: how many there may be.
func TestAnswers(t *testing.T) {
	for _, n := range []int{0, 1, 2, 31, 32, 33, 34, 64, 255, 256, 257, 288, 65535, 65536, 65536 + 1, 1 << 20} {
		m := ask()
		m.Want = false
		m.Reply = true
		b := noAnswer[:6] + string([]byte{byte(n >> 8), byte(n)}) + noAnswer[8:] + question
		for i := range n {
			m.Answers = append(m.Answers, api.Record{Name: "x", Type: 9, TTL: 9, Data: strconv.Itoa(i)})
		}
		for i := range min(n, 200) {
			b += "\x01x\x00" + tail(9, strconv.Itoa(i))
		}
		if got, ok := encoded(t, m); ok != (n <= 32) || ok && got != b {
			t.Errorf("P5.1: %d answers: %t", n, ok)
		}
		if got, ok := decoded(t, b); n < 65536 && (ok != (n <= 32) || ok && !same(got, m)) {
			t.Errorf("P5.2: %d answers: %t", n, ok)
		}
	}
}

// TestFlags reads all flags.
func TestFlags(t *testing.T) {
	for f := range 1 << 16 {
		got, ok := decoded(t, asked[:2]+string([]byte{byte(f >> 8), byte(f)})+asked[4:])
		if f&0x7800 != 0 {
			if ok {
				t.Fatalf("P5.2: flags %x: %v", f, got)
			}
			continue
		}
		want := ask()
		want.Reply, want.Cut, want.Want, want.Code = f >= 1<<15, f>>9&1 == 1, f>>8&1 == 1, f%16
		if !ok || !same(got, want) {
			t.Fatalf("P5.2: flags %x: %v, %t, want %v", f, got, ok, want)
		}
	}
}

// TestWords reads each number of two bytes at all its values.
func TestWords(t *testing.T) {
	b := oneAnswer + question + "\x01x\x00" + tail(9, "")
	for _, c := range []struct {
		why  string
		at   int
		want func(m *api.Message, n int) bool
	}{
		{"ID", 0, func(m *api.Message, n int) bool { m.ID = n; return true }},
		{"questions", 4, func(m *api.Message, n int) bool { return n == 1 }},
		{"the third number", 8, func(m *api.Message, n int) bool { return true }},
		{"the fourth number", 10, func(m *api.Message, n int) bool { return true }},
		{"the question's type", 17, func(m *api.Message, n int) bool { m.Question.Type = n; return n > 0 }},
		{"the question's class", 19, func(m *api.Message, n int) bool { return n == 1 }},
		{"a type", 24, func(m *api.Message, n int) bool {
			m.Answers[0].Type = n
			return n > 0 && n != api.TA && n != api.TAAAA && n != api.TPtr
		}},
		{"a class", 26, func(m *api.Message, n int) bool { return n == 1 }},
		{"TTL, the higher", 28, func(m *api.Message, n int) bool { m.Answers[0].TTL = int64(n)<<16 + 9; return n < 1<<15 }},
		{"TTL, the lower", 30, func(m *api.Message, n int) bool { m.Answers[0].TTL = int64(n); return true }},
		{"the data's length", 32, func(m *api.Message, n int) bool { return n == 0 }},
	} {
		for n := range 1 << 16 {
			want := ask()
			want.Reply, want.Want = true, false
			want.Answers = []api.Record{{Name: "x", Type: 9, TTL: 9}}
			good := c.want(&want, n)
			got, ok := decoded(t, b[:c.at]+string([]byte{byte(n >> 8), byte(n)})+b[c.at+2:])
			if ok != good || ok && !same(got, want) {
				t.Fatalf("P5.2: %s %d: %v, %t, want %v, %t", c.why, n, got, ok, want, good)
			}
		}
	}
}

// TestLength: a message that ends early is none, and one that goes on is the same.
func TestLength(t *testing.T) {
	for _, s := range []string{asked, told, oneAnswer + question + "\xc0\x0c" + tail(api.TPtr, "\x01c\xc0\x0e"), noAnswer + "\xc0\x00"} {
		want, _ := decoded(t, s)
		for n := range len(s) {
			if _, ok := decoded(t, s[:n]); ok {
				t.Errorf("P5.2: %d bytes of %q", n, s)
			}
		}
		for _, more := range []string{"", "\x00", "\x01", "\xff", "\xc0\x0c", "x", s, strings.Repeat("\x00", 3000)} {
			if got, ok := decoded(t, s+more); s != noAnswer+"\xc0\x00" && (!ok || !same(got, want)) {
				t.Errorf("P5.2: %q with %.40q behind: %v, %t", s, more, got, ok)
			}
		}
	}
	for _, b := range [][]byte{nil, {}} {
		if m, err := wire.Decode(b); !errors.Is(err, api.BadMessage) || !same(m, api.Message{}) {
			t.Errorf("P0.4: Decode of nothing: %v, %v", m, err)
		}
	}
	m := ask()
	m.Answers = []api.Record{}
	if got, ok := encoded(t, m); got != asked || !ok {
		t.Errorf("P0.4: an empty list: %q", got)
	}
}

// TestReadNames: names without pointers, as a question, as a record's name, and as data.
func TestReadNames(t *testing.T) {
	for s, want := range map[string]string{
		"\x01a\x00":                               "a",
		"\x01A\x00":                               "a",
		"\x03GaT\x01E\x00":                        "gat.e",
		"\x08Zz09-_aA\x00":                        "zz09-_aa",
		"?" + label + "\x00":                      label,
		"?" + strings.ToUpper(label) + "\x00":     label,
		inBytes:                                   longest,
		strings.ToUpper(inBytes):                  longest,
		strings.Repeat("\x01a", 127) + "\x00":     strings.Repeat("a.", 126) + "a",
		strings.Repeat("\x01a", 128) + "\x00":     "",
		"\x01a" + inBytes:                         "",
		inBytes[:192] + ">" + label[:62] + "\x00": "",
		"\x00":                                  "",
		"\x00\x00":                              "",
		"\x01.\x00":                             "",
		"\x02a.\x00":                            "",
		"\x02.a\x00":                            "",
		"\x03a.b\x00":                           "",
		"\x01a\x03b.c\x00":                      "",
		"\x01 \x00":                             "",
		"\x01\x00\x00":                          "",
		"\x02a\x00\x00":                         "",
		"\x01\xff\x00":                          "",
		"\x02\xc3\xa4\x00":                      "",
		"\x03\xe2\x84\xaa\x00":                  "",
		"\x02\xc0\x0c\x00":                      "",
		"\x01!\x00":                             "",
		"@" + label + "a\x00":                   "",
		"\x7f" + label + label + "a\x00":        "",
		"\x80" + label + label + "aa\x00":       "",
		"\xbf" + label + label + label + "\x00": "",
		"\x01a@" + label + "a\x00":              "",
	} {
		for why, b := range map[string]string{
			"question": noAnswer + s + "\x00\x01\x00\x01",
			"record":   oneAnswer + question + s + tail(9, ""),
			"data":     oneAnswer + question + "\x01x\x00" + tail(api.TPtr, s),
			"second":   twoAnswer + question + "\x01x\x00" + tail(9, "yz") + s + tail(api.TAAAA, label[:16]),
		} {
			got, ok := decoded(t, b)
			name := got.Question.Name
			switch {
			case ok && why == "data":
				name = got.Answers[0].Data
			case ok && why != "question":
				name = got.Answers[len(got.Answers)-1].Name
			}
			if name != want || ok != (want != "") {
				t.Errorf("P5.2: %s %.40q: %.40q, %t, want %.40q", why, s, name, ok, want)
			}
		}
	}
}

// TestPointers: the question a.b stands at the place 12, the first record at 21, and its data at 34 behind the name x, at 33 behind a pointer.
func TestPointers(t *testing.T) {
	long := strings.Repeat("x", 45)
	for _, c := range []struct {
		why  string
		s    string
		want string
	}{
		{"the whole question", oneAnswer + question + "\xc0\x0c" + tail(9, ""), "a.b"},
		{"its second label", oneAnswer + question + "\xc0\x0e" + tail(9, ""), "b"},
		{"a label ahead", oneAnswer + question + "\x01X\xc0\x0c" + tail(9, ""), "x.a.b"},
		{"labels ahead", oneAnswer + question + "\x01x\x02yy\xc0\x0e" + tail(9, ""), "x.yy.b"},
		{"the 0 of the question, a label ahead", oneAnswer + question + "\x01x\xc0\x10" + tail(9, ""), "x"},
		{"the 0 of the question", oneAnswer + question + "\xc0\x10" + tail(9, ""), ""},
		{"the question's type, a label ahead", oneAnswer + question + "\x01x\xc0\x11" + tail(9, ""), "x"},
		{"the last byte ahead", oneAnswer + question + "\xc0\x14" + tail(9, ""), ""},
		{"the name itself", oneAnswer + question + "\xc0\x15" + tail(9, ""), ""},
		{"the name itself, a label ahead", oneAnswer + question + "\x01x\xc0\x15" + tail(9, ""), ""},
		{"the pointer's second byte", oneAnswer + question + "\xc0\x16" + tail(9, ""), ""},
		{"the pointer itself, a label ahead", oneAnswer + question + "\x01x\xc0\x17" + tail(9, ""), ""},
		{"a place behind", oneAnswer + question + "\xc0\x17" + tail(9, ""), ""},
		{"a name behind", twoAnswer + question + "\xc0\x21" + tail(9, "") + "\x01x\x00" + tail(9, ""), ""},
		{"a place beyond all", oneAnswer + question + "\xc1\x00" + tail(9, ""), ""},
		{"the last place of all", oneAnswer + question + "\xff\xff" + tail(9, ""), ""},
		{"bits above are of the place", oneAnswer + question + "\xd0\x0c" + tail(9, ""), ""},
		{"all bits above", oneAnswer + question + "\xff\x0c" + tail(9, ""), ""},
		{"no pointer", oneAnswer + question + "\x80\x0c" + tail(9, ""), ""},
		{"no pointer either", oneAnswer + question + "\x40\x0c" + tail(9, ""), ""},
		{"the place 0", "\x01z\x00\x00\x00\x01\x00\x00\x00\x00\x00\x00" + "\xc0\x00" + "\x00\x01\x00\x01", "z"},
		{"the place 1", "\x00\x01\x00\x00\x00\x01\x00\x00\x00\x00\x00\x00" + "\xc0\x01" + "\x00\x01\x00\x01", ""},
		{"a 0 ahead, a label ahead", noAnswer + "\x01z\xc0\x00" + "\x00\x01\x00\x01", "z"},
		{"a 0 ahead", noAnswer + "\xc0\x00" + "\x00\x01\x00\x01", ""},
		{"the question itself", noAnswer + "\xc0\x0c" + "\x00\x01\x00\x01", ""},
		{"the question itself, a label ahead", noAnswer + "\x01a\xc0\x0c" + "\x00\x01\x00\x01", ""},
		{"within a label of this name", noAnswer + "\x2e-" + long + "\xc0\x0d" + "\x00\x01\x00\x01", ""},
		{"within a label of another name", oneAnswer + "\x2e-" + long + "\x00\x00\x01\x00\x01" + "\x01y\xc0\x0d" + tail(9, ""), "y." + long},
		{"data ahead", twoAnswer + question + "\x01x\x00" + tail(9, "\x01q\x00") + "\x01y\xc0\x22" + tail(9, ""), "y.q"},
		{"two pointers", twoAnswer + question + "\x01x\xc0\x0c" + tail(9, "") + "\x01y\xc0\x15" + tail(9, ""), "y.x.a.b"},
		{"a pointer to a pointer", twoAnswer + question + "\xc0\x0e" + tail(9, "") + "\xc0\x15" + tail(9, ""), "b"},
		{"a pointer that leads no lower", twoAnswer + question + "\x01x\x00" + tail(9, "\x01q\xc0\x22") + "\x01y\xc0\x22" + tail(9, ""), ""},
		{"a pointer that leads higher", twoAnswer + question + "\x01x\x00" + tail(9, "\x01q\x01r\xc0\x24") + "\x01y\xc0\x22" + tail(9, ""), ""},
		{"a pointer to itself", twoAnswer + question + "\x01x\x00" + tail(9, "\xc0\x22") + "\x01y\xc0\x22" + tail(9, ""), ""},
		{"two that lead to each other", twoAnswer + question + "\x01x\x00" + tail(9, "\xc0\x24\xc0\x22") + "\x01y\xc0\x24" + tail(9, ""), ""},
		{"a place of many bytes", twoAnswer + question + "\x01x\x00" + tail(9, strings.Repeat("\x00", 240)+"\x01q\x00") + "\x01y\xc1\x12" + tail(9, ""), "y.q"},
		{"half a pointer", noAnswer + "\x01a\xc0", ""},
	} {
		got, ok := decoded(t, c.s)
		name := got.Question.Name
		if n := len(got.Answers); n > 0 {
			name = got.Answers[n-1].Name
		}
		if name != c.want || ok != (c.want != "") {
			t.Errorf("P5.2: %s: %q, %t, want %q", c.why, name, ok, c.want)
		}
	}
}

// TestPointedLength: names of 253 and more bytes that pointers make.
func TestPointedLength(t *testing.T) {
	for n := range 300 {
		// The question's name has 189 bytes, and so many are put ahead of it.
		b := noAnswer[:7] + "\x01" + noAnswer[8:] + "?" + label + "?" + label + "=" + label[:61] + "\x00\x00\x01\x00\x01"
		ahead, want := "", ""
		for left := n; left > 0; left -= 2 {
			ahead += "\x01y"
			want += "y."
		}
		want += label + "." + label + "." + label[:61]
		got, ok := decoded(t, b+ahead+"\xc0\x0c"+tail(9, ""))
		if ok != (len(want) <= api.MaxName) || ok && got.Answers[0].Name != want {
			t.Fatalf("P5.2: a name of %d bytes: %t", len(want), ok)
		}
	}
}

// TestPointedData: names as data end where their length says.
func TestPointedData(t *testing.T) {
	for _, c := range []struct {
		data string
		want string
	}{
		{"\x01c\x00", "c"},
		{"\x01C\xc0\x0e", "c.b"},
		{"\xc0\x0c", "a.b"},
		{"\xc0\x15", "x"},
		{"\x01c\xc0\x15", "c.x"},
		{"\x01c\xc0\x10", "c"},
		{"\xc0\x10", ""},
		{"\x00", ""},
		{"", ""},
		{"\x01c", ""},
		{"\x01", ""},
		{"\xc0", ""},
		{"\x01c\x00\x00", ""},
		{"\x01c\x00x", ""},
		{"\xc0\x0c\x00", ""},
		{"\x01c\xc0\x0c\x00", ""},
		{"\x01c\x00\xc0\x0c", ""},
		{"\xc0\x22", ""},
		{"\x01c\xc0\x22", ""},
	} {
		for _, more := range []string{"", "\x00", "\x0c", "\x01c\x00", "\x0c\x0c\x0c"} {
			got, ok := decoded(t, oneAnswer+question+"\x01x\x00"+tail(api.TPtr, c.data)+more)
			if ok != (c.want != "") || ok && got.Answers[0].Data != c.want {
				t.Errorf("P5.2: data %q, %q behind: %v, %t, want %q", c.data, more, got, ok, c.want)
			}
		}
	}
	// Of other types such bytes are any bytes.
	if got, ok := decoded(t, oneAnswer+question+"\x01x\x00"+tail(5, "\xc0\x0c")); !ok || got.Answers[0].Data != "\xc0\x0c" {
		t.Errorf("P5.2: bytes of a pointer as data: %v, %t", got, ok)
	}
}

// TestManyPointers: chains of pointers end, those that are names and those that are none.
func TestManyPointers(t *testing.T) {
	b := "\x00\x07\x80\x00\x00\x01\x00\x20\x00\x00\x00\x00" + question
	last, jumps := 12, 0
	for range 15 {
		data := ""
		at := len(b) + 2 + 10
		for i := range 100 {
			data += string([]byte{0xc0 | byte(last>>8), byte(last)})
			last = at + 2*i
			jumps++
		}
		b += "\xc0\x0c" + tail(9, data)
	}
	for range 17 {
		b += string([]byte{0xc0 | byte(last>>8), byte(last)}) + tail(9, "")
	}
	got, ok := decoded(t, b)
	if !ok || len(b) > api.MaxMessage || len(got.Answers) != 32 || got.Answers[31].Name != "a.b" {
		t.Errorf("P5.2: %d pointers, %d bytes: %t", jumps, len(b), ok)
	}
	for _, piece := range []string{"\xc0\x0c", "\x01a", "\x01a\xc0\x0c", "\xc0\xc0", "\x00", "?", "\xff", "\x01", "aa"} {
		decoded(t, noAnswer+strings.Repeat(piece, 2000/len(piece)))
		decoded(t, b[:7]+"\x20"+b[8:21]+strings.Repeat(piece, 4000/len(piece)))
		decoded(t, strings.Repeat(piece, 1<<20))
	}
}

// TestMemory: what comes in is not changed and not kept, and answers share nothing.
func TestMemory(t *testing.T) {
	in := append([]byte(told), "spare"...)
	first, err := wire.Decode(in[:len(told)])
	second, err2 := wire.Decode(in[:len(told)])
	if string(in) != told+"spare" || err != nil || err2 != nil {
		t.Fatalf("P0.3: %q, %v, %v", in, err, err2)
	}
	clear(in)
	clear(first.Answers[:cap(first.Answers)])
	if !same(second, tell()) {
		t.Errorf("P0.3: Decode shares memory: %v", second)
	}

	m := tell()
	m.Answers = append(m.Answers, api.Record{Name: "spare"})[:5]
	one, _ := wire.Encode(m)
	two, _ := wire.Encode(m)
	if !same(m, tell()) || m.Answers[:6][5].Name != "spare" {
		t.Errorf("P0.3: Encode changes %v", m)
	}
	clear(one[:cap(one)])
	clear(m.Answers)
	if string(two) != told {
		t.Errorf("P0.3: Encode shares memory: %q", two)
	}
	if three, _ := wire.Encode(tell()); !bytes.Equal(three, two) {
		t.Errorf("P0.5: Encode: %q", three)
	}
}
