package query_test

import (
	"fmt"
	"math"
	"math/rand"
	"regexp"
	"strings"
	"testing"

	"concierge/api"
	"concierge/query"
)

// The longest label, name, service's name and protocol that may be.
var (
	label   = strings.Repeat("a", 63)
	longest = label + "." + label + "." + label + "." + label[:61]
	service = strings.Repeat("Long-1_.", 4)
	proto   = "abcdefgh"
)

// bad: what Check must give of a query that may not be.
func bad(code api.Code) string { return fmt.Sprintf("%v %v", api.Query{}, code) }

// good: what Check must give of a query that is asked as q.
func good(q api.Query) string { return fmt.Sprintf("%v <nil>", q) }

// check tells what Check gives in one text, and holds Key and FromKey against it.
func check(t *testing.T, q api.Query) string {
	t.Helper()
	got, err := query.Check(q)
	key := query.Key(q)
	if (key == "") != (err != nil) || len(key) > 300 {
		t.Errorf("P14.1: Key(%.300q): %.400q, Check: %v", fmt.Sprint(q), key, err)
	}
	if back, ok := query.FromKey(key); ok != (err == nil) || back != got {
		t.Errorf("P14.1: FromKey(%q): %q, %t, want %q", key, fmt.Sprint(back), ok, fmt.Sprint(got))
	}
	if err != nil {
		return fmt.Sprintf("%v %v", got, err)
	}
	if again, err := query.Check(got); err != nil || again != got {
		t.Errorf("P14.1: Check(%q), which Check gave: %q, %v", fmt.Sprint(got), fmt.Sprint(again), err)
	}
	if again := query.Key(got); again != key {
		t.Errorf("P14.1: Key(%q): %q, want %q", fmt.Sprint(got), again, key)
	}
	return good(got)
}

func expect(t *testing.T, q api.Query, want string) {
	t.Helper()
	if got := check(t, q); got != want {
		t.Errorf("P14.1: Check(%.300q): %.400q, want %.400q", fmt.Sprint(q), got, want)
	}
}

func TestHosts(t *testing.T) {
	for s, want := range map[string]string{
		"a": "a", "a.": "a.", "A": "a", "A.B.": "a.b.", "Gate.Example": "gate.example", "-_.0": "-_.0", "1.2.3.4": "1.2.3.4",
		label: label, strings.ToUpper(label) + ".": label + ".", longest: longest, strings.ToUpper(longest) + ".": longest + ".",
	} {
		expect(t, api.Query{DB: 1, Name: s}, good(api.Query{DB: 1, Name: want}))
		expect(t, api.Query{DB: 1, Name: s, Proto: "!", Port: -1}, good(api.Query{DB: 1, Name: want}))
	}
	for _, s := range []string{
		"", ".", "..", ".a", "a..", "a..b", " a", "a b", "a/b", "a\n", "\x00", "\xff", "\x01\x02\x03\x04", "::1", "\u00e4",
		label + "a", longest + "a", longest + "a.", longest + "..", strings.Repeat("a.", 1<<20),
	} {
		expect(t, api.Query{DB: 1, Name: s}, bad(api.BadName))
		expect(t, api.Query{DB: 1, Name: s, Proto: "!", Port: 70000}, bad(api.BadName))
	}
}

func TestAddrs(t *testing.T) {
	for n := range 40 {
		for _, c := range []string{"\x00", "/", "a", "A", "1", ".", "\xff"} {
			q, want := api.Query{DB: 2, Name: strings.Repeat(c, n)}, bad(api.BadQuery)
			if n == 4 || n == 16 {
				want = good(q)
			}
			expect(t, q, want)
			q.Proto, q.Port = "!", 1
			expect(t, q, want)
		}
	}
	for _, s := range []string{"10.0.0.1", "127.0.0.1", "fe80::1", "gate.example", strings.Repeat("\x00", 1<<20)} {
		expect(t, api.Query{DB: 2, Name: s}, bad(api.BadQuery))
	}
	for b := range 256 {
		s := string([]byte{'1', byte(b), '/', byte(b)})
		for _, a := range []string{s, s + s + s + s} {
			expect(t, api.Query{DB: 2, Name: a}, good(api.Query{DB: 2, Name: a}))
		}
	}
}

// protos: what may be a protocol, and as what it is asked.
var protos = map[string]string{"": "", "t": "t", "tcp": "tcp", "TCP": "tcp", "uDp": "udp", "AZaz": "azaz", "ABCDEFGH": proto, proto: proto}

// noProtos: what may be none.
var noProtos = []string{"6", "t2", "2t", " ", "t ", " t", "t/", "/", "-", "udp-lite", "t.", "t\x00", "\xff", "\u017f", "\u212a", proto + "i", strings.Repeat("x", 1<<20)}

func TestServices(t *testing.T) {
	names := []string{"a", "A", "Ht.p", "http", "0", "-", "_", ".", "..", ".a.", "a..b", "1.2.3.4", service, strings.Repeat("x", 32)}
	noNames := []string{"", " ", "a b", "a/b", "/", "a\n", "\x00", "\xff", "a!", "a:b", "\u00e4", "\u212a", service + "x", longest, strings.Repeat("x", 1<<20)}
	for _, name := range names {
		for p, want := range protos {
			expect(t, api.Query{DB: 3, Name: name, Proto: p}, good(api.Query{DB: 3, Name: name, Proto: want}))
			expect(t, api.Query{DB: 3, Name: name, Proto: p, Port: -5}, good(api.Query{DB: 3, Name: name, Proto: want}))
		}
		for _, p := range noProtos {
			expect(t, api.Query{DB: 3, Name: name, Proto: p}, bad(api.BadQuery))
		}
	}
	for _, name := range noNames {
		for p := range protos {
			expect(t, api.Query{DB: 3, Name: name, Proto: p}, bad(api.BadName))
		}
		// Of two errors that one counts which is named first.
		for _, p := range noProtos {
			expect(t, api.Query{DB: 3, Name: name, Proto: p, Port: 80}, bad(api.BadName))
		}
	}
}

func TestPorts(t *testing.T) {
	for n := -3; n < 65540; n++ {
		q := api.Query{DB: 4, Port: n}
		if n < 1 || n > 65535 {
			expect(t, q, bad(api.BadQuery))
		} else {
			expect(t, q, good(q))
		}
	}
	for _, n := range []int{65536, 65537, 1<<32 + 1, 1<<16 + 80, math.MaxInt, math.MinInt, math.MinInt + 1, -65535} {
		for p := range protos {
			expect(t, api.Query{DB: 4, Port: n, Proto: p}, bad(api.BadQuery))
		}
	}
	for _, n := range []int{1, 53, 65535} {
		for p, want := range protos {
			expect(t, api.Query{DB: 4, Port: n, Proto: p}, good(api.Query{DB: 4, Port: n, Proto: want}))
			expect(t, api.Query{DB: 4, Port: n, Proto: p, Name: "!"}, good(api.Query{DB: 4, Port: n, Proto: want}))
		}
		for _, p := range noProtos {
			expect(t, api.Query{DB: 4, Port: n, Proto: p}, bad(api.BadQuery))
		}
	}
}

func TestOtherDatabases(t *testing.T) {
	for _, db := range []int{0, -1, -4, 5, 6, 10, 11, 256, 257, 1 << 32, 1<<32 + 1, math.MaxInt, math.MinInt, math.MinInt + 1} {
		for _, q := range []api.Query{{}, {Name: "a"}, {Name: "abcd"}, {Name: "a", Proto: "tcp"}, {Port: 80}, {Name: "a b"}, {Name: "a", Proto: "tcp", Port: 80}} {
			q.DB = db
			expect(t, q, bad(api.BadQuery))
		}
	}
}

// TestBytes lays each byte within a name, a service's name and a protocol.
func TestBytes(t *testing.T) {
	for b := range 256 {
		s := "x" + string([]byte{byte(b)}) + "y"
		expect(t, api.Query{DB: 1, Name: s}, plain(api.Query{DB: 1, Name: s}))
		expect(t, api.Query{DB: 3, Name: s}, plain(api.Query{DB: 3, Name: s}))
		expect(t, api.Query{DB: 3, Name: "a", Proto: s}, plain(api.Query{DB: 3, Name: "a", Proto: s}))
		expect(t, api.Query{DB: 4, Port: 1, Proto: s}, plain(api.Query{DB: 4, Port: 1, Proto: s}))
	}
}

// The chapters' words as patterns: a second reading, apart from the program's.
var (
	isName    = regexp.MustCompile(`\A[A-Za-z0-9_-]{1,63}(\.[A-Za-z0-9_-]{1,63})*\.?\z`)
	isService = regexp.MustCompile(`\A[A-Za-z0-9_.-]{1,32}\z`)
	isProto   = regexp.MustCompile(`\A[A-Za-z]{0,8}\z`)
)

// plain: what check must tell of q.
func plain(q api.Query) string {
	protoOk, folded := isProto.MatchString(q.Proto), strings.ToLower(q.Proto)
	switch {
	case q.DB == 1 && isName.MatchString(q.Name) && len(strings.TrimSuffix(q.Name, ".")) <= 253:
		return good(api.Query{DB: 1, Name: strings.ToLower(q.Name)})
	case q.DB == 1, q.DB == 3 && !isService.MatchString(q.Name):
		return bad(api.BadName)
	case q.DB == 2 && (len(q.Name) == 4 || len(q.Name) == 16):
		return good(api.Query{DB: 2, Name: q.Name})
	case q.DB == 3 && protoOk:
		return good(api.Query{DB: 3, Name: q.Name, Proto: folded})
	case q.DB == 4 && protoOk && 0 < q.Port && q.Port < 65536:
		return good(api.Query{DB: 4, Port: q.Port, Proto: folded})
	}
	return bad(api.BadQuery)
}

// texts are fields of queries that lie close to one another, and to what may stand in a key.
var texts = []string{
	"", "a", "A", "a.", "A.", "b", "a.b", "ab", "ab.", "/", "//", "/a", "a/", "/a/b", "a/bc", "//a/", "////", "tcp", "TCP", "udp", "tcp/", "tcp/a", "/tcp",
	"0", "1", "2", "3", "4", "53", "0/a", "1/a", "/0/", "0//a", "1/0//a", "2/0//", "abcd", "ABCD", "1/0//", "\x00\x00\x00\x01", "\xff\xfe/\x00", "a b", "4/1/a/",
	"0123456789abcdef", "////////////////", "1111111111111111",
}

// pool: queries of all databases, whose fields are texts and numbers that lie close to one another.
func pool() []api.Query {
	var all []api.Query
	for db := -1; db <= 6; db++ {
		for _, name := range texts {
			for _, p := range []string{"", "a", "A", "tcp", "Tcp", "udp", "1", "/", "abcdefgh", "abcdefghi"} {
				for _, n := range []int{-1, 0, 1, 11, 53, 65535, 65536} {
					all = append(all, api.Query{DB: db, Name: name, Proto: p, Port: n})
				}
			}
		}
	}
	return all
}

// TestKeys: one key is one query, and one query one key.
func TestKeys(t *testing.T) {
	keyOf, queryOf := map[api.Query]string{}, map[string]api.Query{}
	for _, q := range pool() {
		expect(t, q, plain(q))
		asked, err := query.Check(q)
		if err != nil {
			continue
		}
		key := query.Key(q)
		if other, there := keyOf[asked]; there && other != key {
			t.Fatalf("P14.1: %q has the keys %q and %q", fmt.Sprint(asked), other, key)
		}
		if other, there := queryOf[key]; there && other != asked {
			t.Fatalf("P14.1: %q is the key of %q and %q", key, fmt.Sprint(other), fmt.Sprint(asked))
		}
		keyOf[asked], queryOf[key] = key, asked
	}
	if len(keyOf) < 150 {
		t.Errorf("only %d queries of the pool may be", len(keyOf))
	}
}

// readBack: of s FromKey gives a query whose key is s, or nothing.
func readBack(t *testing.T, s string) {
	t.Helper()
	q, ok := query.FromKey(s)
	if !ok && q != (api.Query{}) {
		t.Fatalf("P0.2: FromKey(%q): %q, false", s, fmt.Sprint(q))
	}
	if !ok {
		return
	}
	if key := query.Key(q); key != s {
		t.Fatalf("P14.1: FromKey(%q): %q, whose key is %q", s, fmt.Sprint(q), key)
	}
	if asked, err := query.Check(q); err != nil || asked != q {
		t.Fatalf("P14.1: FromKey(%q): %q, of which Check gives %q, %v", s, fmt.Sprint(q), fmt.Sprint(asked), err)
	}
}

// TestNearKeys: keys with a byte changed, left out, put in or doubled, and with other bytes at their ends.
func TestNearKeys(t *testing.T) {
	const signs = "0159aAzZ/.+-_ !\x00\xff"
	for _, q := range []api.Query{
		{DB: 1, Name: "a"}, {DB: 1, Name: "gate.example."}, {DB: 2, Name: "abcd"}, {DB: 2, Name: "/\x00/\xff"}, {DB: 2, Name: "0123456789abcdef"},
		{DB: 3, Name: "Http"}, {DB: 3, Name: "a", Proto: "tcp"}, {DB: 4, Port: 1}, {DB: 4, Port: 65535}, {DB: 4, Port: 10, Proto: "udp"}, {DB: 4, Port: 6553, Proto: proto},
		{DB: 3, Name: service, Proto: proto}, {DB: 1, Name: longest + "."},
	} {
		key := query.Key(q)
		for at := range len(key) + 1 {
			ahead, behind := key[:at], key[at:]
			readBack(t, ahead)
			readBack(t, behind)
			readBack(t, ahead+ahead+behind)
			readBack(t, ahead+behind+behind)
			for _, c := range strings.Split(signs, "") {
				readBack(t, ahead+c+behind)
				readBack(t, ahead+c+behind[min(1, len(behind)):])
			}
			readBack(t, ahead+behind[min(1, len(behind)):])
		}
		readBack(t, strings.ToUpper(key))
		readBack(t, key+strings.Repeat("x", 400))
	}
}

// TestNoKeys: texts that can be no key, and texts of any bytes.
func TestNoKeys(t *testing.T) {
	for _, s := range []string{"", "/", "//", "///", "////", "0/0//", "0/0//a", "5/0//a", "x", "\x00", "\xff", strings.Repeat("a", 301), strings.Repeat("1/", 1<<20)} {
		if q, ok := query.FromKey(s); ok || q != (api.Query{}) {
			t.Errorf("P14.1: FromKey(%.40q): %q, %t", s, fmt.Sprint(q), ok)
		}
	}
	r := rand.New(rand.NewSource(14))
	const signs = "01234567890123//////aAbz.-_+ \x00\xff"
	for range 300000 {
		s := make([]byte, r.Intn(20))
		for i := range s {
			s[i] = signs[r.Intn(len(signs))]
		}
		readBack(t, string(s))
	}
}

// TestLongestKeys: the longest queries have keys of at most 300 bytes, which hold them whole.
func TestLongestKeys(t *testing.T) {
	keys := map[string]bool{}
	for _, q := range []api.Query{
		{DB: 1, Name: longest}, {DB: 1, Name: longest + "."}, {DB: 1, Name: longest[:252] + "b"}, {DB: 1, Name: longest[:252] + "b."}, {DB: 1, Name: strings.Repeat("a.", 127)},
		{DB: 2, Name: strings.Repeat("\xff", 16)}, {DB: 3, Name: service, Proto: proto}, {DB: 3, Name: strings.ToLower(service), Proto: proto}, {DB: 4, Port: 65535, Proto: proto},
	} {
		expect(t, q, good(q))
		keys[query.Key(q)] = true
	}
	if len(keys) != 9 {
		t.Errorf("P14.1: %d keys of 9 queries", len(keys))
	}
}

// TestAgain: what is answered hangs on what is asked alone.
func TestAgain(t *testing.T) {
	q := api.Query{DB: api.DServices, Name: "Http", Proto: "TCP", Port: 80}
	key, first := query.Key(q), check(t, q)
	for _, other := range pool() {
		query.Check(other)
		query.FromKey(query.Key(other))
		if query.Key(q) != key || check(t, q) != first {
			t.Fatalf("P0.5: behind %q: %q, %q", fmt.Sprint(other), query.Key(q), check(t, q))
		}
	}
}
