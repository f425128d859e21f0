package store_test

import (
	"strings"
	"testing"

	"conclave/api"
	"conclave/store"
)

// What Save tells, written by hand: it does not ask the program.

func text(s string) string { return string([]byte{byte(len(s))}) + s }

func number(n int) string { return string([]byte{byte(n >> 16), byte(n >> 8), byte(n)}) }

func value(key string, rev int, v string) string { return text(key) + number(rev) + "\x00" + text(v) }

func gone(key string, rev int) string { return text(key) + number(rev) + "\x01" + text("") }

func session(seq int, ok string, rev int) string { return number(seq) + ok + number(rev) }

var noSession = session(0, "\x00", 0)

var noSessions = strings.Repeat(noSession, api.MaxSessions)

func saves(t *testing.T, s *store.Store, want string) {
	t.Helper()
	if x := s.Save(); x != want {
		t.Errorf("P8: Save = %q, want %q", x, want)
	}
}

// loaded: what is loaded is saved as the same bytes.
func loaded(t *testing.T, text string) *store.Store {
	t.Helper()
	s, e := store.Load(text)
	if s == nil || e != api.OK {
		t.Fatalf("P8: Load(%q): %d", text, e)
	}
	saves(t, s, text)
	return s
}

func notLoaded(t *testing.T, why, text string) {
	t.Helper()
	if s, e := store.Load(text); s != nil || e != api.ErrBytes {
		t.Errorf("P8: %s: Load(%q) = %v, %d, want ErrBytes", why, text, s, e)
	}
}

func TestSave(t *testing.T) {
	saves(t, store.New(), number(0)+number(0)+number(0)+noSessions)
	s := made(t, put("b", "x"), by(2, 5, put("a", "")), by(3, 1, remove("z")), remove("b"), put("ab", longest), by(8, api.MaxNumber, floor(1)), by(1, 300, put("b", "\x00")), by(1, 299, put("b", "y")))
	want := number(5) + number(1) + number(5) +
		value("a", 2, "") + value("ab", 4, longest) + value("b", 1, "x") + gone("b", 3) + value("b", 5, "\x00") +
		session(300, "\x01", 5) + session(5, "\x01", 2) + session(1, "\x00", 2) + strings.Repeat(noSession, 4) + session(api.MaxNumber, "\x01", 4)
	saves(t, s, want)
	saves(t, s, want)
	loaded(t, want)
}

// A store that was loaded goes on as the one that was saved.
func TestLoadedGoesOn(t *testing.T) {
	s := made(t, put("a", "1"), by(2, 5, put("b", "2")), remove("a"), by(3, 1, remove("z")), put("c", "4"), floor(2))
	u := loaded(t, s.Save())
	for _, x := range []*store.Store{s, u} {
		revs(t, x, 4, 2)
		ranges(t, x, "", "", 2, 9, found("a", "1", 1), found("b", "2", 2))
		noRange(t, x, "", "", 1, 9, api.ErrRev)
		doAll(t, x, []api.Command{by(2, 5, put("q", "")), by(2, 4, put("q", "")), by(3, 1, put("q", ""))}, yes(2), stale(4), no(3))
		doAll(t, x, []api.Command{swap("c", "4", "5"), remove("a"), floor(4), by(2, 6, put("a", "6"))}, yes(5), no(5), yes(5), yes(6))
		ranges(t, x, "", "", 6, 9, found("a", "6", 6), found("b", "2", 2), found("c", "5", 5))
	}
	saves(t, u, s.Save())
}

// Versions such as a Floor would have forgotten: they are kept up to the next one that is done.
func TestLoadOfWhatAFloorWouldForget(t *testing.T) {
	s := loaded(t, number(9)+number(6)+number(7)+gone("a", 1)+gone("a", 4)+value("b", 2, "2")+value("b", 3, "3")+value("b", 9, "9")+value("c", 5, "5")+gone("c", 6)+noSessions)
	revs(t, s, 9, 6)
	ranges(t, s, "", "", 6, 9, found("b", "3", 3))
	ranges(t, s, "", "", 9, 9, found("b", "9", 9))
	noRange(t, s, "", "", 5, 9, api.ErrRev)
	doAll(t, s, []api.Command{remove("a"), swap("c", "5", "6"), floor(6)}, no(9), no(9), no(9))
	loaded(t, s.Save())
	do(t, s, floor(7), yes(9))
	saves(t, s, number(9)+number(7)+number(2)+value("b", 3, "3")+value("b", 9, "9")+noSessions)
}

// A session may have asked for what left the revision behind, or ahead of the floor.
func TestLoadAtTheBounds(t *testing.T) {
	end := api.MaxNumber
	s := loaded(t, number(end)+number(end)+number(2)+value(longest, end, longest)+value("\xff", 1, "")+strings.Repeat(session(end, "\x01", end), 8))
	revs(t, s, end, end)
	ranges(t, s, "", "", end, 9, found(longest, longest, end), found("\xff", "", 1))
	do(t, s, by(8, end, put("a", "")), yes(end))
	do(t, s, by(8, end-1, put("a", "")), stale(end))
	loaded(t, number(end)+number(0)+number(0)+noSessions)
	loaded(t, number(3)+number(3)+number(1)+gone("a", 1)+session(1, "\x00", 0)+session(1, "\x01", 0)+session(1, "\x00", 3)+strings.Repeat(noSession, 5))
}

// parts of a text that Load takes: with another one in its place each of them may be wrong.
type parts struct{ revision, floor, many, versions, sessions string }

func good() parts {
	return parts{number(5), number(2), number(4), value("a", 1, "x") + gone("a", 3) + value("b", 2, "") + value("c", 5, "y"), session(7, "\x01", 4) + strings.Repeat(noSession, 7)}
}

func (p parts) text() string { return p.revision + p.floor + p.many + p.versions + p.sessions }

func TestLoadOfVersionsThatMayNotBe(t *testing.T) {
	loaded(t, good().text())
	for why, versions := range map[string]string{
		"no key":                        value("", 1, "x"),
		"a long key":                    value(longest+"9", 1, "x"),
		"a key of 255 bytes":            value(strings.Repeat("k", 255), 1, "x"),
		"a long value":                  value("a", 1, longest+"9"),
		"the revision 0":                value("a", 0, "x"),
		"a revision above the store's":  value("a", 6, "x"),
		"a greater revision than may":   value("a", 1<<24-1, "x"),
		"gone, with a value":            "\x01a" + number(1) + "\x01\x01x",
		"a byte that is neither":        "\x01a" + number(1) + "\x02\x01x",
		"a byte that is neither, at ''": "\x01a" + number(1) + "\xff\x00",
	} {
		p := good()
		p.many, p.versions = number(1), versions
		notLoaded(t, why, p.text())
		p.many, p.versions = number(2), versions+value("z", 5, "x")
		notLoaded(t, why+", first", p.text())
		p.many, p.versions = number(2), value("A", 5, "x")+versions
		notLoaded(t, why+", last", p.text())
	}
	for why, versions := range map[string][]string{
		"keys out of order":              {value("b", 1, "x"), value("a", 2, "x")},
		"a longer key ahead":             {value("ab", 1, "x"), value("a", 2, "x")},
		"a key once more":                {value("a", 1, "x"), value("b", 2, "x"), value("a", 3, "x")},
		"revisions out of order":         {value("a", 2, "x"), value("a", 1, "x")},
		"a version twice":                {value("a", 2, "x"), value("a", 2, "x")},
		"a revision twice, one key":      {value("a", 2, "x"), gone("a", 2)},
		"a revision twice, two keys":     {value("a", 2, "x"), value("b", 2, "x")},
		"a revision twice, far between":  {value("a", 2, "x"), value("a", 3, "y"), value("b", 1, "x"), value("c", 3, "x")},
		"a revision twice, both of gone": {gone("a", 1), gone("b", 1)},
	} {
		p := good()
		p.many, p.versions = number(len(versions)), strings.Join(versions, "")
		notLoaded(t, why, p.text())
	}
}

func TestLoadOfOtherNumbersThatMayNotBe(t *testing.T) {
	for why, change := range map[string]func(*parts){
		"the floor above the revision":     func(p *parts) { p.floor = number(6) },
		"the greatest floor":               func(p *parts) { p.floor = number(api.MaxNumber) },
		"the revision above MaxNumber":     func(p *parts) { p.revision = number(api.MaxNumber + 1) },
		"floor and revision above it":      func(p *parts) { p.revision, p.floor = number(1<<24-1), number(api.MaxNumber+1) },
		"the revision below a version":     func(p *parts) { p.revision = number(4) },
		"the revision 0":                   func(p *parts) { p.revision, p.floor = number(0), number(0) },
		"fewer versions":                   func(p *parts) { p.many = number(3) },
		"no versions":                      func(p *parts) { p.many = number(0) },
		"more versions":                    func(p *parts) { p.many = number(5) },
		"as many versions as can be told":  func(p *parts) { p.many = number(1<<24 - 1) },
		"Seq 0, but OK":                    func(p *parts) { p.sessions = session(0, "\x01", 0) + p.sessions[7:] },
		"Seq 0, but a Rev":                 func(p *parts) { p.sessions = session(0, "\x00", 1) + p.sessions[7:] },
		"Seq 0, but OK and a Rev":          func(p *parts) { p.sessions = p.sessions[7:] + session(0, "\x01", 5) },
		"a Seq above MaxNumber":            func(p *parts) { p.sessions = p.sessions[7:] + session(api.MaxNumber+1, "\x01", 5) },
		"a Rev above the revision":         func(p *parts) { p.sessions = p.sessions[7:] + session(1, "\x01", 6) },
		"a Rev above it, of what is no OK": func(p *parts) { p.sessions = session(1, "\x00", 6) + p.sessions[7:] },
		"an OK that is neither":            func(p *parts) { p.sessions = session(1, "\x02", 5) + p.sessions[7:] },
		"an OK of 255":                     func(p *parts) { p.sessions = p.sessions[7:] + session(1, "\xff", 5) },
		"seven sessions":                   func(p *parts) { p.sessions = p.sessions[7:] },
		"nine sessions":                    func(p *parts) { p.sessions += noSession },
		"no sessions":                      func(p *parts) { p.sessions = "" },
	} {
		p := good()
		change(&p)
		notLoaded(t, why, p.text())
	}
}

func TestLoadOfOtherBytes(t *testing.T) {
	whole := good().text()
	for k := range len(whole) {
		notLoaded(t, "broken off", whole[:k])
		if k > 0 {
			notLoaded(t, "begun too late", whole[k:])
		}
	}
	for _, more := range []string{"\x00", "\x01", number(0), noSession, whole} {
		notLoaded(t, "longer", whole+more)
	}
	for _, s := range []string{"", "hello", strings.Repeat("\xff", 100), strings.Repeat("\x00", 64), strings.Repeat("\x00", 66)} {
		notLoaded(t, "other bytes", s)
	}
	// With another byte it is another store, or none.
	for k := range len(whole) {
		b := []byte(whole)
		for range 255 {
			b[k]++
			s, e := store.Load(string(b))
			if (s == nil) != (e == api.ErrBytes) || e == api.OK && s.Save() != string(b) {
				t.Fatalf("P8: Load(%q) = %v, %d", b, s, e)
			}
		}
	}
}
