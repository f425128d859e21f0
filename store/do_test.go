package store_test

import (
	"math"
	"slices"
	"strings"
	"testing"

	"conclave/api"
	"conclave/store"
)

const longest = "12345678"

func put(key, value string) api.Command { return api.Command{Kind: api.Put, Key: key, Value: value} }

func remove(key string) api.Command { return api.Command{Kind: api.Delete, Key: key} }

func swap(key, old, value string) api.Command {
	return api.Command{Kind: api.Swap, Key: key, Value: value, Old: old}
}

func floor(rev int) api.Command { return api.Command{Kind: api.Floor, Rev: rev} }

func by(session, seq int, c api.Command) api.Command {
	c.Session, c.Seq = session, seq
	return c
}

func yes(rev int) api.Result { return api.Result{OK: true, Rev: rev} }

func no(rev int) api.Result { return api.Result{Rev: rev} }

func stale(rev int) api.Result { return api.Result{Rev: rev, Stale: true} }

func do(t *testing.T, s *store.Store, c api.Command, want api.Result) {
	t.Helper()
	if l, e := s.Do(c); e != api.OK || len(l) != 1 || l[0] != want {
		t.Errorf("P6: Do(%+v) = %+v, %d, want %+v", c, l, e, want)
	}
}

func doAll(t *testing.T, s *store.Store, commands []api.Command, want ...api.Result) {
	t.Helper()
	if l, e := s.Do(commands...); e != api.OK || !slices.Equal(l, want) {
		t.Errorf("P6: Do(%+v) = %+v, %d, want %+v", commands, l, e, want)
	}
}

func revs(t *testing.T, s *store.Store, revision, floor int) {
	t.Helper()
	if r, f := s.Revs(); r != revision || f != floor {
		t.Errorf("P7: Revs = %d, %d, want %d, %d", r, f, revision, floor)
	}
}

// made is a store of which the commands were asked, each by itself.
func made(t *testing.T, commands ...api.Command) *store.Store {
	t.Helper()
	s := store.New()
	for _, c := range commands {
		if _, e := s.Do(c); e != api.OK {
			t.Fatalf("P6: Do(%+v): %d", c, e)
		}
	}
	return s
}

// atTheEnd is an empty store whose revision is MaxNumber, less so many.
func atTheEnd(t *testing.T, less int) *store.Store {
	t.Helper()
	return loaded(t, number(api.MaxNumber-less)+number(0)+number(0)+noSessions)
}

func TestExamples(t *testing.T) {
	s := store.New()
	doAll(t, s, []api.Command{put("a", "1"), put("b", "2"), swap("a", "1", "3"), remove("b")}, yes(1), yes(2), yes(3), yes(4))
	ranges(t, s, "", "", 2, 9, found("a", "1", 1), found("b", "2", 2))
	ranges(t, s, "", "", 4, 9, found("a", "3", 3))
	do(t, s, floor(3), yes(4))
	noRange(t, s, "", "", 2, 9, api.ErrRev)
	saves(t, s, number(4)+number(3)+number(3)+value("a", 3, "3")+value("b", 2, "2")+gone("b", 4)+noSessions)

	s = store.New()
	doAll(t, s, []api.Command{by(5, 1, put("a", "1")), by(5, 1, put("a", "1"))}, yes(1), yes(1))
	refused(t, s, by(5, 0, put("a", "1")))
}

func TestDoNothing(t *testing.T) {
	s := store.New()
	revs(t, s, 0, 0)
	doAll(t, s, nil)
	doAll(t, s, []api.Command{{}, {}}, yes(0), yes(0))
	doAll(t, s, []api.Command{put("a", "1"), {}, put("a", "2"), {}}, yes(1), yes(1), yes(2), yes(2))
	revs(t, s, 2, 0)
}

func TestPut(t *testing.T) {
	s := store.New()
	doAll(t, s, []api.Command{put("a", ""), put("a", ""), put(longest, longest), put("\x00", "\xff")}, yes(1), yes(2), yes(3), yes(4))
	ranges(t, s, "", "", 4, 9, found("\x00", "\xff", 4), found(longest, longest, 3), found("a", "", 2))
	ranges(t, s, "", "", 1, 9, found("a", "", 1))
	revs(t, s, 4, 0)
}

func TestSwapAndDelete(t *testing.T) {
	for _, c := range []struct {
		name    string
		ahead   []api.Command
		command api.Command
		done    bool
	}{
		{"Swap of a key that never was", nil, swap("a", "1", "2"), false},
		{"Swap from \"\" of a key that never was", nil, swap("a", "", "2"), false},
		{"Swap beside another key", []api.Command{put("b", "1")}, swap("a", "1", "2"), false},
		{"Swap of a longer key", []api.Command{put("a", "1")}, swap("ab", "1", "2"), false},
		{"Swap of a key that is gone", []api.Command{put("a", "1"), remove("a")}, swap("a", "1", "2"), false},
		{"Swap from \"\" of a key that is gone", []api.Command{put("a", "1"), remove("a")}, swap("a", "", "2"), false},
		{"Swap from another value", []api.Command{put("a", "1")}, swap("a", "2", "1"), false},
		{"Swap from an older value", []api.Command{put("a", "1"), put("a", "2")}, swap("a", "1", "3"), false},
		{"Swap from \"\" of another value", []api.Command{put("a", "1")}, swap("a", "", "3"), false},
		{"Swap from a longer value", []api.Command{put("a", "1")}, swap("a", "11", "3"), false},
		{"Swap of a key that was forgotten", []api.Command{put("a", "1"), remove("a"), floor(2)}, swap("a", "1", "2"), false},
		{"Swap", []api.Command{put("a", "1")}, swap("a", "1", "2"), true},
		{"Swap from \"\"", []api.Command{put("a", "")}, swap("a", "", "2"), true},
		{"Swap to \"\"", []api.Command{put("a", "1")}, swap("a", "1", ""), true},
		{"Swap to the same", []api.Command{put("a", "1")}, swap("a", "1", "1"), true},
		{"Swap of what came again", []api.Command{put("a", "1"), remove("a"), put("a", "1")}, swap("a", "1", "2"), true},
		{"Swap of what a Floor kept", []api.Command{put("a", "1"), put("b", "1"), floor(2)}, swap("a", "1", "2"), true},
		{"Delete of a key that never was", nil, remove("a"), false},
		{"Delete beside another key", []api.Command{put("ab", "1")}, remove("a"), false},
		{"Delete of a key that is gone", []api.Command{put("a", "1"), remove("a")}, remove("a"), false},
		{"Delete of a key that was forgotten", []api.Command{put("a", "1"), remove("a"), floor(2)}, remove("a"), false},
		{"Delete", []api.Command{put("a", "1")}, remove("a"), true},
		{"Delete of \"\"", []api.Command{put("a", "")}, remove("a"), true},
		{"Delete of what came again", []api.Command{put("a", "1"), remove("a"), put("a", "1")}, remove("a"), true},
	} {
		s := made(t, c.ahead...)
		rev, low := s.Revs()
		ahead := s.Save()
		want := no(rev)
		if c.done {
			want = yes(rev + 1)
		}
		if l, e := s.Do(c.command); e != api.OK || !slices.Equal(l, []api.Result{want}) {
			t.Errorf("P6: %s: %+v, %d, want %+v", c.name, l, e, want)
		}
		revs(t, s, want.Rev, low)
		l, _ := s.Range("a", "a\x00", want.Rev, 1)
		switch {
		case !c.done && s.Save() != ahead:
			t.Errorf("P6: %s is not done, but the store is another one", c.name)
		case c.done && c.command.Kind == api.Swap && !slices.Equal(l, []api.Found{found("a", c.command.Value, want.Rev)}):
			t.Errorf("P6: %s: then there is %+v", c.name, l)
		case c.done && c.command.Kind == api.Delete && len(l) != 0:
			t.Errorf("P6: %s: then there is %+v", c.name, l)
		}
	}
}

func TestSessions(t *testing.T) {
	s := store.New()
	do(t, s, by(5, 4, put("a", "1")), yes(1))
	do(t, s, put("b", "2"), yes(2))
	// The same Seq, whatever the command is.
	for _, c := range []api.Command{put("a", "1"), put("a", "2"), remove("a"), swap("z", "", ""), floor(1), floor(9)} {
		do(t, s, by(5, 4, c), yes(1))
		do(t, s, by(5, 3, c), stale(2))
		do(t, s, by(5, 1, c), stale(2))
	}
	revs(t, s, 2, 0)
	// Another session has Seqs of its own.
	do(t, s, by(6, 1, put("a", "3")), yes(3))
	do(t, s, by(8, 4, put("a", "4")), yes(4))
	do(t, s, by(1, 4, remove("a")), yes(5))
	do(t, s, by(5, 4, put("a", "1")), yes(1))
	do(t, s, by(6, 1, put("a", "1")), yes(3))
	do(t, s, by(8, 4, put("a", "1")), yes(4))
	do(t, s, by(1, 4, put("a", "1")), yes(5))
	// Seqs may be left out, up to the last one.
	do(t, s, by(6, api.MaxNumber, put("c", "6")), yes(6))
	do(t, s, by(6, api.MaxNumber, put("c", "7")), yes(6))
	do(t, s, by(6, api.MaxNumber-1, put("c", "7")), stale(6))
	do(t, s, by(5, 5, put("c", "7")), yes(7))
	ranges(t, s, "", "", 7, 9, found("b", "2", 2), found("c", "7", 7))
}

func TestSessionsOfWhatIsNotDone(t *testing.T) {
	s := made(t, put("a", "1"))
	do(t, s, by(2, 1, remove("z")), no(1))
	do(t, s, by(3, 1, swap("a", "2", "3")), no(1))
	do(t, s, by(4, 1, floor(2)), no(1))
	do(t, s, put("z", "2"), yes(2))
	do(t, s, put("a", "2"), yes(3))
	do(t, s, by(2, 1, remove("z")), no(1))
	do(t, s, by(3, 1, swap("a", "2", "3")), no(1))
	do(t, s, by(4, 1, floor(2)), no(1))
	// Stale is nothing that a session keeps.
	do(t, s, by(2, 9, remove("z")), yes(4))
	do(t, s, by(2, 8, remove("z")), stale(4))
	do(t, s, by(2, 9, remove("z")), yes(4))
	revs(t, s, 4, 0)
}

func TestSessionsInOneCall(t *testing.T) {
	s := store.New()
	doAll(t, s, []api.Command{by(7, 2, put("a", "1")), put("b", "1"), by(7, 2, put("a", "2")), by(7, 1, put("a", "3")), by(7, 3, remove("a")), by(7, 2, put("a", "2"))},
		yes(1), yes(2), yes(1), stale(2), yes(3), stale(3))
	doAll(t, s, []api.Command{by(1, 1, floor(2)), by(1, 1, floor(3)), by(1, 2, floor(2)), by(1, 3, floor(3))}, yes(3), yes(3), no(3), yes(3))
	revs(t, s, 3, 3)
}

func TestFloorBounds(t *testing.T) {
	s := store.New()
	do(t, s, floor(0), no(0))
	do(t, s, floor(1), no(0))
	s = made(t, put("a", "1"), put("a", "2"), put("a", "3"), put("a", "4"), put("a", "5"))
	ahead := s.Save()
	for _, n := range []int{0, 6, 7, api.MaxNumber} {
		do(t, s, floor(n), no(5))
	}
	if s.Save() != ahead {
		t.Errorf("P6: a Floor that is not done changes the store")
	}
	do(t, s, floor(1), yes(5))
	revs(t, s, 5, 1)
	do(t, s, floor(3), yes(5))
	for _, n := range []int{0, 1, 2, 3, 6} {
		do(t, s, floor(n), no(5))
	}
	revs(t, s, 5, 3)
	do(t, s, floor(5), yes(5))
	do(t, s, floor(5), no(5))
	revs(t, s, 5, 5)
	do(t, s, put("a", "6"), yes(6))
	do(t, s, floor(6), yes(6))
	revs(t, s, 6, 6)
}

// What is kept of each key stands in Save.
func TestFloorForgets(t *testing.T) {
	commands := []api.Command{put("a", "1"), put("b", "2"), put("a", "3"), remove("b"), put("c", "5"), remove("a"), put("b", "7"), put("a", "8"), remove("c")}
	all := []string{value("a", 1, "1"), value("a", 3, "3"), gone("a", 6), value("a", 8, "8"), value("b", 2, "2"), gone("b", 4), value("b", 7, "7"), value("c", 5, "5"), gone("c", 9)}
	for _, c := range []struct{ floor, a, b, c int }{{1, 0, 0, 0}, {2, 0, 0, 0}, {3, 1, 0, 0}, {4, 1, 2, 0}, {5, 1, 2, 0}, {6, 3, 2, 0}, {7, 3, 2, 0}, {8, 3, 2, 0}, {9, 3, 2, 2}} {
		kept := slices.Concat(all[c.a:4], all[4+c.b:7], all[7+c.c:])
		want := number(9) + number(c.floor) + number(len(kept)) + strings.Join(kept, "") + noSessions
		s := made(t, commands...)
		do(t, s, floor(c.floor), yes(9))
		saves(t, s, want)
		// Step by step it comes to the same.
		s = made(t, commands...)
		for n := range c.floor {
			do(t, s, floor(n+1), yes(9))
		}
		saves(t, s, want)
	}
}

// A key that is gone, and whose versions are all forgotten, comes back as a new one.
func TestFloorForgetsAKey(t *testing.T) {
	s := made(t, put("a", "1"), put("b", "2"), remove("a"), floor(3))
	saves(t, s, number(3)+number(3)+number(1)+value("b", 2, "2")+noSessions)
	ranges(t, s, "", "", 3, 9, found("b", "2", 2))
	do(t, s, put("a", "4"), yes(4))
	saves(t, s, number(4)+number(3)+number(2)+value("a", 4, "4")+value("b", 2, "2")+noSessions)
	// The floor tells nothing of revisions behind it: that it is gone stays, if it comes behind.
	s = made(t, put("a", "1"), remove("a"), floor(1))
	saves(t, s, number(2)+number(1)+number(2)+value("a", 1, "1")+gone("a", 2)+noSessions)
}

func TestTheGreatestRevision(t *testing.T) {
	s := atTheEnd(t, 2)
	end := api.MaxNumber
	do(t, s, put("a", "1"), yes(end-1))
	doAll(t, s, []api.Command{put("b", "2"), put("a", "3"), put("c", "3")}, yes(end), no(end), no(end))
	ahead := s.Save()
	doAll(t, s, []api.Command{swap("a", "1", "2"), swap("a", "2", "1"), remove("a"), remove("z"), {}}, no(end), no(end), no(end), no(end), yes(end))
	if s.Save() != ahead {
		t.Errorf("P6: at the greatest revision the store is changed")
	}
	doAll(t, s, []api.Command{by(3, 1, put("a", "3")), by(3, 1, put("a", "3")), by(3, 2, floor(end)), by(3, 1, put("a", "3"))}, no(end), no(end), yes(end), stale(end))
	revs(t, s, end, end)
	do(t, s, put("d", ""), no(end))
	ranges(t, s, "", "", end, 9, found("a", "1", end-1), found("b", "2", end))
}

// refused: commands among which one may not be.
func refused(t *testing.T, s *store.Store, commands ...api.Command) {
	t.Helper()
	ahead := s.Save()
	if l, e := s.Do(commands...); l != nil || e != api.ErrText {
		t.Errorf("P6: Do(%+v) = %+v, %d, want ErrText", commands, l, e)
	}
	if s.Save() != ahead {
		t.Errorf("P1: Do(%+v) is an error, but changes the store", commands)
	}
}

func TestCommandsThatMayNotBe(t *testing.T) {
	long := longest + "9"
	s := made(t, put("a", "1"), by(1, 1, put("b", "2")))
	for _, c := range []api.Command{
		{Kind: -1}, {Kind: 5}, {Kind: math.MinInt}, {Kind: math.MaxInt, Key: "a"}, {Key: "a"}, {Value: "a"}, {Old: "a"}, {Rev: 1}, {Session: 1, Seq: 1}, {Session: 1}, {Seq: 1},
		put("", ""), put(long, ""), put("a", long), {Kind: api.Put, Key: "a", Old: "1"}, {Kind: api.Put, Key: "a", Rev: 1},
		remove(""), remove(long), {Kind: api.Delete, Key: "a", Value: "1"}, {Kind: api.Delete, Key: "a", Old: "1"}, {Kind: api.Delete, Key: "a", Rev: 1},
		swap("", "", ""), swap(long, "", ""), swap("a", long, ""), swap("a", "1", long), {Kind: api.Swap, Key: "a", Old: "1", Rev: -1},
		floor(-1), floor(api.MaxNumber + 1), floor(math.MinInt), floor(math.MaxInt), {Kind: api.Floor, Rev: 1, Key: "a"}, {Kind: api.Floor, Rev: 1, Value: "a"}, {Kind: api.Floor, Rev: 1, Old: "a"},
		by(1, 0, put("a", "1")), by(0, 1, put("a", "1")), by(-1, 1, put("a", "1")), by(9, 1, put("a", "1")), by(math.MaxInt, 1, put("a", "1")), by(1, -1, put("a", "1")), by(1, api.MaxNumber+1, put("a", "1")), by(math.MinInt, math.MinInt, remove("a")),
	} {
		refused(t, s, c)
		refused(t, s, c, put("a", "2"), floor(1))
		refused(t, s, put("a", "2"), c, remove("b"))
		refused(t, s, by(1, 2, put("c", "2")), floor(2), remove("b"), c)
		refused(t, s, c, c)
	}
	do(t, s, by(1, 2, put("c", "3")), yes(3))
}

// The list is a part of a longer one, and is written into behind the call.
func TestWhatIsHandedInIsNotKept(t *testing.T) {
	s := store.New()
	room := []api.Command{put("x", "x"), put("a", "1"), by(4, 1, put("b", "2")), put("y", "y"), put("z", "z")}
	ahead := slices.Clone(room)
	doAll(t, s, room[1:3], yes(1), yes(2))
	if !slices.Equal(room, ahead) {
		t.Errorf("P2: Do writes into its list: %+v", room)
	}
	saved := s.Save()
	for k := range room {
		room[k] = by(4, 9, put("q", "q"))
	}
	saves(t, s, saved)
	do(t, s, by(4, 2, swap("b", "2", "3")), yes(3))
}

func TestResultsAreNew(t *testing.T) {
	s := store.New()
	commands := []api.Command{put("a", "1"), by(4, 1, put("b", "2")), by(4, 1, put("b", "2"))}
	first, _ := s.Do(commands...)
	second, _ := s.Do(commands...)
	want := slices.Clone(second)
	saved := s.Save()
	room := first[:cap(first)]
	for k := range room {
		room[k] = api.Result{OK: true, Rev: 77, Stale: true}
	}
	if !slices.Equal(second, want) {
		t.Errorf("P2: two answers share room: %+v, want %+v", second, want)
	}
	saves(t, s, saved)
	do(t, s, by(4, 1, put("b", "2")), yes(2))
}

func TestStoresKnowNothingOfOneAnother(t *testing.T) {
	s := made(t, put("a", "1"), by(4, 1, put("b", "2")))
	saved := s.Save()
	empty := store.New()
	revs(t, empty, 0, 0)
	other := loaded(t, saved)
	for _, u := range []*store.Store{empty, other} {
		if _, e := u.Do(by(4, 2, put("b", "9")), put("a", "8"), by(1, 1, remove("a")), floor(2)); e != api.OK {
			t.Errorf("P6: Do of another store: %d", e)
		}
	}
	saves(t, s, saved)
	do(t, s, by(4, 2, swap("b", "2", "3")), yes(3))
	do(t, s, remove("a"), yes(4))
}
