package wal_test

import (
	"math"
	"slices"
	"strings"
	"testing"

	"conclave/api"
	"conclave/wal"
)

func TestOpenANewDisk(t *testing.T) {
	d, w := begun(t)
	tells(t, w, api.State{Generation: 1, Vote: -1})
	// By hand: a length, the kind, Generation, Index, Term, Many, no Data, the sum.
	holds(t, d, 0, "\x00\x00\x14"+"\x01"+"\x00\x00\x01"+"\x00\x00\x00"+"\x00\x00\x00"+"\x00\x00\x00"+"\x00\x00\x00"+"\x00\x2d\x00\x03")
	holds(t, d, 1, "")
	d.Crash(0)
	holds(t, d, 0, journal(t, base(1)))
	tells(t, opened(t, d), api.State{Generation: 1, Vote: -1})
}

// Of all journals of a disk only the last one is not over.
func TestOpenAgain(t *testing.T) {
	d, w := begun(t)
	all := []*wal.Wal{w}
	for n := range 4 {
		writes(t, all[n], api.OK, hard(n, n))
		all = append(all, opened(t, d))
		for _, old := range all[:n+1] {
			over(t, d, old)
		}
		tells(t, all[n+1], api.State{Generation: 1, Term: n, Vote: n})
	}
}

// Of a Write that fails only the whole records that stayed are a part of the next journal.
func TestOpenBehindAWriteThatFailed(t *testing.T) {
	one, two := journal(t, item(2, 2, "b")), journal(t, item(2, 2, "b"), item(3, 2, "c"))
	for keep := range len(two) + 2 {
		d, w := begun(t)
		writes(t, w, api.OK, hard(2, 1), item(1, 1, "a"))
		whole := bytesOf(t, d, 0)
		breaks(t, d, 1+keep%2, keep)
		writes(t, w, api.ErrDown, item(2, 2, "b"), item(3, 2, "c"))
		w = opened(t, d)
		want := api.State{Generation: 1, Term: 2, Vote: 1, Log: []api.Entry{entry(1, "a")}}
		if keep >= len(one) {
			want.Log = append(want.Log, entry(2, "b"))
			whole += one
		}
		if keep >= len(two) {
			want.Log = append(want.Log, entry(2, "c"))
			whole += two[len(one):]
		}
		tells(t, w, want)
		// What Scan did not take is gone, so that more can be put behind.
		holds(t, d, 0, whole)
		writes(t, w, api.OK, hard(3, -1))
		want.Term, want.Vote = 3, -1
		tells(t, opened(t, d), want)
	}
}

func TestWriteNothing(t *testing.T) {
	d, w := begun(t)
	writes(t, w, api.OK)
	writes(t, w, api.OK, []api.Record{}...)
	holds(t, d, 0, journal(t, base(1)))
	tells(t, w, api.State{Generation: 1, Vote: -1})
}

func TestWriteHard(t *testing.T) {
	d, w := begun(t)
	for _, r := range []api.Record{hard(0, -1), hard(5, 4), hard(5, -1), hard(1, 0), hard(api.MaxNumber, 4), hard(0, 0)} {
		writes(t, w, api.OK, hard(77, 3), r)
		want := api.State{Generation: 1, Term: r.Term, Vote: r.Vote}
		tells(t, w, want)
		w = opened(t, d)
		tells(t, w, want)
	}
}

func TestWriteItems(t *testing.T) {
	a, b, c, x := entry(1, "a"), entry(2, "b"), entry(2, "c"), entry(9, "x")
	three := []api.Record{item(1, 1, "a"), item(2, 2, "b"), item(3, 2, "c")}
	for _, k := range []struct {
		name string
		more []api.Record
		want []api.Entry
	}{
		{"none", nil, []api.Entry{a, b, c}},
		{"behind the last one", []api.Record{item(4, 9, "x")}, []api.Entry{a, b, c, x}},
		{"two behind the last one", []api.Record{item(5, 9, "x")}, []api.Entry{a, b, c}},
		{"far behind", []api.Record{item(api.MaxNumber, 9, "x")}, []api.Entry{a, b, c}},
		{"at the last one", []api.Record{item(3, 9, "x")}, []api.Entry{a, b, x}},
		{"at the middle", []api.Record{item(2, 9, "x")}, []api.Entry{a, x}},
		{"at the first one", []api.Record{item(1, 9, "x")}, []api.Entry{x}},
		{"the same again", []api.Record{item(2, 2, "b")}, []api.Entry{a, b}},
		{"of a lower term", []api.Record{item(2, 0, "b")}, []api.Entry{a, entry(0, "b")}},
		{"at the middle, and behind that", []api.Record{item(2, 9, "x"), item(3, 9, "x"), item(5, 2, "c")}, []api.Entry{a, x, x}},
		{"not joined any more", []api.Record{item(1, 9, "x"), item(3, 2, "c"), item(4, 2, "c")}, []api.Entry{x}},
		{"a Hard between", []api.Record{item(3, 9, "x"), hard(0, -1), item(4, 2, "c")}, []api.Entry{a, b, x, c}},
	} {
		want := api.State{Generation: 1, Vote: -1, Log: k.want}
		d, w := begun(t)
		writes(t, w, api.OK, three...)
		writes(t, w, api.OK, k.more...)
		// Whatever comes of them: all stand in the file.
		whole := journal(t, base(1)) + journal(t, three...) + journal(t, k.more...)
		holds(t, d, 0, whole)
		tells(t, w, want)
		tells(t, opened(t, d), want)
		holds(t, d, 0, whole)
		d, w = begun(t)
		writes(t, w, api.OK, slices.Concat(three, k.more)...)
		holds(t, d, 0, whole)
		tells(t, w, want)
		if t.Failed() {
			t.Fatalf("an Item %s", k.name)
		}
	}
}

func TestWriteItemsAboveABase(t *testing.T) {
	start := api.State{Term: 6, Vote: 2, Base: 10, BaseTerm: 5, Data: "data"}
	for _, k := range []struct {
		records []api.Record
		want    []api.Entry
	}{
		{[]api.Record{item(11, 6, "a")}, []api.Entry{entry(6, "a")}},
		{[]api.Record{item(10, 6, "a")}, nil},
		{[]api.Record{item(1, 6, "a")}, nil},
		{[]api.Record{item(12, 6, "a")}, nil},
		{[]api.Record{item(11, 6, "a"), item(10, 6, "b"), item(12, 6, "c"), item(1, 6, "d")}, []api.Entry{entry(6, "a"), entry(6, "c")}},
		{[]api.Record{item(11, 6, "a"), item(12, 6, "b"), item(11, 7, "c")}, []api.Entry{entry(7, "c")}},
	} {
		d, w := begun(t)
		rewrites(t, w, api.OK, start)
		writes(t, w, api.OK, k.records...)
		want := start
		want.Generation, want.Log = 2, k.want
		tells(t, w, want)
		tells(t, opened(t, d), want)
	}
	// At the greatest index there is none behind it.
	_, w := begun(t)
	rewrites(t, w, api.OK, api.State{Base: api.MaxNumber})
	writes(t, w, api.OK, item(api.MaxNumber, 1, "a"))
	writes(t, w, api.ErrArg, item(api.MaxNumber+1, 1, "a"))
	tells(t, w, api.State{Generation: 2, Base: api.MaxNumber})
}

// Commands of all kinds come back whole.
func TestWriteCommands(t *testing.T) {
	commands := []api.Command{
		{}, put("a"), {Kind: api.Put, Key: longest, Value: longest, Session: 8, Seq: api.MaxNumber}, {Kind: api.Delete, Key: "\x00", Session: 1, Seq: 1},
		{Kind: api.Swap, Key: "k", Value: "v", Old: "o"}, {Kind: api.Swap, Key: "k", Old: "\xff"}, {Kind: api.Floor}, {Kind: api.Floor, Rev: api.MaxNumber, Session: 5, Seq: 66051},
	}
	d, w := begun(t)
	var log []api.Entry
	for k, c := range commands {
		writes(t, w, api.OK, api.Record{Kind: api.Item, Index: k + 1, Term: k * 1000, Command: c})
		log = append(log, api.Entry{Term: k * 1000, Command: c})
		tells(t, w, api.State{Generation: 1, Vote: -1, Log: log})
	}
	w = opened(t, d)
	tells(t, w, api.State{Generation: 1, Vote: -1, Log: log})
	rewrites(t, w, api.OK, api.State{Log: log})
	tells(t, w, api.State{Generation: 2, Log: log})
	tells(t, opened(t, d), api.State{Generation: 2, Log: log})
}

func TestWriteRefused(t *testing.T) {
	d, w := begun(t)
	writes(t, w, api.OK, hard(1, 0), item(1, 1, "a"))
	whole := bytesOf(t, d, 0)
	command := func(c api.Command) api.Record { return api.Record{Kind: api.Item, Index: 2, Term: 1, Command: c} }
	for _, r := range []api.Record{
		{}, {Kind: 4}, {Kind: -1}, {Kind: math.MinInt}, {Kind: math.MaxInt},
		base(1), base(2), base(0), {Kind: api.Base, Generation: 2, Index: 1, Term: 1, Many: 1, Data: "x"},
		hard(-1, 0), hard(api.MaxNumber+1, 0), hard(2, -2), hard(2, api.MaxNodes), hard(math.MaxInt, math.MinInt), {Kind: api.Hard, Index: 1}, {Kind: api.Hard, Data: "x"},
		item(0, 1, "a"), item(-1, 1, "a"), item(api.MaxNumber+1, 1, "a"), item(2, -1, "a"), item(2, api.MaxNumber+1, "a"), item(2, 1, ""), item(2, 1, longest+"9"), {Kind: api.Item, Index: 2, Vote: -1}, {Kind: api.Item, Index: 2, Many: 1},
		command(api.Command{Kind: 5}), command(api.Command{Key: "a"}), command(api.Command{Kind: api.Put, Key: "a", Seq: 1}), command(api.Command{Kind: api.Floor, Rev: -1}),
	} {
		writes(t, w, api.ErrArg, r)
		writes(t, w, api.ErrArg, r, hard(2, 2), item(2, 2, "b"))
		writes(t, w, api.ErrArg, hard(2, 2), r, item(2, 2, "b"))
		writes(t, w, api.ErrArg, hard(2, 2), item(2, 2, "b"), r)
	}
	holds(t, d, 0, whole)
	holds(t, d, 1, "")
	tells(t, w, api.State{Generation: 1, Term: 1, Log: []api.Entry{entry(1, "a")}})
	writes(t, w, api.OK, item(2, 2, "b"))
}

// The list is a part of a longer one, and is written into behind the call.
func TestWriteKeepsNoList(t *testing.T) {
	d, w := begun(t)
	room := []api.Record{hard(9, 4), hard(1, 0), item(1, 1, "a"), item(2, 1, "b"), item(3, 3, "c"), {}}
	ahead := slices.Clone(room)
	writes(t, w, api.OK, room[1:4]...)
	if !slices.Equal(room, ahead) {
		t.Errorf("P2: Write writes into its list: %+v", room)
	}
	clear(room)
	want := api.State{Generation: 1, Term: 1, Log: []api.Entry{entry(1, "a"), entry(1, "b")}}
	tells(t, w, want)
	tells(t, opened(t, d), want)
}

func spoil(s api.State) {
	room := s.Log[:cap(s.Log)]
	for k := range room {
		room[k] = entry(99, "spoilt")
	}
}

func TestStatesAreNew(t *testing.T) {
	d, w := begun(t)
	writes(t, w, api.OK, item(1, 1, "a"), item(2, 1, "b"), item(3, 1, "c"))
	first, _ := w.State()
	second, _ := w.State()
	spoil(first)
	want := api.State{Generation: 1, Vote: -1, Log: []api.Entry{entry(1, "a"), entry(1, "b"), entry(1, "c")}}
	if !same(second, want) {
		t.Errorf("P2: two states share room: %+v", second)
	}
	tells(t, w, want)
	// Nor does what is written later show in a state, nor the other way round.
	writes(t, w, api.OK, item(2, 2, "x"), item(3, 2, "y"), item(4, 2, "z"))
	if !same(second, want) {
		t.Errorf("P2: a state changes by a Write: %+v", second)
	}
	spoil(second)
	now := api.State{Generation: 1, Vote: -1, Log: []api.Entry{entry(1, "a"), entry(2, "x"), entry(2, "y"), entry(2, "z")}}
	tells(t, w, now)
	third, _ := w.State()
	d.Crash(0)
	opened(t, d)
	if !same(third, now) {
		t.Errorf("P2: a state changes by a Crash: %+v", third)
	}
}

func TestWriteManyRecords(t *testing.T) {
	d, w := begun(t)
	var records []api.Record
	var log []api.Entry
	for k := range 20000 {
		records = append(records, item(k+1, k, "a"))
		log = append(log, entry(k, "a"))
	}
	writes(t, w, api.OK, records...)
	want := api.State{Generation: 1, Vote: -1, Log: log}
	tells(t, w, want)
	for k := range 3000 {
		writes(t, w, api.OK, item(20001+k, k, "b"))
		want.Log = append(want.Log, entry(k, "b"))
	}
	tells(t, w, want)
	tells(t, opened(t, d), want)
	if n := strings.Count(bytesOf(t, d, 0), "\x01b"); n < 3000 {
		t.Errorf("P10: %d of 3000 records are in the file", n)
	}
}
