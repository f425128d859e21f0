package wal_test

import (
	"math"
	"slices"
	"strings"
	"testing"

	"conclave/api"
)

func TestRewriteTurnsFromFileToFile(t *testing.T) {
	d, w := begun(t)
	writes(t, w, api.OK, hard(1, 0), item(1, 1, "a"))
	old := bytesOf(t, d, 0)
	first := api.State{Generation: 500, Term: 4, Vote: 2, Base: 5, BaseTerm: 3, Data: "data", Log: []api.Entry{entry(3, "c"), entry(4, "d")}}
	rewrites(t, w, api.OK, first)
	holds(t, d, 0, old)
	one := journal(t, api.Record{Kind: api.Base, Generation: 2, Index: 5, Term: 3, Many: 3, Data: "data"}, hard(4, 2), item(6, 3, "c"), item(7, 4, "d"))
	holds(t, d, 1, one)
	first.Generation = 2
	tells(t, w, first)
	// From now on the other file is written to.
	writes(t, w, api.OK, hard(5, 1))
	holds(t, d, 0, old)
	holds(t, d, 1, one+journal(t, hard(5, 1)))
	rewrites(t, w, api.OK, api.State{Vote: -1})
	zero := journal(t, api.Record{Kind: api.Base, Generation: 3, Many: 1}, hard(0, -1))
	holds(t, d, 0, zero)
	holds(t, d, 1, one+journal(t, hard(5, 1)))
	tells(t, w, api.State{Generation: 3, Vote: -1})
	writes(t, w, api.OK, item(1, 1, "e"))
	holds(t, d, 0, zero+journal(t, item(1, 1, "e")))
	w = opened(t, d)
	tells(t, w, api.State{Generation: 3, Vote: -1, Log: []api.Entry{entry(1, "e")}})
	// A journal that was opened goes on so.
	rewrites(t, w, api.OK, api.State{})
	holds(t, d, 1, journal(t, api.Record{Kind: api.Base, Generation: 4, Many: 1}, hard(0, 0)))
	tells(t, w, api.State{Generation: 4})
	rewrites(t, w, api.OK, api.State{})
	holds(t, d, 0, journal(t, api.Record{Kind: api.Base, Generation: 5, Many: 1}, hard(0, 0)))
}

func TestRewriteBounds(t *testing.T) {
	whole := api.State{Generation: -9, Term: api.MaxNumber, Vote: api.MaxNodes - 1, Base: api.MaxNumber - 2, BaseTerm: api.MaxNumber, Data: strings.Repeat("\xff", api.MaxNumber), Log: []api.Entry{entry(api.MaxNumber, longest), {}}}
	d, w := begun(t)
	rewrites(t, w, api.OK, whole)
	whole.Generation = 2
	tells(t, w, whole)
	w = opened(t, d)
	tells(t, w, whole)
	for k, g := range []int{math.MinInt, -1, 0, 1, api.MaxNumber, api.MaxNumber + 1, math.MaxInt} {
		rewrites(t, w, api.OK, api.State{Generation: g, Vote: -1})
		tells(t, w, api.State{Generation: 3 + k, Vote: -1})
	}
}

func TestRewriteRefused(t *testing.T) {
	good := api.State{Term: 4, Vote: 2, Base: 5, BaseTerm: 3, Data: "data", Log: []api.Entry{entry(3, "c"), entry(4, "d")}}
	d, w := begun(t)
	writes(t, w, api.OK, hard(1, 0), item(1, 1, "a"))
	whole := bytesOf(t, d, 0)
	refused := func(change func(s *api.State)) {
		t.Helper()
		s := good
		s.Log = slices.Clone(good.Log)
		change(&s)
		rewrites(t, w, api.ErrArg, s)
	}
	for _, n := range []int{-1, api.MaxNumber + 1, 1 << 24, math.MinInt, math.MaxInt} {
		refused(func(s *api.State) { s.Term = n })
		refused(func(s *api.State) { s.Base = n })
		refused(func(s *api.State) { s.Base, s.Log = n, nil })
		refused(func(s *api.State) { s.BaseTerm = n })
		refused(func(s *api.State) { s.Log[0].Term = n })
		refused(func(s *api.State) { s.Log[1].Term = n })
	}
	for _, n := range []int{-2, api.MaxNodes, api.MaxNodes + 1, 255, 256, math.MinInt, math.MaxInt} {
		refused(func(s *api.State) { s.Vote = n })
	}
	for _, c := range []api.Command{{Kind: 5}, {Kind: -1}, {Key: "a"}, put(""), put(longest + "9"), {Kind: api.Put, Key: "a", Session: 1}, {Kind: api.Floor, Rev: -1}} {
		refused(func(s *api.State) { s.Log[0].Command = c })
		refused(func(s *api.State) { s.Log[1].Command = c })
	}
	// No entry has an index above MaxNumber.
	refused(func(s *api.State) { s.Base = api.MaxNumber - 1 })
	refused(func(s *api.State) { s.Base = api.MaxNumber })
	refused(func(s *api.State) { s.Data = strings.Repeat("x", api.MaxNumber+1) })
	holds(t, d, 0, whole)
	holds(t, d, 1, "")
	tells(t, w, api.State{Generation: 1, Term: 1, Log: []api.Entry{entry(1, "a")}})
	rewrites(t, w, api.OK, good)
}

// Many tells of the Hard too: so of the entries there is one less than of numbers.
func TestRewriteMostEntries(t *testing.T) {
	d, w := begun(t)
	log := make([]api.Entry, api.MaxNumber)
	rewrites(t, w, api.ErrArg, api.State{Log: log})
	holds(t, d, 1, "")
	rewrites(t, w, api.OK, api.State{Log: log[1:]})
	tells(t, w, api.State{Generation: 2, Log: log[1:]})
}

func TestRewriteKeepsNoList(t *testing.T) {
	d, w := begun(t)
	room := []api.Entry{entry(1, "x"), entry(3, "c"), entry(4, "d"), entry(9, "y")}
	ahead := slices.Clone(room)
	rewrites(t, w, api.OK, api.State{Log: room[1:3]})
	writes(t, w, api.OK, item(3, 5, "e"), item(2, 6, "f"))
	if !slices.Equal(room, ahead) {
		t.Errorf("P2: the journal writes into the list of a Rewrite: %+v", room)
	}
	clear(room)
	want := api.State{Generation: 2, Log: []api.Entry{entry(3, "c"), entry(6, "f")}}
	tells(t, w, want)
	tells(t, opened(t, d), want)
}

// A state that came out goes in again.
func TestRewriteOfItsOwnState(t *testing.T) {
	d, w := begun(t)
	writes(t, w, api.OK, hard(3, 1), item(1, 1, "a"), item(2, 3, "b"))
	s, _ := w.State()
	rewrites(t, w, api.OK, s)
	spoil(s)
	want := api.State{Generation: 2, Term: 3, Vote: 1, Log: []api.Entry{entry(1, "a"), entry(3, "b")}}
	tells(t, w, want)
	tells(t, opened(t, d), want)
}

// Whichever act fails: the next journal has the whole old state, or the whole new one.
func TestRewriteThatFails(t *testing.T) {
	old := api.State{Generation: 1, Term: 1, Log: []api.Entry{entry(1, "a"), entry(1, "b")}}
	next := api.State{Generation: 2, Term: 2, Vote: 1, Base: 1, BaseTerm: 1, Data: "d", Log: []api.Entry{entry(1, "b"), entry(2, "c")}}
	size := len(journal(t, api.Record{Kind: api.Base, Generation: 2, Index: 1, Term: 1, Many: 3, Data: "d"}, hard(2, 1), item(2, 1, "b"), item(3, 2, "c")))
	for act := 1; act <= 3; act++ {
		for keep := range size + 2 {
			d, w := begun(t)
			writes(t, w, api.OK, hard(1, 0), item(1, 1, "a"), item(2, 1, "b"))
			breaks(t, d, act, keep)
			rewrites(t, w, api.ErrDown, next)
			over(t, d, w)
			w = opened(t, d)
			want := old
			if act > 1 && keep >= size {
				want = next
			}
			tells(t, w, want)
			// And it goes on from there, over what is left in the other file.
			rewrites(t, w, api.OK, next)
			want = next
			if act > 1 && keep >= size {
				want.Generation = 3
			}
			tells(t, w, want)
			tells(t, opened(t, d), want)
		}
	}
}
