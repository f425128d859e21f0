package conclave_test

import (
	"testing"

	"conclave/api"
	"conclave/conclave"
)

// Behind the greatest term there is none: only who leads then has a Timeout yet.
func TestGreatestTerm(t *testing.T) {
	c := begun(t, 2)
	for n := range api.MaxNumber - 1 {
		if e := c.Timeout(0); e != api.OK {
			t.Fatalf("P14: the Timeout %d = %d", n, e)
		}
	}
	dropAll(t, c)
	timesOut(t, c, 0)
	views(t, c, 0, api.Candidate, api.MaxNumber, 0, 0, 0, 0)
	ahead := told(c)
	is(t, "P14: Timeout of a Candidate in the greatest term", c.Timeout(0), api.ErrFull)
	if told(c) != ahead {
		t.Errorf("P1: an error changes something")
	}
	c.Round()
	views(t, c, 1, api.Follower, api.MaxNumber, 0, 0, 0, 0)
	is(t, "P14: Timeout of a Follower in the greatest term", c.Timeout(1), api.ErrFull)
	c.Round()
	views(t, c, 0, api.Leader, api.MaxNumber, 0, 0, 1, 0)
	settle(c)
	does(t, c, 0, 2, put("a", "1"))
	settle(c)
	timesOut(t, c, 0)
	settle(c)
	hasDone(t, c, 1, put("a", "1"))
	is(t, "P14: Timeout of a Follower in the greatest term", c.Timeout(1), api.ErrFull)
	crashes(t, c, 0)
	is(t, "P1: Timeout of a node that is down", c.Timeout(0), api.ErrDown)
	restarts(t, c, 0)
	is(t, "P14: Timeout of a Follower in the greatest term", c.Timeout(0), api.ErrFull)
	views(t, c, 0, api.Follower, api.MaxNumber, 0, 0, 2, 0)
	underWay(t, c)
}

// toIndex lets one node alone commit up to there, with bases on the way.
func toIndex(t *testing.T, index int) *conclave.Conclave {
	t.Helper()
	c := begunOf(t, api.Config{Nodes: 1, Entries: api.MaxEntries, Batch: 1, Piece: 1}, "")
	timesOut(t, c, 0)
	for at := 1; at < index; {
		many := min(api.MaxEntries, index-at)
		compacts(t, c, 0)
		does(t, c, 0, at+1, make([]api.Command, many)...)
		at += many
	}
	return c
}

// Behind the greatest index there is none: who would write one is down.
func TestGreatestIndex(t *testing.T) {
	c := toIndex(t, api.MaxNumber-2)
	compacts(t, c, 0)
	refuses(t, c, 0, api.ErrDown, put("a", "1"), put("b", "1"), put("c", "1"))
	isDown(t, c, 0)
	restarts(t, c, 0)
	views(t, c, 0, api.Follower, 1, 0, api.MaxNumber-2, api.MaxNumber-2, api.MaxNumber-2)
	hasDone(t, c, 0)
	timesOut(t, c, 0)
	views(t, c, 0, api.Leader, 2, 0, api.MaxNumber-2, api.MaxNumber-1, api.MaxNumber-1)
	does(t, c, 0, api.MaxNumber, put("a", "1"))
	resultIs(t, c, 0, api.MaxNumber, api.Result{OK: true, Rev: 1})
	refuses(t, c, 0, api.ErrDown, put("b", "1"))
	restarts(t, c, 0)
	// It can't lead any more: neither its term nor its vote comes of that.
	for range 2 {
		is(t, "P12: Timeout at the greatest index", c.Timeout(0), api.ErrDown)
		isDown(t, c, 0)
		restarts(t, c, 0)
		views(t, c, 0, api.Follower, 2, 0, api.MaxNumber-2, api.MaxNumber, api.MaxNumber-2)
	}
}

// A journal has MaxNumber generations; each Compact is one, and New begins with the second one.
func TestGreatestGeneration(t *testing.T) {
	c := begunOf(t, api.Config{Nodes: 1, Entries: 2, Batch: 1, Piece: 1}, "")
	timesOut(t, c, 0)
	for n := range api.MaxNumber - 2 {
		if e := c.Compact(0); e != api.OK {
			t.Fatalf("P17: the Compact %d = %d", n, e)
		}
		if _, e := c.Do(0, api.Command{}); e != api.OK {
			t.Fatalf("P14: Do = %d", e)
		}
	}
	views(t, c, 0, api.Leader, 1, 0, api.MaxNumber-2, api.MaxNumber-1, api.MaxNumber-1)
	is(t, "P12: Compact at the greatest generation", c.Compact(0), api.ErrDown)
	isDown(t, c, 0)
	restarts(t, c, 0)
	views(t, c, 0, api.Follower, 1, 0, api.MaxNumber-2, api.MaxNumber-1, api.MaxNumber-2)
}

// A store whose bytes are too many is no base; with a Floor it may be one again.
func TestCompactOfTooMuch(t *testing.T) {
	b := savedOf(t, api.MaxNumber-15)
	c := begunOf(t, api.Config{Nodes: 1, Entries: 4, Batch: 1, Piece: 1}, b)
	timesOut(t, c, 0)
	// A version of 15 bytes; then one more byte.
	does(t, c, 0, 2, put("a", longest))
	compacts(t, c, 0)
	does(t, c, 0, 3, put("b", ""))
	ahead, _ := c.View(0)
	is(t, "P17: Compact of too much", c.Compact(0), api.ErrFull)
	if v, e := c.View(0); v != ahead || e != api.OK {
		t.Errorf("P17: Compact of too much changes something: %+v", v)
	}
	if len(backup(t, c, 0)) != api.MaxNumber+7 {
		t.Errorf("P19: the backup has %d bytes", len(backup(t, c, 0)))
	}
	// A backup that may not be given back.
	if made, e := conclave.New(api.Config{Nodes: 1, Entries: 4, Batch: 1, Piece: 1}, backup(t, c, 0)); made != nil || e != api.ErrFull {
		t.Errorf("P12: New of it = %v, %d", made, e)
	}
	does(t, c, 0, 4, api.Command{Kind: api.Delete, Key: "a"})
	rev, _ := loaded(t, backup(t, c, 0)).Revs()
	does(t, c, 0, 5, api.Command{Kind: api.Floor, Rev: rev})
	compacts(t, c, 0)
	views(t, c, 0, api.Leader, 1, 0, 5, 5, 5)
}

// A great base comes in many pieces: one by two Rounds.
func TestGreatBase(t *testing.T) {
	c := begunOf(t, api.Config{Nodes: 3, Entries: 4, Batch: 1, Piece: api.MaxPiece}, savedOf(t, api.MaxNumber-100))
	crashes(t, c, 2)
	leads(t, c, 0)
	does(t, c, 0, 2, put("a", "1"))
	settle(c)
	compacts(t, c, 0)
	want := backup(t, c, 0)
	restarts(t, c, 2)
	timesOut(t, c, 0)
	kinds(t, c, api.Append, 0, 1, api.Piece, 0, 2)
	many := (len(want) + api.MaxPiece - 1) / api.MaxPiece
	rounds(c, 2*many-2)
	if m := c.Flight(); len(m) != 1 || !m[0].End || m[0].Offset != (many-1)*api.MaxPiece {
		t.Errorf("P17: the last Piece is %+v", m)
	}
	c.Round()
	views(t, c, 2, api.Follower, 1, -1, 2, 2, 2)
	crashes(t, c, 2)
	restarts(t, c, 2)
	if backup(t, c, 2) != want {
		t.Errorf("P20: two nodes have other stores")
	}
}
