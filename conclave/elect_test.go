package conclave_test

import (
	"testing"

	"conclave/api"
)

func TestExamples(t *testing.T) {
	c := begun(t, 3)
	timesOut(t, c, 0)
	underWay(t, c, api.Message{Kind: api.Vote, To: 1, Term: 1}, api.Message{Kind: api.Vote, To: 2, Term: 1})
	views(t, c, 0, api.Candidate, 1, 0, 0, 0, 0)
	c.Round()
	underWay(t, c, api.Message{Kind: api.Voted, From: 1, Term: 1, OK: true}, api.Message{Kind: api.Voted, From: 2, Term: 1, OK: true})
	c.Round()
	views(t, c, 0, api.Leader, 1, 0, 0, 1, 0)
	first := []api.Entry{{Term: 1}}
	underWay(t, c, api.Message{Kind: api.Append, To: 1, Term: 1, Entries: first}, api.Message{Kind: api.Append, To: 2, Term: 1, Entries: first})
	logs(t, c, 0, first...)
	c.Round()
	underWay(t, c, api.Message{Kind: api.Appended, From: 1, Term: 1, OK: true, Match: 1}, api.Message{Kind: api.Appended, From: 2, Term: 1, OK: true, Match: 1})
	c.Round()
	underWay(t, c)
	views(t, c, 0, api.Leader, 1, 0, 0, 1, 1)
	views(t, c, 1, api.Follower, 1, 0, 0, 1, 0)

	does(t, c, 0, 2, put("a", "1"))
	a := api.Message{Kind: api.Append, To: 1, Term: 1, Index: 1, Last: 1, Commit: 1, Entries: []api.Entry{entry(1, "a", "1")}}
	b := a
	b.To = 2
	underWay(t, c, a, b)
	rounds(c, 2)
	views(t, c, 0, api.Leader, 1, 0, 0, 2, 2)
	views(t, c, 1, api.Follower, 1, 0, 0, 2, 1)
	timesOut(t, c, 0)
	underWay(t, c, api.Message{Kind: api.Append, To: 1, Term: 1, Index: 2, Last: 1, Commit: 2}, api.Message{Kind: api.Append, To: 2, Term: 1, Index: 2, Last: 1, Commit: 2})
	c.Round()
	for k := range 3 {
		hasDone(t, c, k, put("a", "1"))
		resultIs(t, c, k, 2, api.Result{OK: true, Rev: 1})
	}
	views(t, c, 2, api.Follower, 1, 0, 0, 2, 2)
}

func TestOneNodeAlone(t *testing.T) {
	c := begun(t, 1)
	timesOut(t, c, 0)
	views(t, c, 0, api.Leader, 1, 0, 0, 1, 1)
	does(t, c, 0, 2, put("a", "1"), put("b", "2"))
	views(t, c, 0, api.Leader, 1, 0, 0, 3, 3)
	hasDone(t, c, 0, put("a", "1"), put("b", "2"))
	timesOut(t, c, 0)
	views(t, c, 0, api.Leader, 1, 0, 0, 3, 3)
	underWay(t, c)
	c.Round()
	compacts(t, c, 0)
	is(t, "P17: Compact of nothing", c.Compact(0), api.ErrNone)
	crashes(t, c, 0)
	restarts(t, c, 0)
	views(t, c, 0, api.Follower, 1, 0, 3, 3, 3)
	timesOut(t, c, 0)
	views(t, c, 0, api.Leader, 2, 0, 3, 4, 4)
	hasDone(t, c, 0, put("a", "1"), put("b", "2"))
}

// Most are more than half of all, also of those that are down.
func TestMostOfTheNodes(t *testing.T) {
	for nodes := 2; nodes <= api.MaxNodes; nodes++ {
		for down := range nodes {
			c := begun(t, nodes)
			for k := range down {
				crashes(t, c, nodes-1-k)
			}
			timesOut(t, c, 0)
			settle(c)
			if nodes-down <= nodes/2 {
				views(t, c, 0, api.Candidate, 1, 0, 0, 0, 0)
				continue
			}
			views(t, c, 0, api.Leader, 1, 0, 0, 1, 1)
			does(t, c, 0, 2, put("a", "1"))
			settle(c)
			views(t, c, 0, api.Leader, 1, 0, 0, 2, 2)
			// One more than may be is down: nothing is committed any more.
			for k := 1; nodes-down > nodes/2; k++ {
				crashes(t, c, k)
				down++
			}
			does(t, c, 0, 3, put("a", "2"))
			timesOut(t, c, 0)
			settle(c)
			views(t, c, 0, api.Leader, 1, 0, 0, 3, 2)
			hasDone(t, c, 0, put("a", "1"))
		}
	}
}

// A Leader that stays so sends to all by Timeout, and changes nothing.
func TestTimeoutOfALeader(t *testing.T) {
	c := led(t, 5, 2)
	does(t, c, 2, 2, put("a", "1"), put("b", "1"), put("c", "1"))
	dropAll(t, c)
	timesOut(t, c, 2)
	kinds(t, c, api.Append, 2, 0, api.Append, 2, 1, api.Append, 2, 3, api.Append, 2, 4)
	for _, m := range c.Flight() {
		if m.Index != 1 || len(m.Entries) != 2 || m.Commit != 1 || m.Last != 1 {
			t.Errorf("P16: a Timeout of a Leader sends %+v", m)
		}
	}
	views(t, c, 2, api.Leader, 1, 2, 0, 4, 1)
	// No act of its disk.
	breaks(t, c, 2, 1, 0)
	timesOut(t, c, 2)
	views(t, c, 2, api.Leader, 1, 2, 0, 4, 1)
}

// A Candidate that waits on becomes one again, in a term more.
func TestTimeoutOfACandidate(t *testing.T) {
	c := begun(t, 3)
	for term := 1; term <= 5; term++ {
		timesOut(t, c, 1)
		views(t, c, 1, api.Candidate, term, 1, 0, 0, 0)
	}
	l := c.Flight()
	if len(l) != 10 {
		t.Errorf("P14: five Timeouts send %d", len(l))
	}
	for k, m := range l {
		if want := (api.Message{Kind: api.Vote, From: 1, To: k % 2 * 2, Term: k/2 + 1}); !same(m, want) {
			t.Errorf("P14: the %d-th message is %+v, want %+v", k, m, want)
		}
	}
	// Only the votes of the last term count.
	c.Round()
	c.Round()
	views(t, c, 1, api.Leader, 5, 1, 0, 1, 0)
}

// Who has less than most others is not voted for, but its term is learnt.
func TestWhoIsBehindDoesNotLead(t *testing.T) {
	c := led(t, 3, 0)
	crashes(t, c, 2)
	does(t, c, 0, 2, put("a", "1"))
	settle(c)
	crashes(t, c, 0)
	restarts(t, c, 2)
	for range 3 {
		timesOut(t, c, 2)
		settle(c)
	}
	views(t, c, 2, api.Candidate, 4, 2, 0, 1, 0)
	views(t, c, 1, api.Follower, 4, -1, 0, 2, 1)
	restarts(t, c, 0)
	leads(t, c, 1)
	for k := range 3 {
		hasDone(t, c, k, put("a", "1"))
	}
}

// An entry of a former term is committed with one of the Leader's own term only, however many have it: it may still be lost.
func TestEntriesOfFormerTerms(t *testing.T) {
	c := begunOf(t, api.Config{Nodes: 5, Entries: 8, Batch: 1, Piece: 32}, "")
	leads(t, c, 0)
	// Node 0 gives x to node 1 alone.
	does(t, c, 0, 2, put("x", "1"))
	delivers(t, c, 0)
	crashes(t, c, 0)
	dropAll(t, c)
	// Node 4 leads in the term 2, without x; it gives its own entry to nobody.
	timesOut(t, c, 4)
	rounds(c, 2)
	views(t, c, 4, api.Leader, 2, 4, 0, 2, 1)
	crashes(t, c, 4)
	dropAll(t, c)
	// Node 0 leads again, in the term 3, and gives x, but nothing more, to nodes 2 and 3.
	restarts(t, c, 0)
	timesOut(t, c, 0)
	dropAll(t, c)
	timesOut(t, c, 0)
	rounds(c, 2)
	views(t, c, 0, api.Leader, 3, 0, 0, 3, 0)
	drops(t, c, 0)
	rounds(c, 4)
	for _, k := range []int{1, 2, 3} {
		logs(t, c, k, api.Entry{Term: 1}, entry(1, "x", "1"))
	}
	kinds(t, c, api.Append, 0, 2, api.Append, 0, 3)
	if l := c.Flight(); l[0].Index != 2 || l[1].Index != 2 {
		t.Errorf("P16: the Leader has not learnt who has x: %+v", l)
	}
	views(t, c, 0, api.Leader, 3, 0, 0, 3, 0)
	crashes(t, c, 0)
	dropAll(t, c)
	// Node 4 leads in the term 4: its last entry is of a greater term than x.
	restarts(t, c, 4)
	timesOut(t, c, 4)
	dropAll(t, c)
	timesOut(t, c, 4)
	settle(c)
	restarts(t, c, 0)
	timesOut(t, c, 4)
	settle(c)
	timesOut(t, c, 4)
	settle(c)
	for k := range 5 {
		logs(t, c, k, api.Entry{Term: 1}, api.Entry{Term: 2}, api.Entry{Term: 4})
		hasDone(t, c, k)
		if v, _ := c.View(k); v.Commit != 3 || v.Term != 4 {
			t.Errorf("P16: View(%d) = %+v", k, v)
		}
	}
}
