package conclave

import (
	"fmt"
	"slices"
	"testing"

	"conclave/api"
)

// Single messages to a node in a given state: many of these no short run of calls gives.

func nothing(terms ...int) []api.Entry {
	var l []api.Entry
	for _, term := range terms {
		l = append(l, api.Entry{Term: term})
	}
	return l
}

// laid is three nodes, of which node 0 has come up with this state.
func laid(t *testing.T, s api.State) *Conclave {
	t.Helper()
	c, e := New(api.Config{Nodes: 3, Entries: 8, Batch: 2, Piece: 40}, "")
	if e != api.OK {
		t.Fatalf("P12: New = %d", e)
	}
	n := c.nodes[0]
	s.Data = n.kept.Data
	if e := n.journal.Rewrite(s); e != api.OK {
		t.Fatalf("P11: Rewrite = %d", e)
	}
	if c.Crash(0, 0) != api.OK || c.Restart(0) != api.OK {
		t.Fatalf("P18: a node does not come up")
	}
	return c
}

// gets delivers a message to node 0, and tells what it sends by that.
func gets(t *testing.T, c *Conclave, m api.Message) []api.Message {
	t.Helper()
	c.flight = []api.Message{m}
	if e := c.Deliver(0); e != api.OK {
		t.Errorf("P13: Deliver = %d", e)
	}
	return c.Flight()
}

// votesFor makes node 0, a Candidate, the Leader.
func votesFor(t *testing.T, c *Conclave) {
	t.Helper()
	v, _ := c.View(0)
	gets(t, c, api.Message{Kind: api.Voted, From: 1, Term: v.Term, OK: true})
	if v, e := c.View(0); e != api.OK || v.Role != api.Leader {
		t.Fatalf("P15: the Candidate does not lead: %+v, %d", v, e)
	}
}

func same(a, b any) bool { return fmt.Sprintf("%+v", a) == fmt.Sprintf("%+v", b) }

func sends(t *testing.T, what string, got []api.Message, want ...api.Message) {
	t.Helper()
	if !same(got, want) {
		t.Errorf("%s: it sends\n%+v, want\n%+v", what, got, want)
	}
}

// isNow: what it is, its term, its vote, its base, its last index, up to where it has committed; and its log.
func isNow(t *testing.T, what string, c *Conclave, view []int, log []api.Entry) {
	t.Helper()
	v, e := c.View(0)
	if got := []int{v.Role, v.Term, v.Vote, v.Base, v.Last, v.Commit}; e != api.OK || !slices.Equal(got, view) {
		t.Errorf("%s: it is %v, %d, want %v", what, got, e, view)
	}
	if got, e := c.Log(0); e != api.OK || !slices.Equal(got, log) {
		t.Errorf("%s: its log is %v, %d, want %v", what, got, e, log)
	}
}

// lasts: behind a crash it has the same term, vote, base and log.
func lasts(t *testing.T, what string, c *Conclave) {
	t.Helper()
	v, _ := c.View(0)
	log, _ := c.Log(0)
	c.Crash(0, 0)
	c.Restart(0)
	isNow(t, what+", behind a crash", c, []int{api.Follower, v.Term, v.Vote, v.Base, v.Last, v.Base}, log)
}

// acts is how many acts of its disk a node does in a call: the first one that must not fail is one more.
func acts(t *testing.T, node int, begin func() *Conclave, call func(c *Conclave)) int {
	t.Helper()
	for k := 1; ; k++ {
		c := begin()
		if e := c.Break(node, k, 0); e != api.OK {
			t.Fatalf("P18: Break = %d", e)
		}
		call(c)
		if _, e := c.View(node); e == api.OK {
			return k - 1
		}
	}
}

const (
	follower  = api.Follower
	candidate = api.Candidate
	leader    = api.Leader
)

// middle is a state with a base and three entries behind it: 3 (term 2), 4 (2), 5 (4), 6 (4).
func middle() api.State {
	return api.State{Term: 5, Vote: 2, Base: 3, BaseTerm: 2, Log: nothing(2, 4, 4)}
}

func TestHandleAppend(t *testing.T) {
	at := func(term, index, last, commit int, entries ...api.Entry) api.Message {
		return api.Message{Kind: api.Append, From: 1, Term: term, Index: index, Last: last, Commit: commit, Entries: entries}
	}
	full := nothing(2, 4, 4)
	for _, k := range []struct {
		name   string
		m      api.Message
		ok     bool
		match  int
		commit int
		log    []api.Entry
		acts   int
	}{
		{"of a lower term", at(4, 6, 4, 6), false, 0, 3, full, 0},
		{"of a lower term, with entries", at(4, 6, 4, 6, nothing(4)...), false, 0, 3, full, 0},
		{"of nothing, behind the log", at(5, 6, 4, 0), true, 6, 3, full, 0},
		{"of nothing, behind the log, commit", at(5, 6, 4, 5), true, 6, 5, full, 0},
		{"of nothing, in the middle, commit of more", at(5, 5, 4, 6), true, 5, 5, full, 0},
		{"of nothing, at the base", at(5, 3, 2, 9), true, 3, 3, full, 0},
		{"of nothing, at the base, with another term", at(5, 3, 1, 9), true, 3, 3, full, 0},
		{"of nothing, below the base", at(5, 2, 9, 9), true, 2, 3, full, 0},
		{"of nothing, at 0", at(5, 0, 0, 9), true, 0, 3, full, 0},
		{"of two entries behind the log", at(5, 6, 4, 7, nothing(4, 5)...), true, 8, 7, nothing(2, 4, 4, 4, 5), 2},
		{"of two entries behind the log, commit of more", at(5, 6, 4, 99, nothing(4, 5)...), true, 8, 8, nothing(2, 4, 4, 4, 5), 2},
		{"of what is there", at(5, 4, 2, 6, nothing(4)...), true, 5, 5, full, 0},
		{"of all that is there", at(5, 3, 2, 0, full...), true, 6, 3, full, 0},
		{"of what is there, and one behind", at(5, 5, 4, 0, nothing(4, 5)...), true, 7, 3, nothing(2, 4, 4, 5), 2},
		{"of what is there, and one of another term", at(5, 4, 2, 0, nothing(4, 5)...), true, 6, 3, nothing(2, 4, 5), 2},
		{"of one of another term", at(5, 4, 2, 5, nothing(5)...), true, 5, 5, nothing(2, 5), 2},
		{"of two of another term", at(5, 3, 2, 0, nothing(3, 3)...), true, 5, 3, nothing(3, 3), 2},
		{"of one of a lower term", at(5, 5, 4, 0, nothing(3)...), true, 6, 3, nothing(2, 4, 3), 2},
		{"behind another term", at(5, 6, 5, 9, nothing(5)...), false, 5, 3, full, 0},
		{"behind another term, of nothing", at(5, 5, 3, 9), false, 4, 3, full, 0},
		{"behind another term, at the first entry", at(5, 4, 4, 9, nothing(4)...), false, 3, 3, full, 0},
		{"behind another base", at(5, 3, 1, 9, nothing(2)...), false, 2, 3, full, 0},
		{"behind what it has not", at(5, 7, 4, 9), false, 6, 3, full, 0},
		{"far behind what it has not", at(5, api.MaxNumber, 4, api.MaxNumber, nothing(5)...), false, 6, 3, full, 0},
		{"from the base on", at(5, 3, 2, 4, nothing(2)...), true, 4, 4, full, 0},
		{"from below the base to above it", at(5, 2, 77, 9, nothing(88, 2, 4)...), true, 5, 5, full, 0},
		{"from 0 to above the base", at(5, 0, 77, 4, nothing(88, 88, 88, 5)...), true, 4, 4, nothing(5), 2},
		{"from below the base to it", at(5, 1, 77, 9, nothing(88, 88)...), true, 3, 3, full, 0},
		{"from below the base to below it", at(5, 0, 77, 9, nothing(88, 88)...), true, 2, 3, full, 0},
	} {
		begin := func() *Conclave { return laid(t, middle()) }
		c := begin()
		got := gets(t, c, k.m)
		what := "P16: an Append " + k.name
		sends(t, what, got, api.Message{Kind: api.Appended, To: 1, Term: 5, OK: k.ok, Match: k.match})
		isNow(t, what, c, []int{follower, 5, 2, 3, 3 + len(k.log), k.commit}, k.log)
		lasts(t, what, c)
		if n := acts(t, 0, begin, func(c *Conclave) { gets(t, c, k.m) }); n != k.acts {
			t.Errorf("%s: there are %d acts of the disk, want %d", what, n, k.acts)
		}
	}
}

// What is committed is not given back, whatever an older message tells.
func TestHandleAppendOfLessCommit(t *testing.T) {
	c := laid(t, middle())
	for _, commit := range []int{6, 5, 3, 0} {
		gets(t, c, api.Message{Kind: api.Append, From: 1, Term: 5, Index: 6, Last: 4, Commit: commit})
		isNow(t, "P16: an Append with Commit", c, []int{follower, 5, 2, 3, 6, 6}, nothing(2, 4, 4))
	}
	gets(t, c, api.Message{Kind: api.Append, From: 1, Term: 5, Index: 4, Last: 2, Commit: 9})
	isNow(t, "P16: an Append with Commit", c, []int{follower, 5, 2, 3, 6, 6}, nothing(2, 4, 4))
}

// A message of a greater term is handled in that one; the term is written, whatever comes of it.
func TestHandleGreaterTerms(t *testing.T) {
	for _, k := range []struct {
		m      api.Message
		answer api.Message
		vote   int
		acts   int
	}{
		{api.Message{Kind: api.Vote, Index: 4, Last: 8}, api.Message{Kind: api.Voted, OK: true}, 1, 2},
		{api.Message{Kind: api.Vote, Index: 5, Last: 4}, api.Message{Kind: api.Voted}, -1, 2},
		{api.Message{Kind: api.Voted, OK: true}, api.Message{}, -1, 2},
		{api.Message{Kind: api.Voted}, api.Message{}, -1, 2},
		{api.Message{Kind: api.Append, Index: 6, Last: 4}, api.Message{Kind: api.Appended, OK: true, Match: 6}, -1, 2},
		{api.Message{Kind: api.Append, Index: 6, Last: 3}, api.Message{Kind: api.Appended, Match: 5}, -1, 2},
		{api.Message{Kind: api.Appended, OK: true, Match: 6}, api.Message{}, -1, 2},
		{api.Message{Kind: api.Appended}, api.Message{}, -1, 2},
		{api.Message{Kind: api.Piece, Index: 3, Last: 2}, api.Message{Kind: api.Pieced, OK: true, Match: 3}, -1, 2},
		{api.Message{Kind: api.Piece, Index: 7, Last: 5, Data: "abc"}, api.Message{Kind: api.Pieced, Offset: 3}, -1, 2},
		{api.Message{Kind: api.Pieced, OK: true, Match: 6}, api.Message{}, -1, 2},
		{api.Message{Kind: api.Pieced, Offset: 2}, api.Message{}, -1, 2},
	} {
		k.m.From, k.m.Term = 1, 9
		var want []api.Message
		if k.answer.Kind != 0 {
			k.answer.To, k.answer.Term = 1, 9
			want = append(want, k.answer)
		}
		for _, role := range []int{follower, candidate, leader} {
			what := fmt.Sprintf("P15: what is %d gets %+v", role, k.m)
			begin := func() *Conclave {
				c := laid(t, middle())
				if role != follower {
					c.Timeout(0)
				}
				if role == leader {
					votesFor(t, c)
				}
				return c
			}
			c := begin()
			log, _ := c.Log(0)
			sends(t, what, gets(t, c, k.m), want...)
			isNow(t, what, c, []int{follower, 9, k.vote, 3, 3 + len(log), 3}, log)
			lasts(t, what, c)
			if n := acts(t, 0, begin, func(c *Conclave) { gets(t, c, k.m) }); n != k.acts {
				t.Errorf("%s: there are %d acts of the disk, want %d", what, n, k.acts)
			}
		}
	}
}

func TestHandleVote(t *testing.T) {
	for _, k := range []struct {
		name              string
		vote              int
		term, index, last int
		ok                bool
		now, acts         int
	}{
		{"for the one it has voted for", 1, 5, 6, 4, true, 1, 0},
		{"for the one it has voted for, with too short a log", 1, 5, 5, 4, false, 1, 0},
		{"where it has voted for another one", 2, 5, 9, 9, false, 2, 0},
		{"where it has voted for itself", 0, 5, 9, 9, false, 0, 0},
		{"with the same log", -1, 5, 6, 4, true, 1, 2},
		{"with a longer log", -1, 5, 7, 4, true, 1, 2},
		{"with a shorter log", -1, 5, 5, 4, false, -1, 0},
		{"with a shorter log of a greater term", -1, 5, 1, 5, true, 1, 2},
		{"with a longer log of a lower term", -1, 5, 99, 3, false, -1, 0},
		{"of a lower term", -1, 4, 9, 9, false, -1, 0},
		{"of a lower term, for the one it has voted for", 1, 4, 9, 9, false, 1, 0},
	} {
		s := middle()
		s.Vote = k.vote
		begin := func() *Conclave { return laid(t, s) }
		m := api.Message{Kind: api.Vote, From: 1, Term: k.term, Index: k.index, Last: k.last}
		c := begin()
		what := "P15: a Vote " + k.name
		for range 2 {
			sends(t, what, gets(t, c, m), api.Message{Kind: api.Voted, To: 1, Term: 5, OK: k.ok})
			isNow(t, what, c, []int{follower, 5, k.now, 3, 6, 3}, s.Log)
		}
		lasts(t, what, c)
		if n := acts(t, 0, begin, func(c *Conclave) { gets(t, c, m) }); n != k.acts {
			t.Errorf("%s: there are %d acts of the disk, want %d", what, n, k.acts)
		}
	}
}

// Where there is no entry behind the base, the base's index and term are those of the last one.
func TestHandleVoteAtTheBase(t *testing.T) {
	for _, k := range []struct {
		index, last int
		ok          bool
	}{{3, 2, true}, {4, 2, true}, {2, 2, false}, {0, 3, true}, {99, 1, false}} {
		c := laid(t, api.State{Term: 5, Vote: -1, Base: 3, BaseTerm: 2})
		got := gets(t, c, api.Message{Kind: api.Vote, From: 2, Term: 5, Index: k.index, Last: k.last})
		sends(t, "P15: a Vote at the base", got, api.Message{Kind: api.Voted, To: 2, Term: 5, OK: k.ok})
	}
	c := laid(t, api.State{Term: 5, Vote: -1, Base: 3, BaseTerm: 2})
	c.Timeout(0)
	m := api.Message{Kind: api.Vote, To: 1, Term: 6, Index: 3, Last: 2}
	other := m
	other.To = 2
	sends(t, "P14: Timeout at the base", c.Flight(), m, other)
}

func TestHandleVoted(t *testing.T) {
	for _, k := range []struct {
		name  string
		m     api.Message
		leads bool
	}{
		{"OK", api.Message{Term: 6, OK: true}, true},
		{"not OK", api.Message{Term: 6}, false},
		{"of a lower term", api.Message{Term: 5, OK: true}, false},
	} {
		k.m.Kind, k.m.From = api.Voted, 2
		c := laid(t, middle())
		c.Timeout(0)
		got := gets(t, c, k.m)
		if !k.leads {
			sends(t, "P15: a Voted "+k.name, got)
			isNow(t, "P15: a Voted "+k.name, c, []int{candidate, 6, 0, 3, 6, 3}, nothing(2, 4, 4))
			continue
		}
		m := api.Message{Kind: api.Append, To: 1, Term: 6, Index: 6, Last: 4, Commit: 3, Entries: nothing(6)}
		other := m
		other.To = 2
		sends(t, "P15: a Voted "+k.name, got, m, other)
		isNow(t, "P15: a Voted "+k.name, c, []int{leader, 6, 0, 3, 7, 3}, nothing(2, 4, 4, 6))
		// One more vote does nothing.
		sends(t, "P15: a Voted to the Leader", gets(t, c, k.m))
		isNow(t, "P15: a Voted to the Leader", c, []int{leader, 6, 0, 3, 7, 3}, nothing(2, 4, 4, 6))
		lasts(t, "P15: a Voted "+k.name, c)
		sends(t, "P15: a Voted to a Follower", gets(t, c, k.m))
		isNow(t, "P15: a Voted to a Follower", c, []int{follower, 6, 0, 3, 7, 3}, nothing(2, 4, 4, 6))
	}
}

// A Candidate that gets an Append or a Piece of its own term follows, and is not led by votes that come later.
func TestCandidateFollows(t *testing.T) {
	for _, m := range []api.Message{{Kind: api.Append, Index: 6, Last: 4}, {Kind: api.Append, Index: 9, Last: 4}, {Kind: api.Piece, Index: 3, Last: 2}, {Kind: api.Piece, Index: 9, Last: 4, Data: "x"}} {
		c := laid(t, middle())
		c.Timeout(0)
		old := m
		old.From, old.Term = 2, 5
		gets(t, c, old)
		isNow(t, "P16: a Candidate gets what is old", c, []int{candidate, 6, 0, 3, 6, 3}, nothing(2, 4, 4))
		m.From, m.Term = 2, 6
		gets(t, c, m)
		isNow(t, "P16: a Candidate gets what a Leader sends", c, []int{follower, 6, 0, 3, 6, 3}, nothing(2, 4, 4))
		sends(t, "P15: a Voted to a Follower", gets(t, c, api.Message{Kind: api.Voted, From: 1, Term: 6, OK: true}))
		isNow(t, "P15: a Voted to a Follower", c, []int{follower, 6, 0, 3, 6, 3}, nothing(2, 4, 4))
	}
}

// A Candidate of a new term has the votes of that one alone.
func TestVotesOfAnEarlierTerm(t *testing.T) {
	c, _ := New(api.Config{Nodes: 5, Entries: 8, Batch: 2, Piece: 40}, "")
	voted := func(from, term int) {
		gets(t, c, api.Message{Kind: api.Voted, From: from, Term: term, OK: true})
	}
	c.Timeout(0)
	voted(1, 1)
	voted(1, 1)
	c.Timeout(0)
	voted(2, 2)
	voted(2, 2)
	voted(3, 1)
	isNow(t, "P15: two votes of five", c, []int{candidate, 2, 0, 0, 0, 0}, nil)
	voted(3, 2)
	isNow(t, "P15: three votes of five", c, []int{leader, 2, 0, 0, 1, 0}, nothing(2))
}

// leading is node 0 as Leader of the term 6, with the entries 4 to 7: of them it thinks that the others have nothing; it sends 7.
func leading(t *testing.T) *Conclave {
	t.Helper()
	c := laid(t, middle())
	c.Timeout(0)
	votesFor(t, c)
	return c
}

func TestHandleAppended(t *testing.T) {
	full := nothing(2, 4, 4, 6)
	from := func(index, last, commit int, entries ...api.Entry) api.Message {
		return api.Message{Kind: api.Append, To: 1, Term: 6, Index: index, Last: last, Commit: commit, Entries: entries}
	}
	not := func(match int) api.Message {
		return api.Message{Kind: api.Appended, From: 1, Term: 6, Match: match}
	}
	ok := func(match int) api.Message {
		return api.Message{Kind: api.Appended, From: 1, Term: 6, Match: match, OK: true}
	}
	for _, k := range []struct {
		name   string
		l      []api.Message
		commit int
		want   []api.Message // behind the last one
	}{
		{"not OK: one less", []api.Message{not(9)}, 3, []api.Message{from(5, 4, 3, nothing(4, 6)...)}},
		{"not OK, the same as one less", []api.Message{not(5)}, 3, []api.Message{from(5, 4, 3, nothing(4, 6)...)}},
		{"not OK: the message's", []api.Message{not(4)}, 3, []api.Message{from(4, 2, 3, nothing(4, 4)...)}},
		{"not OK, twice: two less", []api.Message{not(9), not(9)}, 3, []api.Message{from(4, 2, 3, nothing(4, 4)...)}},
		{"not OK: at the base", []api.Message{not(3)}, 3, []api.Message{from(3, 2, 3, nothing(2, 4)...)}},
		{"OK of all", []api.Message{ok(7)}, 7, nil},
		{"OK of some", []api.Message{ok(5)}, 3, []api.Message{from(5, 4, 3, nothing(4, 6)...)}},
		{"OK of one that is not its own term's", []api.Message{ok(6)}, 3, []api.Message{from(6, 4, 3, nothing(6)...)}},
		{"OK of less than it was", []api.Message{ok(6), ok(4)}, 3, []api.Message{from(6, 4, 3, nothing(6)...)}},
		{"OK of all, and then of less", []api.Message{ok(7), ok(4)}, 7, nil},
		{"OK, and then not OK: not below that", []api.Message{ok(5), not(0)}, 3, []api.Message{from(5, 4, 3, nothing(4, 6)...)}},
		{"OK of all, and then not OK", []api.Message{ok(7), not(0)}, 7, []api.Message{from(7, 6, 7)}},
		{"of a lower term", []api.Message{{Kind: api.Appended, From: 1, Term: 5, OK: true, Match: 7}}, 3, nil},
		{"of a lower term, not OK", []api.Message{{Kind: api.Appended, From: 1, Term: 5}}, 3, nil},
		{"Pieced OK of all", []api.Message{{Kind: api.Pieced, From: 1, Term: 6, OK: true, Match: 7}}, 7, nil},
		{"Pieced OK of some", []api.Message{{Kind: api.Pieced, From: 1, Term: 6, OK: true, Match: 5}}, 3, []api.Message{from(5, 4, 3, nothing(4, 6)...)}},
		{"Pieced not OK, where Next is above the base", []api.Message{{Kind: api.Pieced, From: 1, Term: 6, Offset: 40}}, 3, nil},
		{"Pieced OK of a lower term", []api.Message{{Kind: api.Pieced, From: 1, Term: 5, OK: true, Match: 7}}, 3, nil},
	} {
		c := leading(t)
		var got []api.Message
		for _, m := range k.l {
			got = gets(t, c, m)
		}
		what := "P16: to the Leader: Appended " + k.name
		sends(t, what, got, k.want...)
		isNow(t, what, c, []int{leader, 6, 0, 3, 7, k.commit}, full)
		last := k.l[len(k.l)-1]
		if n := acts(t, 0, func() *Conclave { return leading(t) }, func(c *Conclave) { gets(t, c, last) }); n != 0 {
			t.Errorf("%s: there are %d acts of the disk, want none", what, n)
		}
		// Who does not lead does not care.
		for _, c := range []*Conclave{laid(t, api.State{Term: 6, Vote: 1, Base: 3, BaseTerm: 2, Log: full}), laid(t, api.State{Term: 5, Vote: 1, Base: 3, BaseTerm: 2, Log: full})} {
			if v, _ := c.View(0); v.Term == 5 {
				c.Timeout(0)
			}
			v, _ := c.View(0)
			sends(t, what, gets(t, c, last))
			isNow(t, what, c, []int{v.Role, 6, v.Vote, 3, 7, 3}, full)
		}
	}
}

// An entry is committed when most have it, itself with them; of the others each one counts with its own Match.
func TestMostHaveIt(t *testing.T) {
	c, _ := New(api.Config{Nodes: 4, Entries: 8, Batch: 2, Piece: 40}, "")
	c.Timeout(0)
	for _, from := range []int{1, 3} {
		gets(t, c, api.Message{Kind: api.Voted, From: from, Term: 1, OK: true})
	}
	c.Do(0, api.Command{}, api.Command{}, api.Command{})
	for _, k := range []struct{ from, match, commit int }{{1, 4, 0}, {1, 4, 0}, {2, 2, 2}, {3, 1, 2}, {3, 3, 3}, {2, 1, 3}, {2, 4, 4}, {3, 4, 4}} {
		gets(t, c, api.Message{Kind: api.Appended, From: k.from, Term: 1, OK: true, Match: k.match})
		isNow(t, fmt.Sprintf("P16: %d has %d", k.from, k.match), c, []int{leader, 1, 0, 0, 4, k.commit}, nothing(1, 1, 1, 1))
	}
}

// One step at a time, however far the other one is behind: Batch entries at most.
func TestSendsBatches(t *testing.T) {
	for batch := 1; batch <= api.MaxBatch; batch++ {
		c, _ := New(api.Config{Nodes: 2, Entries: 9, Batch: batch, Piece: 40}, "")
		c.Timeout(0)
		gets(t, c, api.Message{Kind: api.Voted, From: 1, Term: 1, OK: true})
		c.Do(0, make([]api.Command, 8)...)
		for match := 0; match < 9; {
			many := min(batch, 9-match)
			var entries []api.Entry
			for range many {
				entries = append(entries, api.Entry{Term: 1})
			}
			got := gets(t, c, api.Message{Kind: api.Appended, From: 1, Term: 1, OK: true, Match: match})
			sends(t, "P16: entries", got, api.Message{Kind: api.Append, To: 1, Term: 1, Index: match, Last: min(match, 1), Commit: match, Entries: entries})
			match += many
		}
	}
}
