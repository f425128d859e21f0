package conclave_test

import (
	"math"
	"testing"

	"conclave/api"
	"conclave/conclave"
)

func TestPlacesOfMessages(t *testing.T) {
	c := begun(t, 3)
	for _, many := range []int{0, 2} {
		ahead := told(c)
		for _, k := range []int{many, many + 1, -1, api.MaxFlight, math.MinInt, math.MaxInt, 1 << 32} {
			is(t, "P13: Deliver of no message", c.Deliver(k), api.ErrNode)
			is(t, "P13: Drop of no message", c.Drop(k), api.ErrNode)
			is(t, "P13: Double of no message", c.Double(k), api.ErrNode)
		}
		if told(c) != ahead {
			t.Errorf("P1: an error changes something")
		}
		timesOut(t, c, 0)
	}
}

func TestDropAndDouble(t *testing.T) {
	c := begun(t, 4)
	timesOut(t, c, 1)
	l := c.Flight()
	kinds(t, c, api.Vote, 1, 0, api.Vote, 1, 2, api.Vote, 1, 3)
	doubles(t, c, 1)
	underWay(t, c, l[0], l[1], l[2], l[1])
	doubles(t, c, 3)
	underWay(t, c, l[0], l[1], l[2], l[1], l[1])
	drops(t, c, 0)
	underWay(t, c, l[1], l[2], l[1], l[1])
	drops(t, c, 1)
	drops(t, c, 2)
	underWay(t, c, l[1], l[1])
	doubles(t, c, 0)
	drops(t, c, 2)
	drops(t, c, 1)
	drops(t, c, 0)
	underWay(t, c)
	// Nobody has got any of them.
	for _, k := range []int{0, 2, 3} {
		views(t, c, k, api.Follower, 0, -1, 0, 0, 0)
	}
}

func TestDeliver(t *testing.T) {
	c := begun(t, 3)
	timesOut(t, c, 0)
	l := c.Flight()
	delivers(t, c, 1)
	underWay(t, c, l[0], api.Message{Kind: api.Voted, From: 2, Term: 1, OK: true})
	views(t, c, 1, api.Follower, 0, -1, 0, 0, 0)
	views(t, c, 2, api.Follower, 1, 0, 0, 0, 0)
	// What is sent by that comes behind all else.
	delivers(t, c, 0)
	underWay(t, c, api.Message{Kind: api.Voted, From: 2, Term: 1, OK: true}, api.Message{Kind: api.Voted, From: 1, Term: 1, OK: true})
	delivers(t, c, 1)
	views(t, c, 0, api.Leader, 1, 0, 0, 1, 0)
	kinds(t, c, api.Voted, 2, 0, api.Append, 0, 1, api.Append, 0, 2)
	// A message to a node that is down is gone.
	crashes(t, c, 2)
	delivers(t, c, 2)
	kinds(t, c, api.Voted, 2, 0, api.Append, 0, 1)
	restarts(t, c, 2)
	views(t, c, 2, api.Follower, 1, 0, 0, 0, 0)
	// So is one by which its node goes down; Deliver has done what it is for.
	breaks(t, c, 1, 1, 0)
	delivers(t, c, 1)
	kinds(t, c, api.Voted, 2, 0)
	isDown(t, c, 1)
}

func TestRoundInOrder(t *testing.T) {
	c := begun(t, 3)
	for _, k := range []int{2, 0, 1} {
		timesOut(t, c, k)
	}
	kinds(t, c, api.Vote, 2, 0, api.Vote, 2, 1, api.Vote, 0, 1, api.Vote, 0, 2, api.Vote, 1, 0, api.Vote, 1, 2)
	c.Round()
	// By the number of who sends; of one node in the order in which it got what it answers.
	kinds(t, c, api.Voted, 0, 2, api.Voted, 0, 1, api.Voted, 1, 2, api.Voted, 1, 0, api.Voted, 2, 0, api.Voted, 2, 1)
	// A new conclave, where the order decides: who comes first is voted for.
	for _, first := range []int{0, 1} {
		c := begun(t, 3)
		timesOut(t, c, first)
		timesOut(t, c, 1-first)
		c.Round()
		for _, m := range c.Flight() {
			if m.From == 2 && m.OK != (m.To == first) {
				t.Errorf("P13: node 2 does not handle the messages in their order: %+v", m)
			}
		}
		c.Round()
		views(t, c, first, api.Leader, 1, first, 0, 1, 0)
	}
	// What is sent in a Round comes in the next one.
	c = begun(t, 2)
	timesOut(t, c, 0)
	for _, kind := range []int{api.Vote, api.Voted, api.Append, api.Appended} {
		from := []int{0, 1}[(kind+1)%2]
		kinds(t, c, kind, from, 1-from)
		c.Round()
	}
	underWay(t, c)
	c.Round()
	underWay(t, c)
}

func TestRoundWhereNodesGoDown(t *testing.T) {
	c := led(t, 3, 0)
	does(t, c, 0, 2, put("a", "1"))
	does(t, c, 0, 3, put("b", "1"))
	timesOut(t, c, 0)
	// Node 1 gets 2; then 2 again and 3: the second Append and its answer fail, and the third one is gone too. What it has answered ahead of that stands.
	breaks(t, c, 1, 3, 0)
	c.Round()
	isDown(t, c, 1)
	kinds(t, c, api.Appended, 1, 0, api.Appended, 2, 0, api.Appended, 2, 0, api.Appended, 2, 0)
	if m := c.Flight()[0]; !m.OK || m.Match != 2 {
		t.Errorf("P13: the first answer is %+v", m)
	}
	c.Round()
	views(t, c, 0, api.Leader, 1, 0, 0, 3, 3)
	restarts(t, c, 1)
	views(t, c, 1, api.Follower, 1, 0, 0, 2, 0)
	dropAll(t, c)
	// All to a node that is down are gone.
	crashes(t, c, 2)
	timesOut(t, c, 0)
	c.Round()
	kinds(t, c, api.Appended, 1, 0)
	restarts(t, c, 2)
	settle(c)
	views(t, c, 2, api.Follower, 1, 0, 0, 3, 0)
}

// fill is five nodes with so many messages under way, all of them from node 0.
func fill(t *testing.T, many int) *conclave.Conclave {
	t.Helper()
	c := begun(t, 5)
	for len(c.Flight()) < many {
		timesOut(t, c, 0)
	}
	for len(c.Flight()) > many {
		drops(t, c, many)
	}
	return c
}

func TestMaxFlight(t *testing.T) {
	for many := api.MaxFlight - 5; many <= api.MaxFlight; many++ {
		c := fill(t, many)
		timesOut(t, c, 1)
		l := c.Flight()
		if len(l) != min(many+4, api.MaxFlight) {
			t.Errorf("P13: behind a Timeout with %d under way there are %d", many, len(l))
		}
		// The first ones are those that are not lost.
		for k, m := range l[many:] {
			if m.From != 1 || m.To != []int{0, 2, 3, 4}[k] {
				t.Errorf("P13: the %d-th one of a Timeout is %+v", k, m)
			}
		}
	}
	for many := api.MaxFlight - 2; many <= api.MaxFlight; many++ {
		c := fill(t, many)
		want := c.Flight()
		if many < api.MaxFlight {
			want = append(want, want[3])
		}
		doubles(t, c, 3)
		underWay(t, c, want...)
		// A Deliver makes room for an answer.
		delivers(t, c, 0)
		if l := c.Flight(); len(l) != len(want) || l[len(l)-1].Kind != api.Voted || !same(l[:len(l)-1], want[1:]) {
			t.Errorf("P13: behind Deliver under way are %+v", l)
		}
	}
}

// A Round of which more is sent than there is room for: by one of 60 messages a node comes to lead, and sends four.
func TestMaxFlightOfARound(t *testing.T) {
	for _, leader := range []int{0, 4} {
		c := begun(t, 5)
		timesOut(t, c, leader)
		delivers(t, c, 0)
		delivers(t, c, 3)
		delivers(t, c, 0)
		views(t, c, leader, api.Candidate, 1, leader, 0, 0, 0)
		for len(c.Flight()) < api.MaxFlight {
			doubles(t, c, 0)
		}
		var want []int
		voted := func(from, many int) {
			for range many {
				want = append(want, api.Voted, from, leader)
			}
		}
		c.Round()
		views(t, c, leader, api.Leader, 1, leader, 0, 1, 0)
		if leader == 0 {
			want = append(want, api.Append, 0, 1, api.Append, 0, 2, api.Append, 0, 3, api.Append, 0, 4)
			voted(3, 56)
		} else {
			voted(2, 58)
			voted(3, 1)
			want = append(want, api.Append, 4, 0)
		}
		kinds(t, c, want...)
	}
}
