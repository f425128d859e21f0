package conclave_test

import (
	"math"
	"slices"
	"testing"

	"conclave/api"
	"conclave/conclave"
)

// keeps are bytes that stay by a crash: none, some, all.
func keeps() []int {
	l := []int{math.MinInt, -1, math.MaxInt}
	for k := range 150 {
		l = append(l, k)
	}
	return l
}

// A Timeout whose Write fails: Hard alone, or, of one node, Hard and Item.
func TestBreakInTimeout(t *testing.T) {
	for _, keep := range keeps() {
		for act := 1; act <= 2; act++ {
			for _, nodes := range []int{1, 3} {
				c := begun(t, nodes)
				breaks(t, c, 0, act, keep)
				is(t, "P12: Timeout", c.Timeout(0), api.ErrDown)
				isDown(t, c, 0)
				underWay(t, c)
				is(t, "P18: Crash of who is down", c.Crash(0, 0), api.ErrDown)
				restarts(t, c, 0)
				// A Hard has 12 bytes with its length, an Item of Nothing 25.
				switch {
				case keep < 12:
					views(t, c, 0, api.Follower, 0, -1, 0, 0, 0)
				case keep < 37 || nodes > 1:
					views(t, c, 0, api.Follower, 1, 0, 0, 0, 0)
				default:
					views(t, c, 0, api.Follower, 1, 0, 0, 1, 0)
				}
				// The Break is gone.
				timesOut(t, c, 0)
			}
		}
	}
}

func TestBreakInDo(t *testing.T) {
	for _, keep := range keeps() {
		for act := 1; act <= 2; act++ {
			c := led(t, 3, 0)
			breaks(t, c, 0, act, keep)
			refuses(t, c, 0, api.ErrDown, put("a", "1"), put("b", "2"), put("c", "3"))
			isDown(t, c, 0)
			underWay(t, c)
			restarts(t, c, 0)
			// An Item of these has 27 bytes with its length.
			views(t, c, 0, api.Follower, 1, 0, 0, 1+max(0, min(keep/27, 3)), 0)
			// What stayed may be committed yet.
			leads(t, c, 0)
			views(t, c, 0, api.Leader, 2, 0, 0, 2+max(0, min(keep/27, 3)), 2+max(0, min(keep/27, 3)))
		}
	}
}

// ended is a conclave in which node 1 is about to handle what a Write, or a Rewrite, comes of.
func ended(t *testing.T, how string) *conclave.Conclave {
	t.Helper()
	switch how {
	case "Vote":
		c := begun(t, 3)
		timesOut(t, c, 0)
		return c
	case "Voted":
		c := begun(t, 2)
		timesOut(t, c, 1)
		c.Round()
		return c
	case "Append":
		c := led(t, 3, 0)
		does(t, c, 0, 2, put("a", "1"), put("b", "1"))
		return c
	}
	c := led(t, 3, 0)
	crashes(t, c, 1)
	does(t, c, 0, 2, put("a", "1"), put("b", "1"))
	settle(c)
	compacts(t, c, 0)
	restarts(t, c, 1)
	timesOut(t, c, 0)
	for {
		for k, m := range c.Flight() {
			if m.Kind == api.Piece && m.End {
				doubles(t, c, k)
				for len(c.Flight()) > 1 {
					drops(t, c, 0)
				}
				return c
			}
		}
		c.Round()
	}
}

// A message whose handling fails: the node is down, and answers nothing; what it has is what was ahead, or, if enough stayed, what would have come of it.
func TestBreakInMessages(t *testing.T) {
	for how, most := range map[string]int{"Vote": 2, "Voted": 2, "Append": 2, "Piece": 3} {
		for act := 1; act <= most; act++ {
			for _, keep := range keeps() {
				failing, fine := ended(t, how), ended(t, how)
				crashes(t, failing, 1)
				restarts(t, failing, 1)
				old, _ := failing.View(1)
				failing = ended(t, how)
				breaks(t, failing, 1, act, keep)
				// By a Round, and by Deliver, the same.
				if keep%2 == 0 {
					delivers(t, failing, 0)
					delivers(t, fine, 0)
				} else {
					failing.Round()
					fine.Round()
				}
				isDown(t, failing, 1)
				if slices.ContainsFunc(failing.Flight(), func(m api.Message) bool { return m.From == 1 }) {
					t.Errorf("P12: %s: a node that is down sends %+v", how, failing.Flight())
				}
				restarts(t, failing, 1)
				crashes(t, fine, 1)
				restarts(t, fine, 1)
				got, _ := failing.View(1)
				whole, _ := fine.View(1)
				lost := keep <= 0 || how == "Piece" && act == 1
				some := how == "Append" && got.Last > old.Last && got.Last < whole.Last
				if lost && got != old || !lost && keep == math.MaxInt && got != whole || got != old && got != whole && !some {
					t.Errorf("P12: %s, the act %d fails, %d bytes stay: the node is %+v; without that %+v, ahead %+v", how, act, keep, got, whole, old)
				}
			}
		}
	}
}

// There are no more acts than these.
func TestActsOfMessages(t *testing.T) {
	for how, most := range map[string]int{"Vote": 2, "Voted": 2, "Append": 2, "Piece": 3} {
		c, fine := ended(t, how), ended(t, how)
		breaks(t, c, 1, most+1, 0)
		delivers(t, c, 0)
		delivers(t, fine, 0)
		if told(c) != told(fine) {
			t.Errorf("P12: %s: there is one act more than %d", how, most)
		}
	}
}

func TestBreakInCompact(t *testing.T) {
	for act := 1; act <= 4; act++ {
		for _, keep := range keeps() {
			c := led(t, 3, 0)
			does(t, c, 0, 2, put("a", "1"), put("b", "1"))
			rounds(c, 2)
			does(t, c, 0, 4, put("c", "1"))
			dropAll(t, c)
			breaks(t, c, 0, act, keep)
			if act == 4 {
				compacts(t, c, 0)
				views(t, c, 0, api.Leader, 1, 0, 3, 4, 3)
				continue
			}
			is(t, "P12: Compact", c.Compact(0), api.ErrDown)
			isDown(t, c, 0)
			restarts(t, c, 0)
			// Base, with its Data, Hard, and the Item of c: all must be there, or none counts.
			whole := 3 + 1 + 5*3 + len(savedBy(t, put("a", "1"), put("b", "1"))) + 4 + 12 + 27
			if act > 1 && keep >= whole {
				views(t, c, 0, api.Follower, 1, 0, 3, 4, 3)
				hasDone(t, c, 0, put("a", "1"), put("b", "1"))
			} else {
				views(t, c, 0, api.Follower, 1, 0, 0, 4, 0)
				hasDone(t, c, 0)
			}
		}
	}
}

// A Break of a node that is down counts for what it does when it is up again.
func TestBreakOfANodeThatIsDown(t *testing.T) {
	c := begun(t, 1)
	crashes(t, c, 0)
	breaks(t, c, 0, 3, 0)
	restarts(t, c, 0)
	timesOut(t, c, 0)
	refuses(t, c, 0, api.ErrDown, put("a", "1"))
	restarts(t, c, 0)
	views(t, c, 0, api.Follower, 1, 0, 0, 1, 0)
	// The last Break is what counts, and 0 ends it.
	breaks(t, c, 0, 1, 0)
	breaks(t, c, 0, 0, 0)
	timesOut(t, c, 0)
	breaks(t, c, 0, 1, 0)
	breaks(t, c, 0, 5, 0)
	does(t, c, 0, 3, put("a", "1"))
	does(t, c, 0, 4, put("a", "2"))
	refuses(t, c, 0, api.ErrDown, put("a", "3"))
	// A Crash ends it too.
	restarts(t, c, 0)
	breaks(t, c, 0, 1, 0)
	crashes(t, c, 0)
	restarts(t, c, 0)
	timesOut(t, c, 0)
	// What changes nothing does no act.
	breaks(t, c, 0, 1, 0)
	refuses(t, c, 0, api.ErrText, put("", ""))
	timesOut(t, c, 0)
	is(t, "P12: Compact", c.Compact(0), api.ErrDown)
}

// What a node knows but does not keep is gone by a crash; the rest is there.
func TestCrashAndRestart(t *testing.T) {
	for _, keep := range []int{math.MinInt, -1, 0, 5, math.MaxInt} {
		c := led(t, 3, 0)
		does(t, c, 0, 2, put("a", "1"), put("b", "1"))
		settle(c)
		compacts(t, c, 1)
		does(t, c, 0, 4, put("c", "1"))
		settle(c)
		for k := range 3 {
			ahead, _ := c.View(k)
			log, _ := c.Log(k)
			is(t, "P18: Crash", c.Crash(k, keep), api.OK)
			restarts(t, c, k)
			views(t, c, k, api.Follower, ahead.Term, ahead.Vote, ahead.Base, ahead.Last, ahead.Base)
			logs(t, c, k, log...)
		}
		hasDone(t, c, 0)
		hasDone(t, c, 2)
		underWay(t, c)
		leads(t, c, 2)
		for k := range 3 {
			hasDone(t, c, k, put("a", "1"), put("b", "1"), put("c", "1"))
		}
	}
}

// Messages that are under way to, or from, a node do not go by its crash.
func TestMessagesOutliveACrash(t *testing.T) {
	c := begun(t, 3)
	timesOut(t, c, 0)
	l := c.Flight()
	crashes(t, c, 0)
	underWay(t, c, l...)
	c.Round()
	restarts(t, c, 0)
	views(t, c, 0, api.Follower, 1, 0, 0, 0, 0)
	kinds(t, c, api.Voted, 1, 0, api.Voted, 2, 0)
	// It is no Candidate any more: the votes do nothing.
	c.Round()
	views(t, c, 0, api.Follower, 1, 0, 0, 0, 0)
	underWay(t, c)
	// It does not vote once more in this term, also for itself.
	timesOut(t, c, 1)
	timesOut(t, c, 0)
	views(t, c, 0, api.Candidate, 2, 0, 0, 0, 0)
}
