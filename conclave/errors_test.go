package conclave_test

import (
	"math"
	"slices"
	"testing"

	"conclave/api"
	"conclave/conclave"
)

// calls are all calls that have a node, but Restart: what they answer beside the error must be zero.
func calls(t *testing.T, c *conclave.Conclave, node int) map[string]api.Errno {
	t.Helper()
	errs := map[string]api.Errno{
		"Timeout": c.Timeout(node), "Compact": c.Compact(node), "Break": c.Break(node, -1, 0), "Crash": c.Crash(node, math.MinInt),
	}
	for _, l := range [][]api.Command{nil, {put("", "")}, {put("a", "1")}, make([]api.Command, 99)} {
		n, e := c.Do(node, l...)
		if n != 0 {
			t.Errorf("P1: Do beside the error = %d", n)
		}
		if old, ok := errs["Do"]; ok && old != e {
			t.Errorf("P1: Do = %d, want %d", e, old)
		}
		errs["Do"] = e
	}
	v, e := c.View(node)
	errs["View"] = e
	l, e := c.Log(node)
	errs["Log"] = e
	r, e := c.Result(node, 1)
	errs["Result"] = e
	f, e := c.Range(node, "", "", -1, -1)
	errs["Range"] = e
	b, e := c.Backup(node)
	errs["Backup"] = e
	if v != (api.View{}) || l != nil || r != (api.Result{}) || f != nil || b != "" {
		t.Errorf("P1: beside the error: %+v, %v, %+v, %v, %q", v, l, r, f, b)
	}
	return errs
}

func TestNoSuchNode(t *testing.T) {
	for nodes := 1; nodes <= api.MaxNodes; nodes++ {
		c := led(t, nodes, nodes-1)
		ahead := told(c)
		for _, k := range []int{-1, nodes, nodes + 1, 256, 1 << 32, -1 << 32, math.MinInt, math.MaxInt} {
			for call, e := range calls(t, c, k) {
				is(t, "P1: "+call+" of a node that is none", e, api.ErrNode)
			}
			is(t, "P1: Restart of a node that is none", c.Restart(k), api.ErrNode)
		}
		if told(c) != ahead {
			t.Errorf("P1: an error changes something")
		}
	}
}

// told is all that a conclave tells.
func told(c *conclave.Conclave) string {
	s := describe(c.Flight())
	for k := range api.MaxNodes {
		v, e := c.View(k)
		l, _ := c.Log(k)
		b, _ := c.Backup(k)
		s += describe(v, e, l, []byte(b))
		for index := v.Base + 1; index <= v.Commit; index++ {
			r, _ := c.Result(k, index)
			s += describe(r)
		}
	}
	return s
}

func TestNodeThatIsDown(t *testing.T) {
	for leader := range 2 {
		c := led(t, 3, leader)
		does(t, c, leader, 2, put("a", "1"))
		crashes(t, c, 1)
		ahead := told(c)
		for call, e := range calls(t, c, 1) {
			want := api.ErrDown
			if call == "Break" {
				want = api.ErrArg
			}
			is(t, "P1: "+call+" of a node that is down", e, want)
		}
		is(t, "P18: Restart of a node that is up", c.Restart(2), api.ErrNone)
		if told(c) != ahead {
			t.Errorf("P1: an error changes something")
		}
		restarts(t, c, 1)
		is(t, "P18: Restart of a node that is up", c.Restart(1), api.ErrNone)
	}
}

func TestBreakRefused(t *testing.T) {
	c := led(t, 1, 0)
	breaks(t, c, 0, 3, 5)
	for _, k := range []int{-1, -2, math.MinInt} {
		for _, keep := range []int{math.MinInt, -1, 0, 9, math.MaxInt} {
			is(t, "P18: Break", c.Break(0, k, keep), api.ErrArg)
		}
	}
	// The one ahead of it still counts.
	does(t, c, 0, 2, put("a", "1"))
	refuses(t, c, 0, api.ErrDown, put("a", "2"))
	isDown(t, c, 0)
}

func TestDoRefused(t *testing.T) {
	c := begun(t, 3)
	wrong := []api.Command{put("a", "1"), put("", "")}
	many := make([]api.Command, 9)
	// No Leader: a Follower, and a Candidate.
	for range 2 {
		for _, l := range [][]api.Command{nil, {}, wrong, many, {put("a", "1")}} {
			refuses(t, c, 0, api.ErrLeader, l...)
		}
		timesOut(t, c, 0)
	}
	settle(c)
	timesOut(t, c, 0)
	settle(c)
	views(t, c, 0, api.Leader, 2, 0, 0, 1, 1)
	ahead := told(c)
	refuses(t, c, 0, api.ErrNone)
	refuses(t, c, 0, api.ErrNone, []api.Command{}...)
	for _, x := range []api.Command{{Kind: -1}, {Kind: 5}, {Kind: math.MinInt}, {Key: "a"}, {Session: 1, Seq: 1}, put("", "1"), put(longest+"9", ""), put("a", longest+"9"), {Kind: api.Delete}, {Kind: api.Swap, Key: "a", Old: longest + "9"}, {Kind: api.Floor, Rev: -1}, {Kind: api.Floor, Rev: api.MaxNumber + 1}, {Kind: api.Put, Key: "a", Session: 1}, {Kind: api.Put, Key: "a", Seq: 1}, {Kind: api.Put, Key: "a", Session: 9, Seq: 1}, {Kind: api.Put, Key: "a", Session: -1, Seq: 1}} {
		refuses(t, c, 0, api.ErrText, x)
		refuses(t, c, 0, api.ErrText, x, put("a", "1"))
		refuses(t, c, 0, api.ErrText, put("a", "1"), put("a", "1"), x)
		// Also where there is no room.
		refuses(t, c, 0, api.ErrText, append(slices.Clone(many), x)...)
	}
	// The log has one of eight.
	refuses(t, c, 0, api.ErrFull, make([]api.Command, 8)...)
	refuses(t, c, 0, api.ErrFull, make([]api.Command, 100000)...)
	if told(c) != ahead {
		t.Errorf("P1: an error changes something")
	}
	does(t, c, 0, 2, make([]api.Command, 7)...)
	refuses(t, c, 0, api.ErrFull, put("a", "1"))
	refuses(t, c, 0, api.ErrText, put("", "1"))
	refuses(t, c, 0, api.ErrNone)
	settle(c)
	// What is committed still stands in the log: Compact makes room.
	refuses(t, c, 0, api.ErrFull, put("a", "1"))
	compacts(t, c, 0)
	does(t, c, 0, 9, make([]api.Command, 8)...)
	refuses(t, c, 0, api.ErrFull, put("a", "1"))
	is(t, "P14: Do of node 1", second(c.Do(1, put("a", "1"))), api.ErrLeader)
}

func second[T any](_ T, e api.Errno) api.Errno { return e }

func TestRangeOfANode(t *testing.T) {
	c := led(t, 1, 0)
	does(t, c, 0, 2, put("a", "1"), put("b", "2"), put("c", "3"), put("b", "4"), api.Command{Kind: api.Floor, Rev: 2})
	for _, k := range []struct {
		from, to  string
		rev, most int
		want      []api.Found
		e         api.Errno
	}{
		{"", "", 4, 9, []api.Found{{Key: "a", Value: "1", Rev: 1}, {Key: "b", Value: "4", Rev: 4}, {Key: "c", Value: "3", Rev: 3}}, api.OK},
		{"", "", 3, 9, []api.Found{{Key: "a", Value: "1", Rev: 1}, {Key: "b", Value: "2", Rev: 2}, {Key: "c", Value: "3", Rev: 3}}, api.OK},
		{"b", "c", 4, math.MaxInt, []api.Found{{Key: "b", Value: "4", Rev: 4}}, api.OK},
		{"b", "", 4, 1, []api.Found{{Key: "b", Value: "4", Rev: 4}}, api.OK},
		{"", "", 4, 0, nil, api.OK},
		{"", "", 4, -1, nil, api.ErrArg},
		{"", "", 99, math.MinInt, nil, api.ErrArg},
		{"", "", 1, 9, nil, api.ErrRev},
		{"", "", 5, 9, nil, api.ErrRev},
		{"", "", math.MinInt, 9, nil, api.ErrRev},
		{"", "", math.MaxInt, 9, nil, api.ErrRev},
	} {
		got, e := c.Range(0, k.from, k.to, k.rev, k.most)
		if !slices.Equal(got, k.want) || e != k.e {
			t.Errorf("P19: Range(0, %q, %q, %d, %d) = %+v, %d, want %+v, %d", k.from, k.to, k.rev, k.most, got, e, k.want, k.e)
		}
	}
}

func TestResultsAndBases(t *testing.T) {
	c := led(t, 3, 2)
	does(t, c, 2, 2, put("a", "1"), api.Command{Kind: api.Delete, Key: "z"}, api.Command{Kind: api.Swap, Key: "a", Value: "2", Old: "1"})
	noResult(t, c, 2, 2, 3, 4, 5)
	settle(c)
	timesOut(t, c, 2)
	settle(c)
	want := []api.Result{{OK: true}, {OK: true, Rev: 1}, {Rev: 1}, {OK: true, Rev: 2}}
	for k := range 3 {
		for index, r := range want {
			resultIs(t, c, k, index+1, r)
		}
		noResult(t, c, k, 0, -1, 5, 6, math.MinInt, math.MaxInt)
	}
	compacts(t, c, 2)
	does(t, c, 2, 5, put("b", "1"))
	settle(c)
	noResult(t, c, 2, math.MinInt, 0, 1, 2, 3, 4, 6, math.MaxInt)
	resultIs(t, c, 2, 5, api.Result{OK: true, Rev: 3})
	noResult(t, c, 1, 5)
	resultIs(t, c, 1, 4, want[3])
	// Whoever comes up does again what it learns to be committed.
	crashes(t, c, 1)
	restarts(t, c, 1)
	noResult(t, c, 1, 0, 1, 4, 5)
	timesOut(t, c, 2)
	settle(c)
	resultIs(t, c, 1, 4, want[3])
	resultIs(t, c, 1, 5, api.Result{OK: true, Rev: 3})
}
