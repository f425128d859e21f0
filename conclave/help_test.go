package conclave_test

import (
	"fmt"
	"slices"
	"testing"

	"conclave/api"
	"conclave/conclave"
	"conclave/store"
)

const longest = "12345678"

func put(key, value string) api.Command {
	return api.Command{Kind: api.Put, Key: key, Value: value}
}

func entry(term int, key, value string) api.Entry {
	return api.Entry{Term: term, Command: put(key, value)}
}

func begunOf(t *testing.T, c api.Config, backup string) *conclave.Conclave {
	t.Helper()
	made, e := conclave.New(c, backup)
	if made == nil || e != api.OK {
		t.Fatalf("P12: New(%+v) = %v, %d", c, made, e)
	}
	return made
}

func begun(t *testing.T, nodes int) *conclave.Conclave {
	t.Helper()
	return begunOf(t, api.Config{Nodes: nodes, Entries: 8, Batch: 2, Piece: 32}, "")
}

func is(t *testing.T, what string, e, want api.Errno) {
	t.Helper()
	if e != want {
		t.Errorf("%s = %d, want %d", what, e, want)
	}
}

// views: what it is, its term, its vote, its base, its last index, up to where it has committed.
func views(t *testing.T, c *conclave.Conclave, node int, want ...int) {
	t.Helper()
	v, e := c.View(node)
	if got := []int{v.Role, v.Term, v.Vote, v.Base, v.Last, v.Commit}; e != api.OK || !v.Up || !slices.Equal(got, want) {
		t.Errorf("P19: View(%d) = %+v, %d, want %v", node, v, e, want)
	}
}

func isDown(t *testing.T, c *conclave.Conclave, node int) {
	t.Helper()
	if v, e := c.View(node); v != (api.View{}) || e != api.ErrDown {
		t.Errorf("P19: View(%d) of a node that is down = %+v, %d", node, v, e)
	}
}

func timesOut(t *testing.T, c *conclave.Conclave, node int) {
	t.Helper()
	is(t, fmt.Sprintf("P14: Timeout(%d)", node), c.Timeout(node), api.OK)
}

func does(t *testing.T, c *conclave.Conclave, node, want int, commands ...api.Command) {
	t.Helper()
	if n, e := c.Do(node, commands...); n != want || e != api.OK {
		t.Errorf("P14: Do(%d, %v) = %d, %d, want %d", node, commands, n, e, want)
	}
}

func refuses(t *testing.T, c *conclave.Conclave, node int, want api.Errno, commands ...api.Command) {
	t.Helper()
	if n, e := c.Do(node, commands...); n != 0 || e != want {
		t.Errorf("P14: Do(%d, %d commands) = %d, %d, want 0, %d", node, len(commands), n, e, want)
	}
}

func compacts(t *testing.T, c *conclave.Conclave, node int) {
	t.Helper()
	is(t, fmt.Sprintf("P17: Compact(%d)", node), c.Compact(node), api.OK)
}

func crashes(t *testing.T, c *conclave.Conclave, node int) {
	t.Helper()
	is(t, fmt.Sprintf("P18: Crash(%d)", node), c.Crash(node, 0), api.OK)
}

func restarts(t *testing.T, c *conclave.Conclave, node int) {
	t.Helper()
	is(t, fmt.Sprintf("P18: Restart(%d)", node), c.Restart(node), api.OK)
}

func breaks(t *testing.T, c *conclave.Conclave, node, k, keep int) {
	t.Helper()
	is(t, fmt.Sprintf("P18: Break(%d, %d, %d)", node, k, keep), c.Break(node, k, keep), api.OK)
}

func delivers(t *testing.T, c *conclave.Conclave, k int) {
	t.Helper()
	is(t, fmt.Sprintf("P13: Deliver(%d)", k), c.Deliver(k), api.OK)
}

func drops(t *testing.T, c *conclave.Conclave, k int) {
	t.Helper()
	is(t, fmt.Sprintf("P13: Drop(%d)", k), c.Drop(k), api.OK)
}

func dropAll(t *testing.T, c *conclave.Conclave) {
	t.Helper()
	for range c.Flight() {
		drops(t, c, 0)
	}
}

func doubles(t *testing.T, c *conclave.Conclave, k int) {
	t.Helper()
	is(t, fmt.Sprintf("P13: Double(%d)", k), c.Double(k), api.OK)
}

func rounds(c *conclave.Conclave, n int) {
	for range n {
		c.Round()
	}
}

// same holds messages against each other; told like this a list that is nil is one without elements.
func same(a, b any) bool { return fmt.Sprintf("%+v", a) == fmt.Sprintf("%+v", b) }

func underWay(t *testing.T, c *conclave.Conclave, want ...api.Message) {
	t.Helper()
	if got := c.Flight(); !same(got, want) {
		t.Errorf("P13: under way are\n%+v, want\n%+v", got, want)
	}
}

// kinds: of all that is under way: kind, from, to.
func kinds(t *testing.T, c *conclave.Conclave, want ...int) {
	t.Helper()
	var got []int
	for _, m := range c.Flight() {
		got = append(got, m.Kind, m.From, m.To)
	}
	if !slices.Equal(got, want) {
		t.Errorf("P13: under way are %v, want %v", got, want)
	}
}

func logs(t *testing.T, c *conclave.Conclave, node int, want ...api.Entry) {
	t.Helper()
	if got, e := c.Log(node); e != api.OK || !slices.Equal(got, want) {
		t.Errorf("P19: Log(%d) = %+v, %d, want %+v", node, got, e, want)
	}
}

// backup is Save of a node's store.
func backup(t *testing.T, c *conclave.Conclave, node int) string {
	t.Helper()
	b, e := c.Backup(node)
	if e != api.OK {
		t.Errorf("P19: Backup(%d) = %d", node, e)
	}
	return b
}

func loaded(t *testing.T, backup string) *store.Store {
	t.Helper()
	s, e := store.Load(backup)
	if e != api.OK {
		t.Fatalf("P8: Load = %d", e)
	}
	return s
}

// savedBy is Save of a store that has done these commands.
func savedBy(t *testing.T, commands ...api.Command) string {
	t.Helper()
	s := store.New()
	if _, e := s.Do(commands...); e != api.OK {
		t.Fatalf("P6: Do = %d", e)
	}
	return s.Save()
}

func hasDone(t *testing.T, c *conclave.Conclave, node int, commands ...api.Command) {
	t.Helper()
	if got, want := backup(t, c, node), savedBy(t, commands...); got != want {
		t.Errorf("P19: Backup(%d) = %q, want %q", node, got, want)
	}
}

func resultIs(t *testing.T, c *conclave.Conclave, node, index int, want api.Result) {
	t.Helper()
	if r, e := c.Result(node, index); r != want || e != api.OK {
		t.Errorf("P19: Result(%d, %d) = %+v, %d, want %+v", node, index, r, e, want)
	}
}

func noResult(t *testing.T, c *conclave.Conclave, node int, indexes ...int) {
	t.Helper()
	for _, k := range indexes {
		if r, e := c.Result(node, k); r != (api.Result{}) || e != api.ErrNone {
			t.Errorf("P19: Result(%d, %d) = %+v, %d, want ErrNone alone", node, k, r, e)
		}
	}
}

// led is a conclave of which a node leads in the term 1, and all have its first entry; nothing is under way.
func led(t *testing.T, nodes, leader int) *conclave.Conclave {
	t.Helper()
	c := begun(t, nodes)
	leads(t, c, leader)
	return c
}

func leads(t *testing.T, c *conclave.Conclave, node int) {
	t.Helper()
	timesOut(t, c, node)
	settle(c)
	timesOut(t, c, node)
	settle(c)
	if v, e := c.View(node); e != api.OK || v.Role != api.Leader || v.Commit != v.Last {
		t.Fatalf("P15: the node %d does not lead: %+v, %d", node, v, e)
	}
}

// settle lets all come that is under way.
func settle(c *conclave.Conclave) {
	for len(c.Flight()) > 0 {
		c.Round()
	}
}

func describe(l ...any) string { return fmt.Sprintf("%+v", l) }
