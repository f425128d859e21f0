package conclave_test

import (
	"fmt"
	"math/rand"
	"strconv"
	"testing"

	"conclave/api"
	"conclave/conclave"
)

// What follows, whatever is lost, and whoever crashes (P20).

// witness remembers all that it has seen of a conclave.
type witness struct {
	nodes   int
	leaders map[int]int         // by terms
	done    map[int]api.Entry   // what was committed, by indexes
	since   map[int]int         // in which term that was seen first
	results map[int]api.Result  // by indexes
	stores  map[int]string      // Save, by how much is committed
	asked   map[api.Command]int // commands of sessions: in which revision they were done
}

func newWitness(nodes int) *witness {
	return &witness{nodes, map[int]int{}, map[int]api.Entry{}, map[int]int{}, map[int]api.Result{}, map[int]string{}, map[api.Command]int{}}
}

func (w *witness) look(t *testing.T, c *conclave.Conclave) {
	t.Helper()
	for k := range w.nodes {
		v, e := c.View(k)
		if e != api.OK {
			continue
		}
		log, _ := c.Log(k)
		if v.Commit < v.Base || v.Commit > v.Last || v.Last != v.Base+len(log) {
			t.Errorf("P12: View(%d) = %+v, with %d entries", k, v, len(log))
		}
		w.lookAtStore(t, c, k, v)
		w.lookAtDone(t, c, k, v, log)
		if v.Role == api.Leader {
			w.lookAtLeader(t, k, v, log)
		}
	}
}

// lookAtStore: nodes that have committed as much have the same store.
func (w *witness) lookAtStore(t *testing.T, c *conclave.Conclave, k int, v api.View) {
	t.Helper()
	b := backup(t, c, k)
	if old, ok := w.stores[v.Commit]; ok && old != b {
		t.Errorf("P20: node %d has committed %d, and its store is %q, where another one's is %q", k, v.Commit, b, old)
	}
	w.stores[v.Commit] = b
}

// lookAtDone: what is committed at an index is the same everywhere, and comes to the same; a command of a session is done once.
func (w *witness) lookAtDone(t *testing.T, c *conclave.Conclave, k int, v api.View, log []api.Entry) {
	t.Helper()
	for index := v.Base + 1; index <= v.Commit; index++ {
		x := log[index-v.Base-1]
		r, _ := c.Result(k, index)
		if old, ok := w.done[index]; ok && (old != x || w.results[index] != r) {
			t.Errorf("P20: node %d has committed %+v at %d, with %+v; another one %+v, with %+v", k, x, index, r, old, w.results[index])
		}
		if _, ok := w.since[index]; !ok {
			w.since[index] = v.Term
		}
		w.done[index], w.results[index] = x, r
		if x.Command.Session == 0 || r.Stale {
			continue
		}
		if rev, ok := w.asked[x.Command]; ok && rev != r.Rev {
			t.Errorf("P20: the command %+v was done in the revision %d, and again in %d", x.Command, rev, r.Rev)
		}
		w.asked[x.Command] = r.Rev
	}
}

// lookAtLeader: in each term there is one at most, and it has all that was committed in lower ones.
func (w *witness) lookAtLeader(t *testing.T, k int, v api.View, log []api.Entry) {
	t.Helper()
	if old, ok := w.leaders[v.Term]; ok && old != k {
		t.Errorf("P20: the nodes %d and %d lead in the term %d", old, k, v.Term)
	}
	w.leaders[v.Term] = k
	for index, term := range w.since {
		if index <= v.Base || term >= v.Term {
			continue
		}
		if index > v.Last || log[index-v.Base-1] != w.done[index] {
			t.Errorf("P20: node %d leads in the term %d without what was committed at %d", k, v.Term, index)
		}
	}
}

// asker is a session: it asks for its commands by rising Seqs, and for the last one again and again.
type asker struct {
	session, seq int
}

func (a *asker) command(r *rand.Rand) api.Command {
	if r.Intn(3) == 0 || a.seq == 0 {
		a.seq++
	}
	// The value tells the command: two of them are never alike.
	return api.Command{Kind: api.Put, Key: "s" + strconv.Itoa(a.session), Value: strconv.Itoa(a.seq), Session: a.session, Seq: a.seq}
}

// trouble is one call of many; the more calm, the less goes wrong.
func trouble(r *rand.Rand, c *conclave.Conclave, nodes, calm int, askers []asker) {
	i, k := r.Intn(nodes), r.Intn(12)
	if r.Intn(calm) > 0 {
		c.Do(i, askers[r.Intn(len(askers))].command(r))
		c.Round()
		return
	}
	switch r.Intn(20) {
	case 0:
		c.Timeout(i)
	case 1, 2, 3:
		c.Do(i, askers[r.Intn(len(askers))].command(r))
	case 4:
		c.Do(i, api.Command{}, drawnCommand(r))
	case 5, 6:
		c.Drop(k)
	case 7, 8:
		c.Double(k)
	case 9, 10, 11, 12:
		c.Deliver(k)
	case 13:
		c.Compact(i)
	case 14:
		c.Break(i, 1+r.Intn(6), r.Intn(200)-9)
	case 15:
		if r.Intn(3) == 0 {
			c.Crash(i, r.Intn(9))
		}
	case 16, 17:
		c.Restart(i)
	default:
		c.Round()
	}
}

func TestWhatFollows(t *testing.T) {
	r := rand.New(rand.NewSource(20))
	committed, terms, again := 0, 0, 0
	for range 400 {
		nodes := 2 + r.Intn(4)
		c := begunOf(t, api.Config{Nodes: nodes, Entries: 12, Batch: 1 + r.Intn(4), Piece: 24 + r.Intn(41)}, "")
		w := newWitness(nodes)
		askers := []asker{{session: 1}, {session: 2}, {session: 8}}
		calm := 1 + r.Intn(4)
		for range 300 {
			trouble(r, c, nodes, calm, askers)
			w.look(t, c)
			if t.Failed() {
				return
			}
		}
		heal(t, r, c, nodes)
		w.look(t, c)
		w.lookAtRevisions(t, c)
		committed, terms = max(committed, len(w.done)), max(terms, len(w.leaders))
		for index, x := range w.done {
			if before, ok := w.done[index-1]; ok && before.Command == x.Command && x.Command.Session > 0 {
				again++
			}
		}
	}
	t.Logf("at most %d committed, %d Leaders; %d commands twice", committed, terms, again)
	if committed < 40 || terms < 6 || again < 100 {
		t.Errorf("the drawn calls come to too little: %d committed, %d Leaders, %d commands twice", committed, terms, again)
	}
}

// heal ends all trouble: when all are up, and nothing is lost, a Leader is found soon, and all come to have the same.
func heal(t *testing.T, r *rand.Rand, c *conclave.Conclave, nodes int) {
	t.Helper()
	for k := range nodes {
		c.Break(k, 0, 0)
		c.Restart(k)
	}
	settle(c)
	leader := -1
	for range 40 {
		k := r.Intn(nodes)
		c.Timeout(k)
		settle(c)
		if v, _ := c.View(k); v.Role == api.Leader {
			leader = k
			break
		}
	}
	if leader < 0 {
		t.Fatalf("P15: nobody leads, where all are up")
	}
	for range 2 {
		c.Timeout(leader)
		settle(c)
	}
	v, _ := c.View(leader)
	for k := range nodes {
		if u, e := c.View(k); e != api.OK || u.Commit != v.Last || u.Last != v.Last || u.Term != v.Term {
			t.Errorf("P16: the Leader is %+v, node %d is %+v, %d", v, k, u, e)
		}
		if backup(t, c, k) != backup(t, c, leader) {
			t.Errorf("P20: nodes %d and %d have other stores", k, leader)
		}
	}
}

// lookAtRevisions: of all revisions that a store still has, no value of a session's command has two.
func (w *witness) lookAtRevisions(t *testing.T, c *conclave.Conclave) {
	t.Helper()
	revs := map[string]int{}
	s := loaded(t, backup(t, c, 0))
	rev, floor := s.Revs()
	for at := floor; at <= rev; at++ {
		l, e := c.Range(0, "s", "", at, 99)
		if e != api.OK {
			t.Errorf("P19: Range at %d = %d", at, e)
		}
		for _, f := range l {
			which := fmt.Sprint(f.Key, "=", f.Value)
			if old, ok := revs[which]; ok && old != f.Rev {
				t.Errorf("P20: %s was done in the revision %d, and again in %d", which, old, f.Rev)
			}
			revs[which] = f.Rev
		}
	}
}

// A session asks the next Leader for what it has not heard of, while the one ahead of it has done it.
func TestACommandOfASessionIsDoneOnce(t *testing.T) {
	c := led(t, 3, 0)
	once := api.Command{Kind: api.Put, Key: "a", Value: "1", Session: 1, Seq: 1}
	does(t, c, 0, 2, once, once)
	settle(c)
	resultIs(t, c, 0, 2, api.Result{OK: true, Rev: 1})
	resultIs(t, c, 0, 3, api.Result{OK: true, Rev: 1})
	crashes(t, c, 0)
	leads(t, c, 1)
	does(t, c, 1, 5, put("a", "2"), once)
	settle(c)
	resultIs(t, c, 1, 6, api.Result{OK: true, Rev: 1})
	compacts(t, c, 1)
	crashes(t, c, 1)
	restarts(t, c, 1)
	leads(t, c, 1)
	does(t, c, 1, 8, once, api.Command{Kind: api.Put, Key: "a", Value: "3", Session: 1, Seq: 2}, once)
	settle(c)
	resultIs(t, c, 1, 8, api.Result{OK: true, Rev: 1})
	resultIs(t, c, 1, 9, api.Result{OK: true, Rev: 3})
	resultIs(t, c, 1, 10, api.Result{Stale: true, Rev: 3})
	// Also who has got the store in pieces knows what was done.
	restarts(t, c, 0)
	compacts(t, c, 1)
	timesOut(t, c, 1)
	settle(c)
	if v, _ := c.View(0); v.Base != 10 {
		t.Errorf("P17: node 0 has not got the base: %+v", v)
	}
	leads(t, c, 0)
	does(t, c, 0, 12, once)
	settle(c)
	resultIs(t, c, 0, 12, api.Result{Stale: true, Rev: 3})
	if l, e := c.Range(0, "", "", 3, 9); e != api.OK || !same(l, []api.Found{{Key: "a", Value: "3", Rev: 3}}) {
		t.Errorf("P19: Range = %+v, %d", l, e)
	}
}
