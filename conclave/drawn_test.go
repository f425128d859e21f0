package conclave_test

import (
	"fmt"
	"math/rand"
	"testing"

	"conclave/api"
	"conclave/conclave"
)

func drawnConfig(r *rand.Rand) api.Config {
	pick := func(l ...int) int { return l[r.Intn(len(l))] }
	return api.Config{Nodes: pick(1, 2, 3, 3, 3, 4, 5), Entries: pick(1, 3, 8, 16, 32), Batch: pick(1, 2, 3, 4), Piece: pick(1, 20, 32, 64, 64)}
}

func drawnBackup(t *testing.T, r *rand.Rand) string {
	if r.Intn(3) > 0 {
		return ""
	}
	return savedBy(t, put("a", "0"), put("b", "0"), api.Command{Kind: api.Delete, Key: "a", Session: 2, Seq: 4}, api.Command{Kind: api.Floor, Rev: 1 + r.Intn(3)})
}

func drawnCommand(r *rand.Rand) api.Command {
	key, value := "abc"[r.Intn(3):][:1], "xyz"[r.Intn(3):][:1]
	var c api.Command
	switch r.Intn(8) {
	case 0:
		return c
	case 1:
		c = api.Command{Kind: api.Delete, Key: key}
	case 2:
		c = api.Command{Kind: api.Swap, Key: key, Value: value, Old: "xyz"[r.Intn(3):][:1]}
	case 3:
		c = api.Command{Kind: api.Floor, Rev: r.Intn(20)}
	default:
		c = put(key, value)
	}
	if r.Intn(2) == 0 {
		c.Session, c.Seq = 1+r.Intn(api.MaxSessions), 1+r.Intn(9)
	}
	return c
}

func drawnCommands(r *rand.Rand) []api.Command {
	var l []api.Command
	for range r.Intn(4) {
		l = append(l, drawnCommand(r))
	}
	return l
}

// weights: how often each call is drawn, in the order of drawnCall.
type weights [10]int

func drawnWeights(r *rand.Rand) weights {
	w := weights{8, 20, 6, 8, 24, 8, 3, 1, 16, 20}
	for _, k := range []int{r.Intn(len(w)), r.Intn(len(w))} {
		w[k] = w[k] * (1 + 3*r.Intn(5)) / 2
	}
	return w
}

func (w weights) draw(r *rand.Rand) int {
	sum := 0
	for _, n := range w {
		sum += n
	}
	at := r.Intn(sum)
	for k, n := range w {
		if at < n {
			return k
		}
		at -= n
	}
	return 0
}

// drawnCall calls the same of both, and tells which call that was, if they answer alike.
func drawnCall(t *testing.T, r *rand.Rand, w weights, c *conclave.Conclave, p *plain) string {
	i := r.Intn(p.config.Nodes)
	k := r.Intn(len(p.flight)+1) - r.Intn(12)/11
	keep := r.Intn(300) - 3
	switch w.draw(r) {
	case 0:
		return alike(t, fmt.Sprintf("Timeout(%d)", i), c.Timeout(i), p.timeout(i))
	case 1:
		l := drawnCommands(r)
		got, e := c.Do(i, l...)
		want, f := p.do(i, l)
		return alike(t, fmt.Sprintf("Do(%d, %+v)", i, l), []any{got, e}, []any{want, f})
	case 2:
		_, e := p.gone(k)
		return alike(t, fmt.Sprintf("Drop(%d)", k), c.Drop(k), e)
	case 3:
		return alike(t, fmt.Sprintf("Double(%d)", k), c.Double(k), p.double(k))
	case 4:
		return alike(t, fmt.Sprintf("Deliver(%d)", k), c.Deliver(k), p.deliver(k))
	case 5:
		return alike(t, fmt.Sprintf("Compact(%d)", i), c.Compact(i), p.compact(i))
	case 6:
		acts := r.Intn(7) - 1
		return alike(t, fmt.Sprintf("Break(%d, %d, %d)", i, acts, keep), c.Break(i, acts, keep), p.nodes[i].disk.Break(acts, keep))
	case 7:
		return alike(t, fmt.Sprintf("Crash(%d, %d)", i, keep), c.Crash(i, keep), p.crash(i, keep))
	case 8:
		return alike(t, fmt.Sprintf("Restart(%d)", i), c.Restart(i), p.restart(i))
	}
	c.Round()
	p.round()
	return "Round()"
}

func alike(t *testing.T, what string, got, want any) string {
	t.Helper()
	if !same(got, want) {
		t.Errorf("%s = %+v, want %+v", what, got, want)
	}
	return what
}

// allAlike holds all that can be asked for against each other.
func allAlike(t *testing.T, c *conclave.Conclave, p *plain) {
	t.Helper()
	alike(t, "P13: Flight()", c.Flight(), p.flight)
	for k, n := range p.nodes {
		got, e := c.View(k)
		want, f := n.view()
		alike(t, fmt.Sprintf("P19: View(%d)", k), []any{got, e}, []any{want, f})
		if e != api.OK || f != api.OK {
			continue
		}
		log, _ := c.Log(k)
		alike(t, fmt.Sprintf("P19: Log(%d)", k), log, n.state().Log)
		s, results := n.storeAndResults()
		alike(t, fmt.Sprintf("P19: Backup(%d)", k), backup(t, c, k), s.Save())
		for _, x := range indexes(results, want) {
			if want, ok := results[x]; ok {
				resultIs(t, c, k, x, want)
			} else {
				noResult(t, c, k, x)
			}
		}
		rev, floor := s.Revs()
		for _, x := range []int{floor - 1, floor, rev, rev + 1} {
			got, e := c.Range(k, "", "", x, 9)
			want, f := s.Range("", "", x, 9)
			alike(t, fmt.Sprintf("P19: Range(%d) at %d", k, x), []any{got, e}, []any{want, f})
		}
	}
}

func TestDrawnCalls(t *testing.T) {
	r := rand.New(rand.NewSource(12))
	seen := map[string]int{}
	for range 300 {
		config, b := drawnConfig(r), drawnBackup(t, r)
		c, p := begunOf(t, config, b), newPlain(config, b)
		w := drawnWeights(r)
		var calls []string
		for range 250 {
			calls = append(calls, drawnCall(t, r, w, c, p))
			allAlike(t, c, p)
			if t.Failed() {
				t.Fatalf("%+v, backup %q: behind the calls %v", config, b, calls)
			}
			p.note(seen)
		}
	}
	for _, what := range []string{"Vote", "Voted", "Voted OK", "Append", "Appended", "Appended OK", "Piece", "Pieced", "Pieced OK", "log cut off", "down", "Leader", "committed", "some pieces"} {
		if seen[what] < 20 {
			t.Errorf("the drawn calls come upon too little of this: %s: %d times", what, seen[what])
		}
	}
	t.Logf("%v", seen)
}
