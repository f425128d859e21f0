package conclave_test

import (
	"math"
	"strings"
	"testing"

	"conclave/api"
	"conclave/conclave"
	"conclave/store"
)

var outside = []int{-1, 0, math.MinInt, math.MaxInt, 256, 1 << 32, 1<<32 + 1}

func TestNewSettings(t *testing.T) {
	for _, c := range []api.Config{{Nodes: 1, Entries: 1, Batch: 1, Piece: 1}, {Nodes: 5, Entries: 32, Batch: 4, Piece: 64}, {Nodes: 2, Entries: 32, Batch: 1, Piece: 64}, {Nodes: 4, Entries: 1, Batch: 4, Piece: 1}} {
		made := begunOf(t, c, "")
		for k := range c.Nodes {
			views(t, made, k, api.Follower, 0, -1, 0, 0, 0)
			logs(t, made, k)
			hasDone(t, made, k)
			noResult(t, made, k, 0, 1, -1)
		}
		_, e := made.View(c.Nodes)
		is(t, "P1: View behind the last node", e, api.ErrNode)
		underWay(t, made)
	}
	good := api.Config{Nodes: 3, Entries: 8, Batch: 2, Piece: 32}
	for k, most := range []int{api.MaxNodes, api.MaxEntries, api.MaxBatch, api.MaxPiece} {
		for _, n := range append([]int{most + 1}, outside...) {
			c := good
			*[]*int{&c.Nodes, &c.Entries, &c.Batch, &c.Piece}[k] = n
			for _, b := range []string{"", "x", savedBy(t), strings.Repeat("x", api.MaxNumber+1)} {
				if made, e := conclave.New(c, b); made != nil || e != api.ErrConfig {
					t.Errorf("P12: New(%+v) = %v, %d, want ErrConfig alone", c, made, e)
				}
			}
		}
	}
}

func TestNewOfAWrongBackup(t *testing.T) {
	right := savedBy(t, put("a", "1"))
	c := api.Config{Nodes: 3, Entries: 8, Batch: 2, Piece: 32}
	for _, b := range []string{"x", right[1:], right[:len(right)-1], right + "\x00", strings.Repeat("\x00", 64), strings.Repeat("\x00", api.MaxNumber+1), strings.Repeat("\xff", api.MaxNumber)} {
		if made, e := conclave.New(c, b); made != nil || e != api.ErrBytes {
			t.Errorf("P12: New of a wrong backup of %d bytes = %v, %d, want ErrBytes alone", len(b), made, e)
		}
	}
}

// savedOf is Save of a store, of just so many bytes.
func savedOf(t *testing.T, size int) string {
	t.Helper()
	s := store.New()
	left := size - len(s.Save())
	for n := 0; left > 0; n++ {
		// A version has six bytes beside its key and its value.
		texts := min(left-6, 16)
		if left-6-texts > 0 && left-6-texts < 7 {
			texts -= 7
		}
		key := string([]byte{'k', byte(n >> 16), byte(n >> 8), byte(n)})[:min(4, texts)]
		value := strings.Repeat("v", min(8, texts-len(key)))
		key += strings.Repeat("-", texts-len(key)-len(value))
		if _, e := s.Do(put(key, value)); e != api.OK {
			t.Fatalf("P6: Do = %d", e)
		}
		left -= 6 + texts
	}
	text := s.Save()
	if len(text) != size {
		t.Fatalf("the backup has %d bytes, want %d", len(text), size)
	}
	return text
}

func TestNewOfAGreatBackup(t *testing.T) {
	c := api.Config{Nodes: 5, Entries: 8, Batch: 2, Piece: 32}
	for _, size := range []int{api.MaxNumber - 1, api.MaxNumber} {
		b := savedOf(t, size)
		made := begunOf(t, c, b)
		for k := range 5 {
			if backup(t, made, k) != b {
				t.Errorf("P12: of a backup of %d bytes node %d has another store", size, k)
			}
		}
	}
	for _, size := range []int{api.MaxNumber + 1, api.MaxNumber + 2, api.MaxNumber + 5000} {
		b := savedOf(t, size)
		if _, e := store.Load(b); e != api.OK {
			t.Fatalf("P8: Load = %d", e)
		}
		if made, e := conclave.New(c, b); made != nil || e != api.ErrFull {
			t.Errorf("P12: New of a backup of %d bytes = %v, %d, want ErrFull alone", size, made, e)
		}
	}
}

// A new conclave out of a backup goes on where that ended: with its revisions, its floor and its sessions.
func TestNewOfABackup(t *testing.T) {
	commands := []api.Command{put("a", "1"), put("a", "2"), {Kind: api.Put, Key: "b", Value: "1", Session: 3, Seq: 7}, {Kind: api.Delete, Key: "a"}, {Kind: api.Floor, Rev: 2}}
	old := led(t, 3, 1)
	does(t, old, 1, 2, commands...)
	settle(old)
	b := backup(t, old, 1)
	c := begunOf(t, api.Config{Nodes: 2, Entries: 8, Batch: 2, Piece: 32}, b)
	for k := range 2 {
		views(t, c, k, api.Follower, 0, -1, 0, 0, 0)
		logs(t, c, k)
		hasDone(t, c, k, commands...)
		for rev, want := range map[int][]api.Found{2: {{Key: "a", Value: "2", Rev: 2}}, 3: {{Key: "a", Value: "2", Rev: 2}, {Key: "b", Value: "1", Rev: 3}}, 4: {{Key: "b", Value: "1", Rev: 3}}} {
			if got, e := c.Range(k, "", "", rev, 9); e != api.OK || !same(got, want) {
				t.Errorf("P12: Range(%d) at %d = %+v, %d, want %+v", k, rev, got, e, want)
			}
		}
		_, e := c.Range(k, "", "", 1, 9)
		is(t, "P19: Range below the floor", e, api.ErrRev)
	}
	leads(t, c, 0)
	does(t, c, 0, 2, api.Command{Kind: api.Put, Key: "b", Value: "9", Session: 3, Seq: 7}, api.Command{Kind: api.Put, Key: "b", Value: "9", Session: 3, Seq: 6}, put("c", "1"))
	settle(c)
	resultIs(t, c, 0, 2, api.Result{OK: true, Rev: 3})
	resultIs(t, c, 0, 3, api.Result{Stale: true, Rev: 4})
	resultIs(t, c, 0, 4, api.Result{OK: true, Rev: 5})
	// A node comes up with what the backup had, and does the rest again.
	crashes(t, c, 1)
	restarts(t, c, 1)
	hasDone(t, c, 1, commands...)
	timesOut(t, c, 0)
	settle(c)
	if backup(t, c, 1) != backup(t, c, 0) {
		t.Errorf("P20: two nodes have other stores")
	}
	// The old one knows nothing of that.
	if backup(t, old, 1) != b {
		t.Errorf("P2: a conclave has changed by another one")
	}
}

func TestConclavesKnowNothingOfOneAnother(t *testing.T) {
	a, b := begun(t, 3), begun(t, 3)
	breaks(t, a, 1, 1, 0)
	leads(t, b, 1)
	does(t, b, 1, 2, put("a", "1"))
	crashes(t, b, 0)
	underWay(t, a)
	for k := range 3 {
		views(t, a, k, api.Follower, 0, -1, 0, 0, 0)
		hasDone(t, a, k)
	}
	timesOut(t, a, 0)
	drops(t, a, 1)
	kinds(t, b, api.Append, 1, 0, api.Append, 1, 2)
	settle(b)
	views(t, b, 1, api.Leader, 1, 1, 0, 2, 2)
	views(t, a, 0, api.Candidate, 1, 0, 0, 0, 0)
	a.Round()
	isDown(t, a, 1)
	views(t, b, 1, api.Leader, 1, 1, 0, 2, 2)
}
