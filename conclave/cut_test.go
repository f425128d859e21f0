package conclave

import (
	"testing"

	"conclave/api"
)

// Entries that are under way stand in the log's own room, and do not reach into the room behind them.
func TestCutsOfTheLog(t *testing.T) {
	c := laid(t, middle())
	c.Timeout(0)
	votesFor(t, c)
	c.Do(0, api.Command{Kind: api.Put, Key: "a"})
	n := c.nodes[0]
	if cap(n.kept.Log) == len(n.kept.Log) {
		c.Do(0, api.Command{Kind: api.Put, Key: "b"})
	}
	for _, m := range c.flight {
		if m.Kind != api.Append || len(m.Entries) == 0 {
			continue
		}
		if cap(m.Entries) != len(m.Entries) {
			t.Errorf("P2: entries under way reach into the log's room: %d of %d", len(m.Entries), cap(m.Entries))
		}
	}
	last := c.flight[len(c.flight)-1]
	if len(last.Entries) == 0 || &last.Entries[0] != &n.kept.Log[last.Index-n.kept.Base] {
		t.Errorf("P16: entries under way do not stand in the log's room")
	}
}

// A log that is cut off goes on in new room.
func TestLogThatIsCutOff(t *testing.T) {
	for place := range 3 {
		c := laid(t, middle())
		n := c.nodes[0]
		old := n.kept.Log
		gets(t, c, api.Message{Kind: api.Append, From: 1, Term: 5, Index: 3 + place, Last: []int{2, 2, 4}[place], Entries: nothing(9)})
		if len(n.kept.Log) != place+1 || n.kept.Log[place].Term != 9 {
			t.Errorf("P16: the log is %+v", n.kept.Log)
		}
		if &old[0] == &n.kept.Log[0] || old[place].Term == 9 {
			t.Errorf("P2: a log that was cut off goes on in its old room")
		}
	}
}

// No call shows it: what is kept is no more than is needed.
func TestNothingMoreIsKept(t *testing.T) {
	c := leading(t)
	n := c.nodes[0]
	c.Do(0, api.Command{Kind: api.Put, Key: "a"})
	if n.now.items != nil || n.now.sent != nil {
		t.Errorf("P12: behind a call a node keeps %+v", n.now)
	}
	gets(t, c, api.Message{Kind: api.Appended, From: 1, Term: 6, OK: true, Match: 8})
	c.Crash(0, 0)
	if n.journal != nil || n.store != nil || n.kept.Log != nil || n.kept.Data != "" || n.results != nil || n.votes != nil || n.others != nil || n.pieces.data != nil {
		t.Errorf("P12: a node that is down keeps %+v", n)
	}
	c = laid(t, middle())
	n = c.nodes[0]
	data := saveOf(1)
	gets(t, c, piece(data[:9], 0, false))
	if len(n.pieces.data) != 9 {
		t.Errorf("P17: of a base there are %d bytes, want 9", len(n.pieces.data))
	}
	gets(t, c, piece(data[9:], 9, true))
	if n.pieces.data != nil {
		t.Errorf("P17: a node that has got a base keeps its pieces")
	}
}

// One Rewrite is all that a new disk has seen.
func TestNewDisks(t *testing.T) {
	c, _ := New(api.Config{Nodes: 2, Entries: 8, Batch: 2, Piece: 40}, "")
	for _, n := range c.nodes {
		zero, _ := n.disk.File(0)
		one, _ := n.disk.File(1)
		// By hand: Generation 1 with all else zero; Generation 2, Many 1, 65 bytes of an empty store, and a Hard: Term 0, Vote -1.
		if len(zero) != 23 || zero[4:7] != "\x00\x00\x01" {
			t.Errorf("P12: file 0 of a new node is %q", zero)
		}
		if len(one) != 23+65+12 || one[4:7] != "\x00\x00\x02" || one[13:16] != "\x00\x00\x01" || one[16:19] != "\x00\x00\x41" || one[88:96] != "\x00\x00\x09\x02\x00\x00\x00\x00" {
			t.Errorf("P12: file 1 of a new node is %q", one)
		}
	}
}
