package conclave_test

import (
	"slices"
	"testing"

	"conclave/api"
	"conclave/conclave"
)

// spoil writes into all the room of a list.
func spoil(l []api.Entry) {
	l = l[:cap(l)]
	for k := range l {
		l[k] = entry(99, "spoilt", "")
	}
}

func spoilFlight(l []api.Message) {
	for _, m := range l {
		spoil(m.Entries)
	}
	l = l[:cap(l)]
	for k := range l {
		l[k] = api.Message{Kind: 99}
	}
}

// Nobody's list shares room with another one: neither those of one answer nor those of two.
func TestAnswersAreNew(t *testing.T) {
	c := led(t, 5, 0)
	does(t, c, 0, 2, put("a", "1"), put("b", "1"))
	ahead, flight := told(c), c.Flight()
	want := describe(flight[1:])
	spoil(flight[0].Entries)
	if describe(flight[1:]) != want {
		t.Errorf("P2: the messages of one answer share room")
	}
	other := c.Flight()
	want = describe(other)
	spoilFlight(flight)
	if describe(other) != want {
		t.Errorf("P2: two answers of Flight share room")
	}
	log, again := slices.Clone(first(c.Log(0))), first(c.Log(0))
	spoil(first(c.Log(0)))
	if !slices.Equal(again, log) {
		t.Errorf("P2: two answers of Log share room")
	}
	spoil(again)
	settle(c)
	found, again2 := first(c.Range(0, "", "", 2, 9)), first(c.Range(0, "", "", 2, 9))
	for k := range found[:cap(found)] {
		found[:cap(found)][k] = api.Found{Key: "spoilt"}
	}
	if !slices.Equal(again2, []api.Found{{Key: "a", Value: "1", Rev: 1}, {Key: "b", Value: "1", Rev: 2}}) {
		t.Errorf("P2: two answers of Range share room")
	}
	fine := led(t, 5, 0)
	does(t, fine, 0, 2, put("a", "1"), put("b", "1"))
	if told(fine) != ahead {
		t.Errorf("P13: the same calls answer otherwise")
	}
	settle(fine)
	if told(c) != told(fine) {
		t.Errorf("P2: who writes into an answer changes the conclave")
	}
}

func first[T any](x T, _ api.Errno) T { return x }

// The list of commands is a part of a longer one, and is written into behind the call.
func TestDoKeepsNoList(t *testing.T) {
	c := led(t, 3, 0)
	room := []api.Command{put("x", "x"), put("a", "1"), put("b", "2"), put("y", "y")}
	ahead := slices.Clone(room)
	does(t, c, 0, 2, room[1:3]...)
	if !slices.Equal(room, ahead) {
		t.Errorf("P2: Do writes into its list: %+v", room)
	}
	clear(room)
	want := []api.Entry{{Term: 1}, entry(1, "a", "1"), entry(1, "b", "2")}
	logs(t, c, 0, want...)
	settle(c)
	logs(t, c, 1, want...)
	hasDone(t, c, 0, ahead[1:3]...)
}

// What is under way stays as it was, whatever comes of the log that it stood in.
func TestUnderWayNeverChanges(t *testing.T) {
	c := led(t, 3, 0)
	does(t, c, 0, 2, put("a", "1"), put("b", "1"), put("c", "1"))
	// These are sent once more, out of the room in which the log goes on.
	does(t, c, 0, 5, put("d", "1"))
	old := c.Flight()
	want := describe(old)
	still := func(what string) {
		t.Helper()
		if got := c.Flight(); describe(got[:len(old)]) != want {
			t.Errorf("P13: behind %s under way are\n%+v, want\n%s", what, got[:len(old)], want)
		}
	}
	does(t, c, 0, 6, put("d", "2"))
	still("a Do")
	// Node 1 leads now: node 0 has its log cut off at 2, where the messages have begun.
	timesOut(t, c, 1)
	deliverAll(t, c, len(old), api.Vote)
	deliverAll(t, c, len(old), api.Voted)
	views(t, c, 1, api.Leader, 2, 1, 0, 2, 1)
	does(t, c, 1, 3, put("e", "2"), put("f", "2"), put("g", "2"))
	for range 4 {
		deliverAll(t, c, len(old), api.Append)
		deliverAll(t, c, len(old), api.Appended)
	}
	logs(t, c, 0, api.Entry{Term: 1}, api.Entry{Term: 2}, entry(2, "e", "2"), entry(2, "f", "2"), entry(2, "g", "2"))
	still("another Leader's entries")
	compacts(t, c, 0)
	compacts(t, c, 1)
	does(t, c, 1, 6, put("h", "2"))
	deliverAll(t, c, len(old), api.Append)
	still("a Compact")
	crashes(t, c, 0)
	restarts(t, c, 0)
	still("a Restart")
}

// deliverAll delivers all of a kind that are under way behind the first ones.
func deliverAll(t *testing.T, c *conclave.Conclave, from, kind int) {
	t.Helper()
	for {
		k := slices.IndexFunc(c.Flight()[from:], func(m api.Message) bool { return m.Kind == kind })
		if k < 0 {
			return
		}
		delivers(t, c, from+k)
	}
}
