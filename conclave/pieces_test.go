package conclave

import (
	"fmt"
	"strings"
	"testing"

	"conclave/api"
	"conclave/store"
)

// saveOf is Save of a store that has done so many Puts.
func saveOf(many int) string {
	s := store.New()
	for k := range many {
		s.Do(api.Command{Kind: api.Put, Key: string(rune('a' + k)), Value: "12345678"})
	}
	return s.Save()
}

// piece is a Piece of the base 5 of the term 4, from the Leader of the term 5.
func piece(data string, offset int, end bool) api.Message {
	return api.Message{Kind: api.Piece, From: 1, Term: 5, Index: 5, Last: 4, Data: data, Offset: offset, End: end}
}

func pieced(ok bool, match, offset int) api.Message {
	return api.Message{Kind: api.Pieced, To: 1, Term: 5, OK: ok, Match: match, Offset: offset}
}

func TestHandlePieces(t *testing.T) {
	data := saveOf(1)
	half := len(data) / 2
	otherIndex, otherLast := piece(data[:half], 0, false), piece(data[:half], 0, false)
	otherIndex.Index, otherLast.Last = 6, 3
	old, newer := piece(data[:half], 0, true), piece(data[half:], half, false)
	old.Term, newer.Term = 4, 5
	first, second := piece(data[:half], 0, false), piece(data[half:], half, true)
	below := piece("never looked at", 0, true)
	below.Index = 3
	for _, k := range []struct {
		name  string
		l     []api.Message
		want  api.Message // behind the last one
		whole bool
	}{
		{"of a lower term", []api.Message{old}, pieced(false, 0, 0), false},
		{"of a lower term, in the middle", []api.Message{first, old}, pieced(false, 0, 0), false},
		{"of the base", []api.Message{below}, pieced(true, 3, 0), false},
		{"the first one", []api.Message{first}, pieced(false, 0, half), false},
		{"the first one twice", []api.Message{first, first}, pieced(false, 0, half), false},
		{"the second one alone", []api.Message{second}, pieced(false, 0, 0), false},
		{"too far behind", []api.Message{first, piece(data[half:], half+1, true)}, pieced(false, 0, half), false},
		{"of nothing", []api.Message{first, piece("", half, false)}, pieced(false, 0, half), false},
		{"of nothing at the beginning", []api.Message{piece("", 0, false)}, pieced(false, 0, 0), false},
		{"of another index", []api.Message{first, otherIndex}, pieced(false, 0, half), false},
		{"of another term", []api.Message{first, otherLast}, pieced(false, 0, half), false},
		{"of another index, with these in the middle", []api.Message{first, otherIndex, second}, pieced(false, 0, 0), false},
		{"of another term, with these in the middle", []api.Message{first, otherLast, second}, pieced(false, 0, 0), false},
		{"of another index, that does not join on", []api.Message{first, {Kind: api.Piece, From: 1, Term: 5, Index: 6, Last: 4, Data: "x", Offset: half + 9}, second}, pieced(false, 0, 0), false},
		{"all, but no end", []api.Message{first, newer}, pieced(false, 0, len(data)), false},
		{"all, but no end, and then the end alone", []api.Message{first, newer, piece("", len(data), true)}, pieced(true, 5, 0), true},
		{"both", []api.Message{first, second}, pieced(true, 5, 0), true},
		{"both, with one of the base between", []api.Message{first, below, second}, pieced(true, 5, 0), true},
		{"both, with an old one between", []api.Message{first, old, second}, pieced(true, 5, 0), true},
		{"both, the first one doubled", []api.Message{first, first, second}, pieced(true, 5, 0), true},
		{"both, the second one doubled", []api.Message{first, second, second}, pieced(true, 5, 0), true},
		{"both, and the first one again", []api.Message{first, second, first}, pieced(true, 5, 0), true},
		{"in one", []api.Message{piece(data, 0, true)}, pieced(true, 5, 0), true},
	} {
		what := "P17: a Piece: " + k.name
		c := laid(t, middle())
		var got []api.Message
		for _, m := range k.l {
			got = gets(t, c, m)
		}
		sends(t, what, got, k.want)
		view, log, text := []int{follower, 5, 2, 3, 6, 3}, nothing(2, 4, 4), saveOf(0)
		if k.whole {
			view, log, text = []int{follower, 5, 2, 5, 6, 5}, nothing(4), data
		}
		isNow(t, what, c, view, log)
		if s, e := c.Backup(0); s != text || e != api.OK {
			t.Errorf("%s: the store is %q, %d, want %q", what, s, e, text)
		}
		lasts(t, what, c)
		if s, e := c.Backup(0); s != text || e != api.OK {
			t.Errorf("%s: behind a crash the store is %q, %d, want %q", what, s, e, text)
		}
	}
}

// What of the log is behind the new base stays, if the log has the very entry that is the base's last one.
func TestBaseByPieces(t *testing.T) {
	data := saveOf(2)
	for _, k := range []struct {
		name              string
		term, index, last int
		commit, lastThen  int
		log               []api.Entry
		vote              int
	}{
		{"an entry in the middle", 5, 5, 4, 3, 6, nothing(4), 2},
		{"the first entry", 5, 4, 2, 3, 6, nothing(4, 4), 2},
		{"the last entry", 5, 6, 4, 3, 6, nil, 2},
		{"another entry in the middle", 5, 5, 5, 3, 5, nil, 2},
		{"another entry of a lower term", 5, 4, 1, 3, 4, nil, 2},
		{"another last entry", 5, 6, 5, 3, 6, nil, 2},
		{"behind the last entry", 5, 7, 4, 3, 7, nil, 2},
		{"far behind the last entry", 5, api.MaxNumber, 5, 3, api.MaxNumber, nil, 2},
		{"with more committed", 5, 5, 4, 4, 6, nothing(4), 2},
		{"of a greater term", 8, 5, 4, 3, 6, nothing(4), -1},
	} {
		what := "P17: a base by pieces: " + k.name
		begin := func() *Conclave {
			c := laid(t, middle())
			gets(t, c, api.Message{Kind: api.Append, From: 1, Term: 5, Index: 6, Last: 4, Commit: k.commit})
			return c
		}
		m := api.Message{Kind: api.Piece, From: 1, Term: k.term, Index: k.index, Last: k.last, Data: data, End: true}
		c := begin()
		isNow(t, what, c, []int{follower, 5, 2, 3, 6, k.commit}, nothing(2, 4, 4))
		sends(t, what, gets(t, c, m), api.Message{Kind: api.Pieced, To: 1, Term: k.term, OK: true, Match: k.index})
		isNow(t, what, c, []int{follower, k.term, k.vote, k.index, k.lastThen, k.index}, k.log)
		if v, _ := c.View(0); v.BaseTerm != k.last {
			t.Errorf("%s: the base's term is %d, want %d", what, v.BaseTerm, k.last)
		}
		for index := range min(k.lastThen+2, 12) {
			if r, e := c.Result(0, index); r != (api.Result{}) || e != api.ErrNone {
				t.Errorf("%s: Result at %d = %+v, %d", what, index, r, e)
			}
		}
		lasts(t, what, c)
		if s, _ := c.Backup(0); s != data {
			t.Errorf("%s: the store is another one", what)
		}
		// Cut, Append, Sync.
		if n := acts(t, 0, begin, func(c *Conclave) { gets(t, c, m) }); n != 3 {
			t.Errorf("%s: there are %d acts of the disk, want 3", what, n)
		}
	}
}

// What goes on behind a base that was given in pieces.
func TestBehindABaseByPieces(t *testing.T) {
	c := laid(t, middle())
	gets(t, c, piece(saveOf(2), 0, true))
	put := api.Entry{Term: 5, Command: api.Command{Kind: api.Put, Key: "c", Value: "12345678"}}
	gets(t, c, api.Message{Kind: api.Append, From: 1, Term: 5, Index: 6, Last: 4, Commit: 7, Entries: []api.Entry{put}})
	isNow(t, "P17: behind a base by pieces", c, []int{follower, 5, 2, 5, 7, 7}, append(nothing(4), put))
	if s, _ := c.Backup(0); s != saveOf(3) {
		t.Errorf("P17: behind a base by pieces the store is another one")
	}
	for index, want := range map[int]api.Result{6: {OK: true, Rev: 2}, 7: {OK: true, Rev: 3}} {
		if r, e := c.Result(0, index); r != want || e != api.OK {
			t.Errorf("P19: Result at %d = %+v, %d, want %+v", index, r, e, want)
		}
	}
	lasts(t, "P17: behind a base by pieces", c)
}

// Pieces that have come are no part of what is kept.
func TestPiecesAreGoneByARestart(t *testing.T) {
	data := saveOf(1)
	c := laid(t, middle())
	sends(t, "P17: a Piece", gets(t, c, piece(data[:9], 0, false)), pieced(false, 0, 9))
	c.Crash(0, 99)
	c.Restart(0)
	sends(t, "P18: behind Restart a Piece", gets(t, c, piece(data[9:], 9, true)), pieced(false, 0, 0))
	isNow(t, "P18: behind Restart a Piece", c, []int{follower, 5, 2, 3, 6, 3}, nothing(2, 4, 4))
}

// Pieces stay, whatever else comes between: only those of another base, and a Restart, end them.
func TestPiecesStay(t *testing.T) {
	data := saveOf(1)
	c := laid(t, middle())
	gets(t, c, piece(data[:9], 0, false))
	gets(t, c, api.Message{Kind: api.Append, From: 1, Term: 5, Index: 6, Last: 4, Commit: 4})
	gets(t, c, api.Message{Kind: api.Vote, From: 2, Term: 6, Index: 0})
	c.Timeout(0)
	c.Compact(0)
	m := piece(data[9:], 9, true)
	m.Term = 7
	sends(t, "P17: a Piece", gets(t, c, m), api.Message{Kind: api.Pieced, To: 1, Term: 7, OK: true, Match: 5})
	isNow(t, "P17: a Piece", c, []int{follower, 7, 0, 5, 6, 5}, nothing(4))
}

// short is node 0 of two as Leader of the term 1, whose base goes up to 2; it is about to send that.
func short(t *testing.T, size int) *Conclave {
	t.Helper()
	c, _ := New(api.Config{Nodes: 2, Entries: 8, Batch: 2, Piece: size}, "")
	c.Timeout(0)
	gets(t, c, api.Message{Kind: api.Voted, From: 1, Term: 1, OK: true})
	c.Do(0, api.Command{Kind: api.Put, Key: "a", Value: "1"}, api.Command{Kind: api.Put, Key: "b", Value: "2"})
	gets(t, c, api.Message{Kind: api.Appended, From: 1, Term: 1, OK: true, Match: 2})
	if e := c.Compact(0); e != api.OK {
		t.Fatalf("P17: Compact = %d", e)
	}
	c.flight = nil
	return c
}

func TestSendPieces(t *testing.T) {
	for size := 1; size <= api.MaxPiece; size++ {
		c := short(t, size)
		data, _ := c.Backup(0)
		// Match is 2: so it is not the base that is sent.
		sends(t, "P16: above the base", gets(t, c, api.Message{Kind: api.Appended, From: 1, Term: 1}), api.Message{Kind: api.Append, To: 1, Term: 1, Index: 2, Last: 1, Commit: 2, Entries: []api.Entry{{Term: 1, Command: api.Command{Kind: api.Put, Key: "b", Value: "2"}}}})
		c.nodes[0].others[1] = other{next: 2}
		for _, offset := range []int{0, 1, size, len(data) - size - 1, len(data) - size, len(data) - size + 1, len(data) - 1, len(data), len(data) + 1, len(data) + 1000} {
			got := gets(t, c, api.Message{Kind: api.Pieced, From: 1, Term: 1, Offset: offset})
			want := api.Message{Kind: api.Piece, To: 1, Term: 1, Index: 2, Last: 1, Offset: offset}
			rest := data[min(offset, len(data)):]
			want.Data, want.End = rest[:min(size, len(rest))], len(rest) <= size
			sends(t, fmt.Sprintf("P17: the Piece of %d bytes from %d on", size, offset), got, want)
			// Timeout sends the same again.
			c.flight = nil
			c.Timeout(0)
			sends(t, "P14: Timeout", c.Flight(), want)
		}
	}
}

func TestHandlePieced(t *testing.T) {
	last := api.Message{Kind: api.Append, To: 1, Term: 1, Index: 2, Last: 1, Commit: 2, Entries: []api.Entry{{Term: 1, Command: api.Command{Kind: api.Put, Key: "b", Value: "2"}}}}
	data, _ := short(t, 40).Backup(0)
	at := func(offset int) api.Message {
		end := min(offset+40, len(data))
		return api.Message{Kind: api.Piece, To: 1, Term: 1, Index: 2, Last: 1, Data: data[offset:end], Offset: offset, End: end == len(data)}
	}
	for _, k := range []struct {
		name string
		next int
		m    api.Message
		want []api.Message
	}{
		{"not OK", 2, api.Message{Term: 1, Offset: 40}, []api.Message{at(40)}},
		{"not OK, at the beginning", 1, api.Message{Term: 1, Offset: 0}, []api.Message{at(0)}},
		{"not OK, near the end", 2, api.Message{Term: 1, Offset: len(data) - 3}, []api.Message{at(len(data) - 3)}},
		{"not OK, where Next is above the base", 3, api.Message{Term: 1, Offset: 40}, nil},
		{"not OK, where Next is above the last one", 4, api.Message{Term: 1, Offset: 40}, nil},
		{"not OK, of a lower term", 2, api.Message{Term: 0, Offset: 40}, nil},
		{"OK of the base", 2, api.Message{Term: 1, OK: true, Match: 2}, []api.Message{last}},
		{"OK of less than the base", 1, api.Message{Term: 1, OK: true, Match: 1}, []api.Message{at(7)}},
		{"OK of a lower term", 2, api.Message{Term: 0, OK: true, Match: 2}, nil},
	} {
		c := short(t, 40)
		c.nodes[0].others[1] = other{next: k.next, offset: 7}
		if k.want == nil || !k.m.OK {
			c.nodes[0].others[1].offset = 0
		}
		k.m.Kind, k.m.From = api.Pieced, 1
		sends(t, "P17: to the Leader: Pieced "+k.name, gets(t, c, k.m), k.want...)
	}
}

// A Compact has each base sent from its beginning on.
func TestCompactBeginsAnew(t *testing.T) {
	c := short(t, 40)
	gets(t, c, api.Message{Kind: api.Appended, From: 1, Term: 1, OK: true, Match: 3})
	c.nodes[0].others[1] = other{next: 2, offset: 40}
	if e := c.Compact(0); e != api.OK {
		t.Errorf("P17: Compact = %d", e)
	}
	c.flight = nil
	c.Timeout(0)
	if m := c.Flight(); len(m) != 1 || m[0].Kind != api.Piece || m[0].Index != 3 || m[0].Offset != 0 || !strings.HasPrefix(m[0].Data, "\x00\x00\x02") {
		t.Errorf("P17: behind Compact it sends %+v", m)
	}
	// A Pieced of the old base brings it behind the new one's beginning; the other one brings it back.
	if m := gets(t, c, api.Message{Kind: api.Pieced, From: 1, Term: 1, Offset: 40}); len(m) != 1 || m[0].Index != 3 || m[0].Offset != 40 {
		t.Errorf("P17: to a Pieced of the old base it sends %+v", m)
	}
	c.Round()
	sends(t, "P17: a Piece that does not join on", c.Flight(), api.Message{Kind: api.Pieced, From: 1, Term: 1})
	for range 20 {
		c.Round()
	}
	if v, _ := c.View(1); v.Base != 3 || v.Commit != 3 {
		t.Errorf("P17: the other one has not got the base: %+v", v)
	}
}
