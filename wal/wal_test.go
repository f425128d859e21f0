package wal_test

import (
	"slices"
	"testing"

	"conclave/api"
	"conclave/codec"
	"conclave/wal"
)

const longest = "12345678"

func base(generation int) api.Record { return api.Record{Kind: api.Base, Generation: generation} }

func hard(term, vote int) api.Record { return api.Record{Kind: api.Hard, Term: term, Vote: vote} }

func put(key string) api.Command { return api.Command{Kind: api.Put, Key: key} }

func item(index, term int, key string) api.Record {
	return api.Record{Kind: api.Item, Index: index, Term: term, Command: put(key)}
}

func entry(term int, key string) api.Entry { return api.Entry{Term: term, Command: put(key)} }

// journal is what a file with these records has.
func journal(t *testing.T, records ...api.Record) string {
	t.Helper()
	s := ""
	for _, r := range records {
		x, e := codec.Encode(r)
		if e != api.OK {
			t.Fatalf("P4: Encode(%+v) = %d", r, e)
		}
		s += string([]byte{byte(len(x) >> 16), byte(len(x) >> 8), byte(len(x))}) + x
	}
	return s
}

func opened(t *testing.T, d *wal.Disk) *wal.Wal {
	t.Helper()
	w, e := wal.Open(d)
	if w == nil || e != api.OK {
		t.Fatalf("P10: Open = %v, %d", w, e)
	}
	return w
}

// begun is a new disk with its journal.
func begun(t *testing.T) (*wal.Disk, *wal.Wal) {
	t.Helper()
	d := wal.NewDisk()
	if d == nil {
		t.Fatalf("P9: NewDisk = nil")
	}
	return d, opened(t, d)
}

func breaks(t *testing.T, d *wal.Disk, k, keep int) {
	t.Helper()
	if e := d.Break(k, keep); e != api.OK {
		t.Errorf("P9: Break(%d, %d) = %d", k, keep, e)
	}
}

func bytesOf(t *testing.T, d *wal.Disk, k int) string {
	t.Helper()
	s, e := d.File(k)
	if e != api.OK {
		t.Errorf("P9: File(%d) = %d", k, e)
	}
	return s
}

func holds(t *testing.T, d *wal.Disk, k int, want string) {
	t.Helper()
	if s := bytesOf(t, d, k); s != want {
		t.Errorf("P9: File(%d) = %q, want %q", k, s, want)
	}
}

func writes(t *testing.T, w *wal.Wal, want api.Errno, records ...api.Record) {
	t.Helper()
	if e := w.Write(records...); e != want {
		t.Errorf("P10: Write of %d records = %d, want %d", len(records), e, want)
	}
}

func rewrites(t *testing.T, w *wal.Wal, want api.Errno, s api.State) {
	t.Helper()
	if e := w.Rewrite(s); e != want {
		t.Errorf("P11: Rewrite(%+v) = %d, want %d", brief(s), e, want)
	}
}

func same(a, b api.State) bool {
	return a.Generation == b.Generation && a.Term == b.Term && a.Vote == b.Vote && a.Base == b.Base && a.BaseTerm == b.BaseTerm && a.Data == b.Data && slices.Equal(a.Log, b.Log)
}

func brief(s api.State) api.State {
	s.Data, s.Log = s.Data[:min(len(s.Data), 60)], s.Log[:min(len(s.Log), 20)]
	return s
}

func tells(t *testing.T, w *wal.Wal, want api.State) {
	t.Helper()
	if s, e := w.State(); e != api.OK || !same(s, want) {
		t.Errorf("P10: State = %+v, %d, want %+v", brief(s), e, brief(want))
	}
}

// over: a journal must answer nothing any more, whatever it is given, and the disk must not change by it.
func over(t *testing.T, d *wal.Disk, w *wal.Wal) {
	t.Helper()
	ahead := bytesOf(t, d, 0) + "|" + bytesOf(t, d, 1)
	if s, e := w.State(); e != api.ErrDown || !same(s, api.State{}) {
		t.Errorf("P10: State of a journal that is over = %+v, %d", s, e)
	}
	writes(t, w, api.ErrDown)
	writes(t, w, api.ErrDown, hard(1, 1))
	writes(t, w, api.ErrDown, api.Record{})
	writes(t, w, api.ErrDown, base(1))
	rewrites(t, w, api.ErrDown, api.State{})
	rewrites(t, w, api.ErrDown, api.State{Vote: 99})
	if bytesOf(t, d, 0)+"|"+bytesOf(t, d, 1) != ahead {
		t.Errorf("P10: a journal that is over writes")
	}
}
