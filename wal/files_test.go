package wal

import (
	"math"
	"slices"
	"testing"

	"conclave/api"
)

// Files that no run of calls gives, but of which the document tells what comes of them.

func bytesFor(t *testing.T, records ...api.Record) string {
	t.Helper()
	b, e := bytesOf(records)
	if e != api.OK {
		t.Fatalf("P4: Encode = %d", e)
	}
	return string(b)
}

// diskOf is a disk with these bytes, all of which last.
func diskOf(zero, one string) *Disk {
	return &Disk{files: [2]file{{bytes: []byte(zero), lasting: len(zero)}, {bytes: []byte(one), lasting: len(one)}}}
}

func baseOf(generation, many int, data string) api.Record {
	return api.Record{Kind: api.Base, Generation: generation, Many: many, Data: data}
}

func TestCrashOfBothFiles(t *testing.T) {
	for _, keep := range []int{math.MinInt, -1, 0, 1, 2, 3, 4, math.MaxInt - 1, math.MaxInt} {
		d := &Disk{files: [2]file{{bytes: []byte("abcde"), lasting: 2}, {bytes: []byte("fg"), lasting: 1}}}
		d.Crash(keep)
		stay := max(keep, 0)
		for k, want := range []string{"abcde"[:2+min(stay, 3)], "fg"[:1+min(stay, 1)]} {
			if s, e := d.File(k); s != want || e != api.OK {
				t.Errorf("P9: behind Crash(%d) the file %d is %q, %d, want %q", keep, k, s, e, want)
			}
		}
		// What stayed lasts now.
		zero, _ := d.File(0)
		d.Crash(0)
		if s, _ := d.File(0); s != zero {
			t.Errorf("P9: behind Crash(%d) and Crash(0) there is %q, want %q", keep, s, zero)
		}
	}
}

// A Sync lets the bytes of its file last, and of no other one.
func TestSyncOfOneFile(t *testing.T) {
	d := &Disk{}
	if !d.put(0, []byte("abc")) || !d.put(1, []byte("de")) || !d.sync(1) || !d.put(1, []byte("f")) {
		t.Errorf("P9: an act fails without a Break")
	}
	d.Crash(1)
	if zero, one := string(d.files[0].bytes), string(d.files[1].bytes); zero != "a" || one != "def" {
		t.Errorf("P9: behind a Sync of the file 1 and Crash(1) there are %q and %q", zero, one)
	}
	// A Cut lasts at once.
	if !d.cut(1) {
		t.Errorf("P9: a Cut fails without a Break")
	}
	d.Crash(9)
	if zero, one := string(d.files[0].bytes), string(d.files[1].bytes); zero != "a" || one != "" {
		t.Errorf("P9: behind a Cut of the file 1 there are %q and %q", zero, one)
	}
}

func TestWhichFileCounts(t *testing.T) {
	hard := api.Record{Kind: api.Hard, Term: 1, Vote: 1}
	item := api.Record{Kind: api.Item, Index: 1, Term: 1}
	whole := func(g int, data string) string { return bytesFor(t, baseOf(g, 1, data), hard) }
	for _, c := range []struct {
		name, zero, one string
		file, kept      int // of the file that counts so many bytes
		data            string
	}{
		{"one alone", whole(1, "z"), "", 0, len(whole(1, "z")), "z"},
		{"file 1 alone", "", whole(1, "o"), 1, len(whole(1, "o")), "o"},
		{"the greater generation in file 0", whole(3, "z"), whole(2, "o"), 0, len(whole(3, "z")), "z"},
		{"the greater generation in file 1", whole(2, "z"), whole(3, "o"), 1, len(whole(3, "o")), "o"},
		{"the greatest generation", whole(999999, "z"), whole(api.MaxNumber, "o"), 1, len(whole(1, "o")), "o"},
		{"alike", whole(2, "z"), whole(2, "o"), 0, len(whole(2, "z")), "z"},
		{"the greater one lacks a record", whole(2, "z"), bytesFor(t, baseOf(3, 2, "o"), hard), 0, len(whole(2, "z")), "z"},
		{"the greater one has just enough", whole(2, "z"), bytesFor(t, baseOf(3, 2, "o"), hard, item), 1, len(bytesFor(t, baseOf(3, 2, "o"), hard, item)), "o"},
		{"the greater one has more", whole(2, "z"), bytesFor(t, baseOf(3, 0, "o"), hard, item), 1, len(bytesFor(t, baseOf(3, 0, "o"), hard, item)), "o"},
		{"the greater one is broken off in the last record", whole(2, "z"), whole(3, "o")[:len(whole(3, "o"))-1], 0, len(whole(2, "z")), "z"},
		{"the greater one begins otherwise", whole(2, "z"), bytesFor(t, hard, baseOf(3, 0, "o")), 0, len(whole(2, "z")), "z"},
		{"the greater one has another Base", bytesFor(t, baseOf(9, 0, "z"), hard, baseOf(9, 0, "z")), whole(1, "o"), 1, len(whole(1, "o")), "o"},
		{"the greater one has another Base behind the end", bytesFor(t, baseOf(9, 0, "z"), hard) + "x" + bytesFor(t, baseOf(9, 0, "z")), whole(1, "o"), 0, len(bytesFor(t, baseOf(9, 0, "z"), hard)), "z"},
		{"more behind it", whole(2, "z") + "\x00\x00", whole(1, "o"), 0, len(whole(2, "z")), "z"},
		{"more behind both", whole(2, "z") + "more", whole(4, "o") + bytesFor(t, hard)[:5], 1, len(whole(4, "o")), "o"},
	} {
		d := diskOf(c.zero, c.one)
		w, e := Open(d)
		if w == nil || e != api.OK {
			t.Fatalf("P10: %s: Open = %v, %d", c.name, w, e)
		}
		want := [2]string{c.zero, c.one}
		want[c.file] = want[c.file][:c.kept]
		got := [2]string{string(d.files[0].bytes), string(d.files[1].bytes)}
		if s, e := w.State(); e != api.OK || s.Data != c.data || got != want {
			t.Errorf("P10: %s: Data %q, %d, the files %q, want %q", c.name, s.Data, e, got, want)
		}
		if e := w.Write(hard); e != api.OK || string(d.files[c.file].bytes) != want[c.file]+bytesFor(t, hard) {
			t.Errorf("P10: %s: a Write behind Open: %d, %q", c.name, e, d.files[c.file].bytes)
		}
		d.Crash(0)
		if string(d.files[c.file].bytes) != want[c.file]+bytesFor(t, hard) {
			t.Errorf("P10: %s: what was written behind Open does not last", c.name)
		}
	}
}

func TestNoFileCounts(t *testing.T) {
	hard := api.Record{Kind: api.Hard, Term: 1, Vote: 1}
	first := bytesFor(t, baseOf(1, 0, ""))
	for _, wrong := range []string{"", "x", "\x00\x00\x00", first[1:], first[:len(first)-1], bytesFor(t, hard), bytesFor(t, hard) + first, bytesFor(t, baseOf(7, 1, "x")), first + first, bytesFor(t, baseOf(7, 2, "x"), hard)} {
		for _, d := range []*Disk{diskOf(wrong, ""), diskOf("", wrong), diskOf(wrong, wrong)} {
			one, _ := d.File(1)
			// Making it is no act.
			d.Break(1, 0)
			w, e := Open(d)
			if w == nil || e != api.OK {
				t.Fatalf("P10: Open of %q = %v, %d", wrong, w, e)
			}
			s, e := w.State()
			if e != api.OK || s.Generation != 1 || s.Vote != -1 || s.Term != 0 || s.Base != 0 || s.BaseTerm != 0 || s.Data != "" || len(s.Log) != 0 {
				t.Errorf("P10: Open of %q: %+v, %d", wrong, s, e)
			}
			if string(d.files[0].bytes) != first || string(d.files[1].bytes) != one {
				t.Errorf("P10: Open of %q: the files are %q and %q", wrong, d.files[0].bytes, d.files[1].bytes)
			}
			if e := w.Write(hard); e != api.ErrDown {
				t.Errorf("P10: Open of %q did an act: the next one, which must fail, is %d", wrong, e)
			}
			// It lasts.
			if string(d.files[0].bytes) != first {
				t.Errorf("P10: Open of %q: behind a crash the file 0 is %q", wrong, d.files[0].bytes)
			}
		}
	}
}

// What is gone from the file by Open does not come back, also if it has not lasted.
func TestOpenOfBytesThatDoNotLast(t *testing.T) {
	hard := api.Record{Kind: api.Hard, Term: 1, Vote: 1}
	whole := bytesFor(t, baseOf(1, 0, ""), hard)
	for lasting := range len(whole) + 4 {
		d := &Disk{files: [2]file{{bytes: []byte(whole + "more"), lasting: lasting}}}
		w, _ := Open(d)
		if string(d.files[0].bytes) != whole {
			t.Errorf("P10: the file is %q, want %q", d.files[0].bytes, whole)
		}
		w.Write(hard)
		d.Crash(0)
		if s := string(d.files[0].bytes); s != whole+bytesFor(t, hard) {
			t.Errorf("P10: behind a Write and a crash the file is %q", s)
		}
	}
}

// There is no generation behind the greatest one.
func TestRewriteAtTheGreatestGeneration(t *testing.T) {
	whole := bytesFor(t, baseOf(api.MaxNumber, 0, "z"))
	d := diskOf(whole, "one")
	w, _ := Open(d)
	for _, s := range []api.State{{}, {Generation: 1}, {Generation: api.MaxNumber}} {
		if e := w.Rewrite(s); e != api.ErrArg {
			t.Errorf("P11: Rewrite at the greatest generation = %d, want ErrArg", e)
		}
	}
	s, e := w.State()
	if e != api.OK || s.Generation != api.MaxNumber || s.Data != "z" || string(d.files[0].bytes) != whole || string(d.files[1].bytes) != "one" {
		t.Errorf("P11: behind that the state is %+v, %d", s, e)
	}
	d = diskOf(bytesFor(t, baseOf(api.MaxNumber-1, 0, "z")), "")
	w, _ = Open(d)
	if e := w.Rewrite(api.State{}); e != api.OK {
		t.Errorf("P11: Rewrite to the greatest generation = %d", e)
	}
}

// No call shows it: a journal that is over keeps nothing, and a disk knows none that is over.
func TestJournalsThatAreOverTakeNoRoom(t *testing.T) {
	d := NewDisk()
	w, _ := Open(d)
	w.Write(api.Record{Kind: api.Item, Index: 1})
	v, _ := Open(d)
	if w.disk != nil || w.state.Log != nil {
		t.Errorf("P10: a journal that is over keeps %+v", w.state)
	}
	d.Crash(0)
	if v.disk != nil || v.state.Log != nil || d.journal != nil {
		t.Errorf("P10: a journal that is over keeps %+v", v.state)
	}
}

// What is read out of a file is the records' own: the file's room is used again.
func TestRecordsShareNoRoomWithFiles(t *testing.T) {
	d := diskOf(bytesFor(t, baseOf(1, 0, "data"), api.Record{Kind: api.Item, Index: 1, Command: api.Command{Kind: api.Put, Key: "key"}}), "")
	w, _ := Open(d)
	for k := range d.files[0].bytes {
		d.files[0].bytes[k] = 'x'
	}
	want := []api.Entry{{Command: api.Command{Kind: api.Put, Key: "key"}}}
	if s, _ := w.State(); s.Data != "data" || !slices.Equal(s.Log, want) {
		t.Errorf("P2: the state shares room with the file: %+v", s)
	}
}
