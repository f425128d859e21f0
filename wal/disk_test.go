package wal_test

import (
	"math"
	"testing"

	"conclave/api"
	"conclave/wal"
)

func TestNewDisk(t *testing.T) {
	d := wal.NewDisk()
	holds(t, d, 0, "")
	holds(t, d, 1, "")
	d.Crash(9)
	holds(t, d, 0, "")
	holds(t, d, 1, "")
}

func TestFile(t *testing.T) {
	d, w := begun(t)
	rewrites(t, w, api.OK, api.State{Data: "x"})
	for _, k := range []int{-1, 2, 3, 256, 1 << 32, math.MinInt, math.MaxInt} {
		if s, e := d.File(k); s != "" || e != api.ErrNone {
			t.Errorf("P9: File(%d) = %q, %d, want ErrNone alone", k, s, e)
		}
	}
	holds(t, d, 0, journal(t, base(1)))
	holds(t, d, 1, journal(t, api.Record{Kind: api.Base, Generation: 2, Many: 1, Data: "x"}, hard(0, 0)))
}

// acts writes again and again, and tells how many Writes went well until one failed.
func acts(t *testing.T, w *wal.Wal, most int) int {
	t.Helper()
	for n := range most {
		if e := w.Write(hard(n, 0)); e != api.OK {
			return n
		}
	}
	return most
}

func TestBreakCountsActs(t *testing.T) {
	for k := 1; k <= 9; k++ {
		d, w := begun(t)
		breaks(t, d, k, 0)
		// A Write has two acts.
		if n := acts(t, w, 9); n != (k-1)/2 {
			t.Errorf("P9: behind Break(%d, 0) %d Writes went well, want %d", k, n, (k-1)/2)
		}
		over(t, d, w)
		// The Break is gone by that.
		if n := acts(t, opened(t, d), 9); n != 9 {
			t.Errorf("P9: behind Break(%d, 0), and an act that failed, %d Writes went well", k, n)
		}
	}
	for _, k := range []int{0, 19, 1000, math.MaxInt} {
		d, w := begun(t)
		breaks(t, d, k, 0)
		if n := acts(t, w, 9); n != 9 {
			t.Errorf("P9: behind Break(%d, 0) %d Writes went well", k, n)
		}
	}
}

// A Rewrite has three acts, of the file that does not count.
func TestBreakCountsActsOfRewrite(t *testing.T) {
	for k := 1; k <= 7; k++ {
		d, w := begun(t)
		breaks(t, d, k, 0)
		n := 0
		for n < 3 && w.Rewrite(api.State{}) == api.OK {
			n++
		}
		if n != min((k-1)/3, 3) {
			t.Errorf("P9: behind Break(%d, 0) %d Rewrites went well, want %d", k, n, (k-1)/3)
		}
	}
}

// What is no act is not counted.
func TestBreakPassesOverOtherCalls(t *testing.T) {
	d, w := begun(t)
	breaks(t, d, 2, 0)
	writes(t, w, api.OK)
	writes(t, w, api.ErrArg, hard(1, 1), base(1))
	writes(t, w, api.ErrArg, api.Record{})
	rewrites(t, w, api.ErrArg, api.State{Vote: -2})
	if _, e := w.State(); e != api.OK {
		t.Errorf("P10: State = %d", e)
	}
	d.File(0)
	d.File(2)
	old := w
	w = opened(t, d)
	over(t, d, old)
	w = opened(t, d)
	breaks(t, wal.NewDisk(), 0, 0)
	// Append is the first act, Sync the second one.
	writes(t, w, api.ErrDown, hard(1, 1))
	over(t, d, w)
	holds(t, d, 0, journal(t, base(1)))
}

func TestLastBreakCounts(t *testing.T) {
	for _, c := range []struct{ first, second, want int }{{1, 0, 9}, {1, 5, 2}, {5, 1, 0}, {0, 3, 1}, {3, 3, 1}, {1, math.MaxInt, 9}} {
		d, w := begun(t)
		breaks(t, d, c.first, 99)
		breaks(t, d, c.second, 0)
		if n := acts(t, w, 9); n != c.want {
			t.Errorf("P9: behind Break(%d) and Break(%d) %d Writes went well, want %d", c.first, c.second, n, c.want)
		}
	}
	// From now on: acts ahead of the second Break do not count for it.
	d, w := begun(t)
	breaks(t, d, 4, 0)
	writes(t, w, api.OK, hard(1, 1))
	breaks(t, d, 4, 0)
	if n := acts(t, w, 9); n != 1 {
		t.Errorf("P9: %d Writes went well, want 1", n)
	}
	// And keep is that of the last one.
	d, w = begun(t)
	breaks(t, d, 1, 99)
	breaks(t, d, 1, 1)
	writes(t, w, api.ErrDown, hard(1, 1))
	holds(t, d, 0, journal(t, base(1))+"\x00")
}

func TestBreakRefused(t *testing.T) {
	for _, k := range []int{-1, -2, math.MinInt} {
		d, w := begun(t)
		breaks(t, d, 3, 4)
		for _, keep := range []int{-1, 0, 1, 99} {
			if e := d.Break(k, keep); e != api.ErrArg {
				t.Errorf("P9: Break(%d, %d) = %d, want ErrArg", k, keep, e)
			}
		}
		// The one ahead of it still counts.
		writes(t, w, api.OK, hard(1, 1))
		writes(t, w, api.ErrDown, hard(2, 2))
		whole := journal(t, base(1), hard(1, 1), hard(2, 2))
		holds(t, d, 0, whole[:len(whole)-8])
	}
}

// Of what does not last, the first bytes stay; all else was there ahead.
func TestBreakKeeps(t *testing.T) {
	records := []api.Record{hard(2, 1), item(1, 2, longest), hard(3, -1)}
	ahead, behind := journal(t, base(1), hard(1, 0)), journal(t, records...)
	keeps := []int{math.MinInt, -5, -1, math.MaxInt, math.MaxInt - 1, 1000}
	for n := range len(behind) + 3 {
		keeps = append(keeps, n)
	}
	for _, keep := range keeps {
		for act := 1; act <= 2; act++ {
			d, w := begun(t)
			writes(t, w, api.OK, hard(1, 0))
			breaks(t, d, act, keep)
			writes(t, w, api.ErrDown, records...)
			over(t, d, w)
			stay := min(max(keep, 0), len(behind))
			holds(t, d, 0, ahead+behind[:stay])
			holds(t, d, 1, "")
			// What stayed lasts.
			d.Crash(0)
			holds(t, d, 0, ahead+behind[:stay])
		}
	}
}

func TestBreakKeepsOfRewrite(t *testing.T) {
	state := api.State{Term: 3, Vote: 2, Base: 4, BaseTerm: 1, Data: "data", Log: []api.Entry{entry(2, "a")}}
	old := journal(t, api.Record{Kind: api.Base, Generation: 2, Many: 1, Data: "old"}, hard(1, 1))
	behind := journal(t, api.Record{Kind: api.Base, Generation: 4, Index: 4, Term: 1, Many: 2, Data: "data"}, hard(3, 2), item(5, 2, "a"))
	for _, keep := range []int{math.MinInt, -1, 0, 1, 20, 40, 50, len(behind) - 1, len(behind), len(behind) + 1, math.MaxInt} {
		for act := 1; act <= 3; act++ {
			d, w := begun(t)
			rewrites(t, w, api.OK, api.State{Term: 1, Vote: 1, Data: "old"})
			rewrites(t, w, api.OK, api.State{Term: 7})
			ahead := bytesOf(t, d, 0)
			breaks(t, d, act, keep)
			rewrites(t, w, api.ErrDown, state)
			over(t, d, w)
			holds(t, d, 0, ahead)
			if act == 1 {
				// A Cut that fails has done nothing.
				holds(t, d, 1, old)
			} else {
				holds(t, d, 1, behind[:min(max(keep, 0), len(behind))])
			}
			want := api.State{Generation: 3, Term: 7}
			if act > 1 && keep >= len(behind) {
				want = state
				want.Generation = 4
			}
			tells(t, opened(t, d), want)
		}
	}
}

func TestCrash(t *testing.T) {
	for _, keep := range []int{math.MinInt, -1, 0, 1, 12, math.MaxInt} {
		d, w := begun(t)
		writes(t, w, api.OK, hard(1, 0), item(1, 1, "a"))
		rewrites(t, w, api.OK, api.State{Term: 2, Vote: 1, Log: []api.Entry{entry(1, "a"), entry(2, "b")}})
		writes(t, w, api.OK, item(3, 2, "c"))
		zero, one := bytesOf(t, d, 0), bytesOf(t, d, 1)
		breaks(t, d, 1, 5)
		d.Crash(keep)
		// What was written lasts, and the Break counts no more.
		over(t, d, w)
		holds(t, d, 0, zero)
		holds(t, d, 1, one)
		w = opened(t, d)
		tells(t, w, api.State{Generation: 2, Term: 2, Vote: 1, Log: []api.Entry{entry(1, "a"), entry(2, "b"), entry(2, "c")}})
		writes(t, w, api.OK, hard(3, 3))
		d.Crash(keep)
		d.Crash(keep)
		over(t, d, w)
		holds(t, d, 1, one+journal(t, hard(3, 3)))
	}
}

func TestDisksKnowNothingOfOneAnother(t *testing.T) {
	d, w := begun(t)
	writes(t, w, api.OK, hard(1, 0), item(1, 1, "a"))
	zero := bytesOf(t, d, 0)
	other, v := begun(t)
	tells(t, v, api.State{Generation: 1, Vote: -1})
	breaks(t, other, 1, 0)
	writes(t, w, api.OK, item(2, 1, "b"))
	writes(t, v, api.ErrDown, item(2, 1, "b"))
	over(t, other, v)
	other.Crash(0)
	opened(t, other)
	holds(t, d, 0, zero+journal(t, item(2, 1, "b")))
	tells(t, w, api.State{Generation: 1, Term: 1, Log: []api.Entry{entry(1, "a"), entry(1, "b")}})
	holds(t, other, 0, journal(t, base(1)))
}
