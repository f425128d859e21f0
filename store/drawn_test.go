package store_test

import (
	"math/rand"
	"slices"
	"sort"
	"strings"
	"testing"

	"conclave/api"
	"conclave/store"
)

// laid: a version, as the plain store has it.
type laid struct {
	key, value string
	rev        int
	gone       bool
}

// plain does the same as a store, in the plainest way: one list of all versions, gone through from its end.
type plain struct {
	revision, floor int
	all             []laid
	seqs            [api.MaxSessions + 1]int
	results         [api.MaxSessions + 1]api.Result
}

func (p *plain) at(key string, rev int) laid {
	for k := len(p.all) - 1; k >= 0; k-- {
		if p.all[k].key == key && p.all[k].rev <= rev {
			return p.all[k]
		}
	}
	return laid{gone: true}
}

func (p *plain) do(c api.Command) api.Result {
	if c.Session > 0 && c.Seq == p.seqs[c.Session] {
		return p.results[c.Session]
	}
	if c.Session > 0 && c.Seq < p.seqs[c.Session] {
		return stale(p.revision)
	}
	now := p.at(c.Key, p.revision)
	ok := c.Kind == api.Nothing || c.Kind == api.Put || c.Kind == api.Delete && !now.gone || c.Kind == api.Swap && !now.gone && now.value == c.Old
	if c.Kind == api.Floor {
		ok = c.Rev > p.floor && c.Rev <= p.revision
		if ok {
			p.floor = c.Rev
			p.forget()
		}
	} else if c.Kind != api.Nothing && ok {
		p.revision++
		p.all = append(p.all, laid{c.Key, c.Value, p.revision, c.Kind == api.Delete})
	}
	r := api.Result{OK: ok, Rev: p.revision}
	p.seqs[c.Session], p.results[c.Session] = c.Seq, r
	return r
}

func (p *plain) forget() {
	var kept []laid
	for _, l := range p.all {
		newest := p.at(l.key, p.floor)
		if l.rev > newest.rev || l == newest && !l.gone {
			kept = append(kept, l)
		}
	}
	p.all = kept
}

func (p *plain) find(from, to string, rev, most int) []api.Found {
	var l []api.Found
	for _, x := range p.all {
		if x.key >= from && (to == "" || x.key < to) && !x.gone && x == p.at(x.key, rev) {
			l = append(l, found(x.key, x.value, x.rev))
		}
	}
	sort.Slice(l, func(i, j int) bool { return l[i].Key < l[j].Key })
	return l[:min(most, len(l))]
}

func (p *plain) save() string {
	l := slices.Clone(p.all)
	sort.SliceStable(l, func(i, j int) bool { return l[i].key < l[j].key })
	var b strings.Builder
	b.WriteString(number(p.revision) + number(p.floor) + number(len(l)))
	for _, x := range l {
		if x.gone {
			b.WriteString(gone(x.key, x.rev))
		} else {
			b.WriteString(value(x.key, x.rev, x.value))
		}
	}
	for k := 1; k <= api.MaxSessions; k++ {
		ok := "\x00"
		if p.results[k].OK {
			ok = "\x01"
		}
		b.WriteString(session(p.seqs[k], ok, p.results[k].Rev))
	}
	return b.String()
}

func drawn(r *rand.Rand, revision int) api.Command {
	keys, values := []string{"a", "ab", "b", "\x00", "\xff", longest}, []string{"", "1", "2"}
	key, v := keys[r.Intn(len(keys))], values[r.Intn(len(values))]
	c := put(key, v)
	switch r.Intn(10) {
	case 0:
		return api.Command{}
	case 1, 2, 3:
		c = remove(key)
	case 4, 5:
		c = swap(key, values[r.Intn(len(values))], v)
	case 6:
		c = floor(r.Intn(revision + 2))
	}
	if r.Intn(2) == 0 {
		c = by(1+r.Intn(api.MaxSessions), 1+r.Intn(1+revision), c)
	}
	return c
}

func TestDrawnCommands(t *testing.T) {
	r := rand.New(rand.NewSource(7))
	bounds := []string{"", "\x00", "a", "aa", "ab", "b", "c", "\xff"}
	for range 300 {
		s, p := store.New(), &plain{}
		for range 60 {
			var commands []api.Command
			var want []api.Result
			for range r.Intn(4) {
				c := drawn(r, p.revision)
				commands = append(commands, c)
				want = append(want, p.do(c))
			}
			doAll(t, s, commands, want...)
			revs(t, s, p.revision, p.floor)
			from, to, rev, most := bounds[r.Intn(8)], bounds[r.Intn(8)], r.Intn(p.revision+2), r.Intn(8)
			if rev < p.floor || rev > p.revision {
				noRange(t, s, from, to, rev, most, api.ErrRev)
			} else {
				ranges(t, s, from, to, rev, most, p.find(from, to, rev, most)...)
			}
			saves(t, s, p.save())
			if r.Intn(10) == 0 {
				s = loaded(t, p.save())
			}
			if t.Failed() {
				return
			}
		}
	}
}

// Whatever the bytes are: what Load takes is what Save gives, and such a store answers.
func TestDrawnSaves(t *testing.T) {
	r := rand.New(rand.NewSource(8))
	taken := 0
	for range 20000 {
		p := &plain{}
		for range r.Intn(12) {
			p.do(drawn(r, p.revision))
		}
		b := []byte(p.save())
		for range 1 + r.Intn(2) {
			b[r.Intn(len(b))] = byte(r.Intn(256) >> r.Intn(9))
		}
		s, e := store.Load(string(b))
		if e != api.OK {
			if s != nil || e != api.ErrBytes {
				t.Fatalf("P8: Load(%q) = %v, %d", b, s, e)
			}
			continue
		}
		taken++
		saves(t, s, string(b))
		revision, low := s.Revs()
		if low > revision || revision > api.MaxNumber {
			t.Fatalf("P8: Load(%q) has the revision %d, the floor %d", b, revision, low)
		}
		if l, e := s.Do(floor(revision), put("k", "v")); e != api.OK || len(l) != 2 {
			t.Fatalf("P6: Do behind Load(%q): %v, %d", b, l, e)
		}
	}
	if taken == 0 || taken == 20000 {
		t.Errorf("%d of 20000 were taken: nothing was tried", taken)
	}
}
