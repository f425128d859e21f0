package wal_test

import (
	"math/rand"
	"testing"

	"conclave/api"
	"conclave/codec"
	"conclave/wal"
)

// plain does the same as a disk and its journals, in the plainest way: it keeps no state, but reads it out of the file each time.
type plain struct {
	bytes   [2]string
	lasting [2]int
	broken  int
	keep    int
	live    bool
	file    int
}

func (p *plain) crash(keep int) {
	for k := range p.bytes {
		for len(p.bytes[k]) > p.lasting[k] && len(p.bytes[k])-p.lasting[k] > keep {
			p.bytes[k] = p.bytes[k][:len(p.bytes[k])-1]
		}
		p.lasting[k] = len(p.bytes[k])
	}
	p.broken, p.live = 0, false
}

// acts does acts until one fails: 'c' Cut, 'a' Append, 's' Sync.
func (p *plain) acts(kinds string, k int, bytes string) api.Errno {
	for _, kind := range kinds {
		fails := p.broken == 1
		p.broken = max(p.broken-1, 0)
		if kind == 'a' {
			p.bytes[k] += bytes
		}
		if fails {
			p.crash(p.keep)
			return api.ErrDown
		}
		if kind == 'c' {
			p.bytes[k] = ""
		}
		if kind != 'a' {
			p.lasting[k] = len(p.bytes[k])
		}
	}
	return api.OK
}

func (p *plain) open(t *testing.T) {
	greatest := 0
	for k, s := range p.bytes {
		records, _ := codec.Scan(s)
		bases := 0
		for _, r := range records {
			if r.Kind == api.Base {
				bases++
			}
		}
		if bases == 1 && records[0].Kind == api.Base && len(records) > records[0].Many && records[0].Generation > greatest {
			greatest, p.file = records[0].Generation, k
		}
	}
	if greatest == 0 {
		p.file, p.bytes[0] = 0, journal(t, base(1))
	}
	_, n := codec.Scan(p.bytes[p.file])
	p.bytes[p.file] = p.bytes[p.file][:n]
	p.lasting[p.file] = n
	p.live = true
}

func (p *plain) state() api.State {
	records, _ := codec.Scan(p.bytes[p.file])
	b := records[0]
	s := api.State{Generation: b.Generation, Vote: -1, Base: b.Index, BaseTerm: b.Term, Data: b.Data}
	entries := map[int]api.Entry{}
	last := b.Index
	for _, r := range records {
		if r.Kind == api.Hard {
			s.Term, s.Vote = r.Term, r.Vote
		}
		if r.Kind == api.Item && r.Index > b.Index && r.Index <= last+1 {
			entries[r.Index] = api.Entry{Term: r.Term, Command: r.Command}
			last = r.Index
		}
	}
	for k := b.Index + 1; k <= last; k++ {
		s.Log = append(s.Log, entries[k])
	}
	return s
}

func (p *plain) write(t *testing.T, records []api.Record) api.Errno {
	if !p.live {
		return api.ErrDown
	}
	for _, r := range records {
		if _, e := codec.Encode(r); e != api.OK || r.Kind == api.Base {
			return api.ErrArg
		}
	}
	if len(records) == 0 {
		return api.OK
	}
	return p.acts("as", p.file, journal(t, records...))
}

func (p *plain) rewrite(t *testing.T, s api.State) api.Errno {
	if !p.live {
		return api.ErrDown
	}
	records := []api.Record{{Kind: api.Base, Generation: p.state().Generation + 1, Index: s.Base, Term: s.BaseTerm, Many: len(s.Log) + 1, Data: s.Data}, hard(s.Term, s.Vote)}
	for k, x := range s.Log {
		records = append(records, api.Record{Kind: api.Item, Index: s.Base + k + 1, Term: x.Term, Command: x.Command})
	}
	for _, r := range records {
		if _, e := codec.Encode(r); e != api.OK {
			return api.ErrArg
		}
	}
	e := p.acts("cas", 1-p.file, journal(t, records...))
	if e == api.OK {
		p.file = 1 - p.file
	}
	return e
}

func drawnKey(r *rand.Rand) string { return []string{"a", "ab", "\x00", longest}[r.Intn(4)] }

func drawnRecord(r *rand.Rand, s api.State) api.Record {
	switch r.Intn(12) {
	case 0, 1, 2:
		return hard(r.Intn(9), r.Intn(api.MaxNodes+1)-1)
	case 3:
		return item(1+r.Intn(9), r.Intn(9), drawnKey(r))
	case 4:
		if r.Intn(3) == 0 {
			return []api.Record{base(1), hard(1, 5), item(0, 1, "a"), item(1, 1, ""), {}}[r.Intn(5)]
		}
	}
	return item(max(1, s.Base+len(s.Log)+r.Intn(5)-1), r.Intn(9), drawnKey(r))
}

func drawnState(r *rand.Rand) api.State {
	s := api.State{Generation: r.Intn(9), Term: r.Intn(9), Vote: r.Intn(api.MaxNodes+1) - 1, Base: r.Intn(9), BaseTerm: r.Intn(9), Data: drawnKey(r)}
	for range r.Intn(4) {
		s.Log = append(s.Log, entry(r.Intn(9), drawnKey(r)))
	}
	if r.Intn(9) == 0 {
		s.Vote = 9
	}
	return s
}

func TestDrawnCalls(t *testing.T) {
	r := rand.New(rand.NewSource(10))
	for range 400 {
		d, p := wal.NewDisk(), &plain{}
		w := opened(t, d)
		p.open(t)
		for range 80 {
			switch r.Intn(10) {
			case 0:
				old := w
				w = opened(t, d)
				p.open(t)
				over(t, d, old)
			case 1:
				p.broken, p.keep = r.Intn(8), r.Intn(200)-5
				breaks(t, d, p.broken, p.keep)
			case 2:
				if r.Intn(4) == 0 {
					n := r.Intn(40) - 5
					d.Crash(n)
					p.crash(n)
				}
			case 3, 4:
				s := drawnState(r)
				rewrites(t, w, p.rewrite(t, s), s)
			default:
				var s api.State
				if p.live {
					s = p.state()
				}
				var records []api.Record
				for range r.Intn(4) {
					records = append(records, drawnRecord(r, s))
				}
				writes(t, w, p.write(t, records), records...)
			}
			holds(t, d, 0, p.bytes[0])
			holds(t, d, 1, p.bytes[1])
			if p.live {
				tells(t, w, p.state())
			} else {
				over(t, d, w)
			}
			if t.Failed() {
				return
			}
		}
	}
}
