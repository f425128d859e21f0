package conclave_test

import (
	"maps"
	"slices"

	"conclave/api"
	"conclave/store"
	"conclave/wal"
)

// plain does the same as a conclave, in the plainest way: one node after the other; a node reads what it keeps out of its journal each time, and finds what is to be written by holding that against what it has come to; its store is made anew out of its base each time.
type plain struct {
	config api.Config
	nodes  []*plainNode
	flight []api.Message
}

type plainNode struct {
	me                  int
	config              api.Config
	disk                *wal.Disk
	journal             *wal.Wal
	role, commit        int
	voters              map[int]bool
	next, match, offset map[int]int
	pieceOf             [2]int
	pieces              string
	cuts                int // how often its log was cut off
}

// at is a node in a turn: its state, what it sends, whether it has a new base.
type at struct {
	*plainNode
	s    api.State
	out  []api.Message
	base bool
}

func newPlain(c api.Config, backup string) *plain {
	p := &plain{config: c}
	s := store.New()
	if backup != "" {
		s, _ = store.Load(backup)
	}
	for k := range c.Nodes {
		n := &plainNode{me: k, config: c, disk: wal.NewDisk()}
		n.journal, _ = wal.Open(n.disk)
		n.journal.Rewrite(api.State{Vote: -1, Data: s.Save()})
		p.nodes = append(p.nodes, n)
	}
	return p
}

func (p *plain) send(messages []api.Message) {
	for _, m := range messages {
		if len(p.flight) < api.MaxFlight {
			p.flight = append(p.flight, m)
		}
	}
}

func (n *plainNode) state() api.State {
	s, _ := n.journal.State()
	return s
}

// storeAndResults does all that is committed, from the base on.
func (n *plainNode) storeAndResults() (*store.Store, map[int]api.Result) {
	s := n.state()
	st, _ := store.Load(s.Data)
	results := map[int]api.Result{}
	for k := s.Base + 1; k <= n.commit; k++ {
		r, _ := st.Do(s.Log[k-s.Base-1].Command)
		results[k] = r[0]
	}
	return st, results
}

func (n *plainNode) turn(do func(a *at)) ([]api.Message, api.Errno) {
	old := n.state()
	a := &at{plainNode: n, s: n.state()}
	do(a)
	e := api.OK
	if a.base {
		e = n.journal.Rewrite(a.s)
	} else {
		e = n.journal.Write(a.records(old)...)
	}
	if e != api.OK {
		n.journal = nil
		return nil, api.ErrDown
	}
	return a.out, api.OK
}

func (a *at) records(old api.State) []api.Record {
	var records []api.Record
	if old.Term != a.s.Term || old.Vote != a.s.Vote {
		records = append(records, api.Record{Kind: api.Hard, Term: a.s.Term, Vote: a.s.Vote})
	}
	k := 0
	for k < len(old.Log) && k < len(a.s.Log) && old.Log[k] == a.s.Log[k] {
		k++
	}
	for ; k < len(a.s.Log); k++ {
		records = append(records, api.Record{Kind: api.Item, Index: a.s.Base + k + 1, Term: a.s.Log[k].Term, Command: a.s.Log[k].Command})
	}
	return records
}

func (a *at) last() int { return a.s.Base + len(a.s.Log) }

func (a *at) term(index int) int {
	if index <= a.s.Base {
		return a.s.BaseTerm
	}
	return a.s.Log[index-a.s.Base-1].Term
}

func (a *at) say(m api.Message) {
	m.From, m.Term = a.me, a.s.Term
	m.Entries = slices.Clone(m.Entries)
	a.out = append(a.out, m)
}

func (a *at) timeout() {
	if a.role != api.Leader {
		a.s.Term++
		a.s.Vote, a.role, a.voters = a.me, api.Candidate, map[int]bool{a.me: true}
		if a.config.Nodes == 1 {
			a.lead()
			return
		}
	}
	for k := range a.config.Nodes {
		if k != a.me && a.role == api.Leader {
			a.tell(k)
		} else if k != a.me {
			a.say(api.Message{Kind: api.Vote, To: k, Index: a.last(), Last: a.term(a.last())})
		}
	}
}

func (a *at) lead() {
	a.role = api.Leader
	a.next, a.match, a.offset = map[int]int{}, map[int]int{}, map[int]int{}
	for k := range a.config.Nodes {
		a.next[k] = a.last() + 1
	}
	a.do(api.Command{})
}

func (a *at) do(commands ...api.Command) {
	for _, c := range commands {
		a.s.Log = append(a.s.Log, api.Entry{Term: a.s.Term, Command: c})
	}
	a.look()
	for k := range a.config.Nodes {
		if k != a.me {
			a.tell(k)
		}
	}
}

func (a *at) look() {
	greatest := a.commit
	for index := a.commit + 1; index <= a.last(); index++ {
		have := 1
		for k := range a.config.Nodes {
			if k != a.me && a.match[k] >= index {
				have++
			}
		}
		if have > a.config.Nodes/2 && a.term(index) == a.s.Term {
			greatest = index
		}
	}
	a.commit = greatest
}

func (a *at) tell(k int) {
	next := a.next[k]
	if next > a.s.Base {
		entries := a.s.Log[next-a.s.Base-1:]
		if len(entries) > a.config.Batch {
			entries = entries[:a.config.Batch]
		}
		a.say(api.Message{Kind: api.Append, To: k, Index: next - 1, Last: a.term(next - 1), Entries: entries, Commit: a.commit})
		return
	}
	m := api.Message{Kind: api.Piece, To: k, Index: a.s.Base, Last: a.s.BaseTerm, Offset: a.offset[k]}
	for len(m.Data) < a.config.Piece && m.Offset+len(m.Data) < len(a.s.Data) {
		m.Data += string(a.s.Data[m.Offset+len(m.Data)])
	}
	m.End = m.Offset+len(m.Data) >= len(a.s.Data)
	a.say(m)
}

func (a *at) handle(m api.Message) {
	if m.Term > a.s.Term {
		a.s.Term, a.s.Vote, a.role = m.Term, -1, api.Follower
	}
	old := m.Term < a.s.Term
	switch m.Kind {
	case api.Vote:
		mine := a.term(a.last())
		ok := !old && (a.s.Vote == -1 || a.s.Vote == m.From) && (mine < m.Last || mine == m.Last && a.last() <= m.Index)
		if ok {
			a.s.Vote = m.From
		}
		a.say(api.Message{Kind: api.Voted, To: m.From, OK: ok})
	case api.Voted:
		if a.role == api.Candidate && !old && m.OK {
			a.voters[m.From] = true
			if len(a.voters) > a.config.Nodes/2 {
				a.lead()
			}
		}
	case api.Append:
		answer := api.Message{Kind: api.Appended, To: m.From}
		if !old {
			a.role = api.Follower
			answer.OK, answer.Match = a.take(m)
		}
		a.say(answer)
	case api.Piece:
		answer := api.Message{Kind: api.Pieced, To: m.From}
		if !old {
			a.role = api.Follower
			if a.gather(m) {
				answer.OK, answer.Match = true, m.Index
			} else {
				answer.Offset = len(a.pieces)
			}
		}
		a.say(answer)
	default:
		if a.role == api.Leader && !old {
			a.hear(m)
		}
	}
}

func (a *at) take(m api.Message) (bool, int) {
	to := m.Index + len(m.Entries)
	if to <= a.s.Base {
		return true, to
	}
	if m.Index >= a.s.Base {
		if m.Index > a.last() {
			return false, a.last()
		}
		if a.term(m.Index) != m.Last {
			return false, m.Index - 1
		}
	}
	for k, x := range m.Entries {
		index := m.Index + 1 + k
		if index <= a.s.Base {
			continue
		}
		if index > a.last() {
			a.s.Log = append(a.s.Log, x)
		} else if a.term(index) != x.Term {
			a.s.Log = append(a.s.Log[:index-a.s.Base-1], x)
			a.cuts++
		}
	}
	a.commit = max(a.commit, min(m.Commit, to))
	return true, to
}

func (a *at) gather(m api.Message) bool {
	if m.Index <= a.commit {
		return true
	}
	if a.pieceOf != [2]int{m.Index, m.Last} {
		a.pieceOf, a.pieces = [2]int{m.Index, m.Last}, ""
	}
	if m.Offset != len(a.pieces) {
		return false
	}
	a.pieces += m.Data
	if !m.End {
		return false
	}
	a.shorten(m.Index, m.Last, a.pieces)
	a.commit, a.pieces, a.pieceOf = m.Index, "", [2]int{}
	return true
}

func (a *at) shorten(index, term int, data string) {
	var rest []api.Entry
	if a.last() >= index && a.term(index) == term {
		rest = slices.Clone(a.s.Log[index-a.s.Base:])
	}
	a.s.Base, a.s.BaseTerm, a.s.Data, a.s.Log, a.base = index, term, data, rest, true
}

// hear: as Leader, an answer of its own term.
func (a *at) hear(m api.Message) {
	k := m.From
	if m.OK {
		if m.Match > a.match[k] {
			a.match[k] = m.Match
		}
		a.next[k] = a.match[k] + 1
		a.look()
		if a.next[k] <= a.last() {
			a.tell(k)
		}
		return
	}
	if m.Kind == api.Pieced {
		if a.next[k] <= a.s.Base {
			a.offset[k] = m.Offset
			a.tell(k)
		}
		return
	}
	next := a.next[k] - 1
	if m.Match+1 < next {
		next = m.Match + 1
	}
	if next < a.match[k]+1 {
		next = a.match[k] + 1
	}
	a.next[k] = next
	a.tell(k)
}

func (p *plain) timeout(k int) api.Errno {
	n := p.nodes[k]
	if n.journal == nil {
		return api.ErrDown
	}
	if n.role != api.Leader && n.state().Term == api.MaxNumber {
		return api.ErrFull
	}
	out, e := n.turn((*at).timeout)
	p.send(out)
	return e
}

// do is given commands that may be.
func (p *plain) do(k int, commands []api.Command) (int, api.Errno) {
	n := p.nodes[k]
	if n.journal == nil {
		return 0, api.ErrDown
	}
	if n.role != api.Leader {
		return 0, api.ErrLeader
	}
	if len(commands) == 0 {
		return 0, api.ErrNone
	}
	s := n.state()
	if len(s.Log)+len(commands) > p.config.Entries {
		return 0, api.ErrFull
	}
	out, e := n.turn(func(a *at) { a.do(commands...) })
	p.send(out)
	if e != api.OK {
		return 0, e
	}
	return s.Base + len(s.Log) + 1, api.OK
}

func (p *plain) compact(k int) api.Errno {
	n := p.nodes[k]
	if n.journal == nil {
		return api.ErrDown
	}
	if n.commit <= n.state().Base {
		return api.ErrNone
	}
	st, _ := n.storeAndResults()
	out, e := n.turn(func(a *at) {
		a.shorten(a.commit, a.term(a.commit), st.Save())
		a.offset = map[int]int{}
	})
	p.send(out)
	return e
}

func (n *plainNode) receive(m api.Message) []api.Message {
	if n.journal == nil || m.To != n.me {
		return nil
	}
	out, _ := n.turn(func(a *at) { a.handle(m) })
	return out
}

func (p *plain) gone(k int) (api.Message, api.Errno) {
	if k < 0 || k >= len(p.flight) {
		return api.Message{}, api.ErrNode
	}
	m := p.flight[k]
	p.flight = slices.Concat(p.flight[:k], p.flight[k+1:])
	return m, api.OK
}

func (p *plain) deliver(k int) api.Errno {
	m, e := p.gone(k)
	if e == api.OK {
		p.send(p.nodes[m.To].receive(m))
	}
	return e
}

func (p *plain) double(k int) api.Errno {
	if k < 0 || k >= len(p.flight) {
		return api.ErrNode
	}
	p.send(p.flight[k : k+1])
	return api.OK
}

func (p *plain) round() {
	flight := p.flight
	p.flight = nil
	for _, n := range p.nodes {
		for _, m := range flight {
			p.send(n.receive(m))
		}
	}
}

func (p *plain) crash(k, keep int) api.Errno {
	n := p.nodes[k]
	if n.journal == nil {
		return api.ErrDown
	}
	n.disk.Crash(keep)
	n.journal = nil
	return api.OK
}

func (p *plain) restart(k int) api.Errno {
	n := p.nodes[k]
	if n.journal != nil {
		return api.ErrNone
	}
	*n = plainNode{me: k, config: p.config, disk: n.disk}
	n.journal, _ = wal.Open(n.disk)
	n.commit = n.state().Base
	return api.OK
}

func (n *plainNode) view() (api.View, api.Errno) {
	if n.journal == nil {
		return api.View{}, api.ErrDown
	}
	s := n.state()
	return api.View{Up: true, Role: n.role, Term: s.Term, Vote: s.Vote, Base: s.Base, BaseTerm: s.BaseTerm, Last: s.Base + len(s.Log), Commit: n.commit}, api.OK
}

// indexes are those of which there is a Result, and some around them.
func indexes(results map[int]api.Result, v api.View) []int {
	return append(slices.Sorted(maps.Keys(results)), -1, 0, v.Base, v.Commit+1, v.Last+1)
}

// note counts what there is of all that a test with drawn calls should come upon.
func (p *plain) note(seen map[string]int) {
	for _, m := range p.flight {
		what := []string{"", "Vote", "Voted", "Append", "Appended", "Piece", "Pieced"}[m.Kind]
		if m.Kind == api.Piece && m.Data == "" {
			what += " of nothing"
		}
		if m.OK {
			what += " OK"
		}
		seen[what]++
	}
	if len(p.flight) == api.MaxFlight {
		seen["full"]++
	}
	for _, n := range p.nodes {
		v, e := n.view()
		seen["log cut off"] += n.cuts
		n.cuts = 0
		if e == api.ErrDown {
			seen["down"]++
		}
		if v.Role == api.Leader && len(p.nodes) > 1 {
			seen["Leader"]++
		}
		if v.Commit > v.Base {
			seen["committed"]++
		}
		if n.pieces != "" {
			seen["some pieces"]++
		}
	}
}
