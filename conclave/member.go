package conclave

import (
	"conclave/api"
	"conclave/store"
	"conclave/wal"
)

// member is a node. While it is down, it has nothing but its number, its settings and its disk.
type member struct {
	number  int
	config  api.Config
	disk    *wal.Disk
	journal *wal.Wal  // nil, if it is down
	kept    api.State // what the journal tells (but its Generation), or will tell behind this turn
	role    int
	store   *store.Store
	results []api.Result     // of the entries that are committed, from the base on
	votes   map[int]struct{} // as Candidate: who has voted for it
	others  []other          // as Leader: what it knows of each node
	pieces  pieces
	now     changes
}

// other is what a Leader knows of another node.
type other struct {
	next, match, offset int
}

// changes is what a node has done in a turn: what is to be written of it, and what is to be sent then.
type changes struct {
	term, vote int // as they were ahead of the turn
	items      []api.Record
	based      bool // it has a new base
	sent       []api.Message
}

func newMember(number int, config api.Config, data string) *member {
	n := &member{number: number, config: config, disk: wal.NewDisk()}
	journal, _ := wal.Open(n.disk)
	journal.Rewrite(api.State{Vote: -1, Data: data})
	n.start()
	return n
}

// start brings it up, with nothing but what its disk has.
func (n *member) start() {
	n.journal, _ = wal.Open(n.disk)
	n.kept, _ = n.journal.State()
	n.store = saved(n.kept.Data)
	n.votes = map[int]struct{}{}
	n.others = make([]other, n.config.Nodes)
}

// fall: what is not on its disk is gone.
func (n *member) fall() {
	*n = member{number: n.number, config: n.config, disk: n.disk}
}

func (n *member) up() bool { return n.journal != nil }

// saved is the store of a base. Load takes these bytes: they are from Save, whoever has sent them.
func saved(data string) *store.Store {
	s, _ := store.Load(data)
	return s
}

// receive handles messages, as long as the node is up, and tells what it has sent by that.
func (n *member) receive(messages ...api.Message) []api.Message {
	var sent []api.Message
	for _, m := range messages {
		if !n.up() {
			break
		}
		more, _ := n.turn(func() { n.handle(m) })
		sent = append(sent, more...)
	}
	return sent
}

// turn lets the node do something. Nobody may learn of that ahead of its disk: so what it sends is told behind the writing, and not at all if that fails.
func (n *member) turn(do func()) ([]api.Message, api.Errno) {
	n.now = changes{term: n.kept.Term, vote: n.kept.Vote}
	do()
	if n.write() != api.OK {
		n.fall()
		return nil, api.ErrDown
	}
	sent := n.now.sent
	n.now = changes{}
	return sent, api.OK
}

func (n *member) write() api.Errno {
	if n.now.based {
		return n.journal.Rewrite(n.kept)
	}
	var records []api.Record
	if n.kept.Term != n.now.term || n.kept.Vote != n.now.vote {
		records = append(records, api.Record{Kind: api.Hard, Term: n.kept.Term, Vote: n.kept.Vote})
	}
	return n.journal.Write(append(records, n.now.items...)...)
}

// send: From and Term are the node's own, whatever it sends.
func (n *member) send(m api.Message) {
	m.From, m.Term = n.number, n.kept.Term
	n.now.sent = append(n.now.sent, m)
}

// become: what it knew as what it was ahead of this, it does not know any more.
func (n *member) become(role int) {
	n.role = role
	clear(n.votes)
	clear(n.others)
}

// enter brings it to a term in which it has not voted.
func (n *member) enter(term int) {
	n.become(api.Follower)
	n.kept.Term, n.kept.Vote = term, -1
}

func (n *member) handle(m api.Message) {
	if m.Term > n.kept.Term {
		n.enter(m.Term)
	}
	switch m.Kind {
	case api.Vote:
		n.handleVote(m)
	case api.Voted:
		n.handleVoted(m)
	case api.Append:
		n.handleAppend(m)
	case api.Appended:
		n.handleAppended(m)
	case api.Piece:
		n.handlePiece(m)
	case api.Pieced:
		n.handlePieced(m)
	}
}
