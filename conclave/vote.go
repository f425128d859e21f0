package conclave

import "conclave/api"

// stand makes it a Candidate, in a new term.
func (n *member) stand() {
	n.enter(n.kept.Term + 1)
	n.become(api.Candidate)
	n.kept.Vote = n.number
	n.gain(n.number)
	if n.role == api.Leader {
		return
	}
	for k := range n.others {
		if k != n.number {
			n.send(api.Message{Kind: api.Vote, To: k, Index: n.last(), Last: n.termAt(n.last())})
		}
	}
}

func (n *member) handleVote(m api.Message) {
	free := n.kept.Vote == -1 || n.kept.Vote == m.From
	ok := m.Term == n.kept.Term && free && !n.isAheadOf(m)
	if ok {
		n.kept.Vote = m.From
	}
	n.send(api.Message{Kind: api.Voted, To: m.From, OK: ok})
}

// isAheadOf: who has less than it has must not lead: entries that are committed could be missing there.
func (n *member) isAheadOf(m api.Message) bool {
	term := n.termAt(n.last())
	return term > m.Last || term == m.Last && n.last() > m.Index
}

func (n *member) handleVoted(m api.Message) {
	if n.role == api.Candidate && m.Term == n.kept.Term && m.OK {
		n.gain(m.From)
	}
}

// gain: one more has voted for it; a vote that comes twice is one.
func (n *member) gain(from int) {
	n.votes[from] = struct{}{}
	if n.areMost(len(n.votes)) {
		n.lead()
	}
}

func (n *member) areMost(many int) bool { return 2*many > n.config.Nodes }

// lead makes it the Leader. An entry of its own term is needed: with that one, those of former terms are committed.
func (n *member) lead() {
	n.become(api.Leader)
	for k := range n.others {
		n.others[k].next = n.last() + 1
	}
	n.add(api.Command{})
	n.look()
	n.sendToAll()
}
