package conclave

import (
	"conclave/api"
	"conclave/own"
)

// ask takes commands, as Leader.
func (n *member) ask(commands ...api.Command) {
	for _, c := range commands {
		n.add(own.Command(c))
	}
	n.look()
	n.sendToAll()
}

func (n *member) sendToAll() {
	for k := range n.others {
		if k != n.number {
			n.sendTo(k)
		}
	}
}

// sendTo sends what the other one lacks: entries, or, if these are gone from the log, the base.
func (n *member) sendTo(k int) {
	if n.others[k].next > n.kept.Base {
		n.sendAppend(k)
	} else {
		n.sendPiece(k)
	}
}

func (n *member) sendAppend(k int) {
	next := n.others[k].next
	n.send(api.Message{Kind: api.Append, To: k, Index: next - 1, Last: n.termAt(next - 1), Entries: n.cut(next, n.config.Batch), Commit: n.committed()})
}

func (n *member) handleAppend(m api.Message) {
	answer := api.Message{Kind: api.Appended, To: m.From}
	if m.Term == n.kept.Term {
		n.become(api.Follower)
		answer.OK, answer.Match = n.join(m)
	}
	n.send(answer)
}

// join puts the entries into the log. Do they join on to it, and up to where are the logs the same (or, if they do not, could they be)?
func (n *member) join(m api.Message) (bool, int) {
	base, end := n.kept.Base, m.Index+len(m.Entries)
	if end <= base {
		return true, end
	}
	if m.Index > n.last() {
		return false, n.last()
	}
	// What is below the base is committed, and so the same everywhere.
	if m.Index >= base && n.termAt(m.Index) != m.Last {
		return false, m.Index - 1
	}
	for index := max(m.Index, base) + 1; index <= end; index++ {
		n.place(index, m.Entries[index-m.Index-1])
	}
	if to := min(m.Commit, end); to > n.committed() {
		n.commit(to)
	}
	return true, end
}

// place: an entry that is there already stays, and what is behind it: the message may be an old one.
func (n *member) place(index int, e api.Entry) {
	if index > n.last() || n.termAt(index) != e.Term {
		n.put(index, e)
	}
}

func (n *member) handleAppended(m api.Message) {
	if !n.leadsIn(m.Term) {
		return
	}
	if m.OK {
		n.matched(m)
		return
	}
	o := &n.others[m.From]
	o.next = max(min(o.next-1, m.Match+1), o.match+1)
	n.sendTo(m.From)
}

func (n *member) leadsIn(term int) bool { return n.role == api.Leader && n.kept.Term == term }

// matched: the other one has the same up to there.
func (n *member) matched(m api.Message) {
	o := &n.others[m.From]
	o.match = max(o.match, m.Match)
	o.next = o.match + 1
	n.look()
	if o.next <= n.last() {
		n.sendTo(m.From)
	}
}

// look looks what is committed. Entries of former terms do not count: another Leader could still put others into their places.
func (n *member) look() {
	for index := n.last(); index > n.committed(); index-- {
		if n.termAt(index) == n.kept.Term && n.areMost(n.having(index)) {
			n.commit(index)
			return
		}
	}
}

// having is how many nodes have an entry, itself with them.
func (n *member) having(index int) int {
	many := 1
	for k, o := range n.others {
		if k != n.number && o.match >= index {
			many++
		}
	}
	return many
}
