package conclave

import (
	"slices"

	"conclave/api"
)

// last is its last index.
func (n *member) last() int { return n.kept.Base + len(n.kept.Log) }

// committed: each entry up to there has its Result.
func (n *member) committed() int { return n.kept.Base + len(n.results) }

// termAt is the term of an entry, or of the base.
func (n *member) termAt(index int) int {
	if index == n.kept.Base {
		return n.kept.BaseTerm
	}
	return n.kept.Log[index-n.kept.Base-1].Term
}

// cut is the entries from an index on, most of them at most. They stand in the log's own room: so they must not reach into the room behind them, where the log goes on.
func (n *member) cut(from, most int) []api.Entry {
	first := from - n.kept.Base - 1
	end := min(first+most, len(n.kept.Log))
	return n.kept.Log[first:end:end]
}

// put lays an entry into its place; what was there, and behind it, is gone. It may be under way: so the log goes on in new room then.
func (n *member) put(index int, e api.Entry) {
	place := index - n.kept.Base - 1
	log := n.kept.Log
	if place < len(log) {
		log = log[:place:place]
	}
	n.kept.Log = append(log, e)
	n.now.items = append(n.now.items, api.Record{Kind: api.Item, Index: index, Term: e.Term, Command: e.Command})
}

// add puts commands behind the log, in its own term.
func (n *member) add(commands ...api.Command) {
	for _, c := range commands {
		n.put(n.last()+1, api.Entry{Term: n.kept.Term, Command: c})
	}
}

// commit does the commands of the entries up to there.
func (n *member) commit(index int) {
	entries := n.cut(n.committed()+1, index-n.committed())
	commands := make([]api.Command, len(entries))
	for k, e := range entries {
		commands[k] = e.Command
	}
	results, _ := n.store.Do(commands...)
	n.results = append(n.results, results...)
}

// rebase takes all up to an index out of the log: data tells of it now. What is behind stays, if the log has that very entry.
func (n *member) rebase(index, term int, data string) {
	var behind []api.Entry
	if index <= n.last() && n.termAt(index) == term {
		behind = slices.Clone(n.kept.Log[index-n.kept.Base:])
	}
	n.kept.Base, n.kept.BaseTerm, n.kept.Data, n.kept.Log = index, term, data, behind
	n.results = nil
	n.now.based = true
}
