package conclave

import "conclave/api"

// pieces is what has come of a base.
type pieces struct {
	index, last int
	data        []byte
}

// compact makes what is committed the base.
func (n *member) compact(data string) {
	n.rebase(n.committed(), n.termAt(n.committed()), data)
	for k := range n.others {
		n.others[k].offset = 0
	}
}

func (n *member) sendPiece(k int) {
	data, offset := n.kept.Data, n.others[k].offset
	from := min(offset, len(data))
	end := min(from+n.config.Piece, len(data))
	n.send(api.Message{Kind: api.Piece, To: k, Index: n.kept.Base, Last: n.kept.BaseTerm, Data: data[from:end], Offset: offset, End: end == len(data)})
}

func (n *member) handlePiece(m api.Message) {
	answer := api.Message{Kind: api.Pieced, To: m.From}
	if m.Term == n.kept.Term {
		n.become(api.Follower)
		if m.Index <= n.committed() || n.gather(m) {
			answer.OK, answer.Match = true, m.Index
		} else {
			answer.Offset = len(n.pieces.data)
		}
	}
	n.send(answer)
}

// gather takes a piece. Is the base whole by that?
func (n *member) gather(m api.Message) bool {
	if n.pieces.index != m.Index || n.pieces.last != m.Last {
		n.pieces = pieces{index: m.Index, last: m.Last}
	}
	if m.Offset != len(n.pieces.data) {
		return false
	}
	n.pieces.data = append(n.pieces.data, m.Data...)
	if m.End {
		n.adopt(m.Index, m.Last, string(n.pieces.data))
	}
	return m.End
}

// adopt takes a base that has come whole.
func (n *member) adopt(index, term int, data string) {
	n.rebase(index, term, data)
	n.store = saved(data)
	n.pieces = pieces{}
}

func (n *member) handlePieced(m api.Message) {
	if !n.leadsIn(m.Term) {
		return
	}
	if m.OK {
		n.matched(m)
		return
	}
	if o := &n.others[m.From]; o.next <= n.kept.Base {
		o.offset = m.Offset
		n.sendTo(m.From)
	}
}
