package conclave

import (
	"slices"

	"conclave/api"
)

// View tells of a node (P19).
func (c *Conclave) View(node int) (api.View, api.Errno) {
	n, e := c.up(node)
	if e != api.OK {
		return api.View{}, e
	}
	return api.View{Up: true, Role: n.role, Term: n.kept.Term, Vote: n.kept.Vote, Base: n.kept.Base, BaseTerm: n.kept.BaseTerm, Last: n.last(), Commit: n.committed()}, api.OK
}

// Log tells the entries behind its base (P19).
func (c *Conclave) Log(node int) ([]api.Entry, api.Errno) {
	n, e := c.up(node)
	if e != api.OK {
		return nil, e
	}
	return slices.Clone(n.kept.Log), api.OK
}

// Result tells what a command came to (P19).
func (c *Conclave) Result(node, index int) (api.Result, api.Errno) {
	n, e := c.up(node)
	if e != api.OK {
		return api.Result{}, e
	}
	if index <= n.kept.Base || index > n.committed() {
		return api.Result{}, api.ErrNone
	}
	return n.results[index-n.kept.Base-1], api.OK
}

// Range tells what a node's store has (P19).
func (c *Conclave) Range(node int, from, to string, rev, most int) ([]api.Found, api.Errno) {
	n, e := c.up(node)
	if e != api.OK {
		return nil, e
	}
	return n.store.Range(from, to, rev, most)
}

// Backup tells a node's store as bytes (P19).
func (c *Conclave) Backup(node int) (string, api.Errno) {
	n, e := c.up(node)
	if e != api.OK {
		return "", e
	}
	return n.store.Save(), api.OK
}
