package conclave

import (
	"slices"
	"sync"

	"conclave/api"
)

// Deliver delivers a message under way (P13).
func (c *Conclave) Deliver(k int) api.Errno {
	if !c.has(k) {
		return api.ErrNode
	}
	m := c.flight[k]
	c.lose(k)
	c.send(c.nodes[m.To].receive(m)...)
	return api.OK
}

// Drop loses one.
func (c *Conclave) Drop(k int) api.Errno {
	if !c.has(k) {
		return api.ErrNode
	}
	c.lose(k)
	return api.OK
}

// Double has one come twice.
func (c *Conclave) Double(k int) api.Errno {
	if !c.has(k) {
		return api.ErrNode
	}
	c.send(c.flight[k])
	return api.OK
}

// Round delivers all (P13).
func (c *Conclave) Round() {
	inboxes := make([][]api.Message, len(c.nodes))
	for _, m := range c.flight {
		inboxes[m.To] = append(inboxes[m.To], m)
	}
	c.flight = nil
	sent := make([][]api.Message, len(c.nodes))
	var working sync.WaitGroup
	for k, n := range c.nodes {
		working.Add(1)
		go func() {
			defer working.Done()
			sent[k] = n.receive(inboxes[k]...)
		}()
	}
	working.Wait()
	for _, messages := range sent {
		c.send(messages...)
	}
}

// Flight tells what is under way (P19).
func (c *Conclave) Flight() []api.Message {
	told := slices.Clone(c.flight)
	for k := range told {
		told[k].Entries = slices.Clone(told[k].Entries)
	}
	return told
}

func (c *Conclave) has(k int) bool { return k >= 0 && k < len(c.flight) }

func (c *Conclave) lose(k int) { c.flight = slices.Delete(c.flight, k, k+1) }

// send loses what there is no room for.
func (c *Conclave) send(messages ...api.Message) {
	room := api.MaxFlight - len(c.flight)
	c.flight = append(c.flight, messages[:min(room, len(messages))]...)
}
