// Package check: what numbers, texts and commands may be: see DOC.md, 'Words'.
package check

import "conclave/api"

// Number: may it be a number?
func Number(n int) bool { return n >= 0 && n <= api.MaxNumber }

// Key: may it be a key?
func Key(s string) bool { return s != "" && Value(s) }

// Value: may it be a value?
func Value(s string) bool { return len(s) <= api.MaxText }

// Command: may it be a command?
func Command(c api.Command) bool {
	switch c.Kind {
	case api.Nothing:
		return c == (api.Command{})
	case api.Put:
		return session(c) && Key(c.Key) && Value(c.Value) && c.Old == "" && c.Rev == 0
	case api.Delete:
		return session(c) && Key(c.Key) && c.Value == "" && c.Old == "" && c.Rev == 0
	case api.Swap:
		return session(c) && Key(c.Key) && Value(c.Value) && Value(c.Old) && c.Rev == 0
	case api.Floor:
		return session(c) && c.Key == "" && c.Value == "" && c.Old == "" && Number(c.Rev)
	}
	return false
}

// session: a Seq without a session would belong to nobody, and Seq 0 is what a session begins with: so each is 0 just with the other.
func session(c api.Command) bool {
	return c.Session >= 0 && c.Session <= api.MaxSessions && Number(c.Seq) && (c.Session == 0) == (c.Seq == 0)
}
