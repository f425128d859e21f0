package wal

import (
	"strings"

	"conclave/api"
	"conclave/own"
)

// stateOf is what records tell, of which the first one is a Base.
func stateOf(records []api.Record) api.State {
	base := records[0]
	s := api.State{Generation: base.Generation, Vote: -1, Base: base.Index, BaseTerm: base.Term, Data: strings.Clone(base.Data)}
	take(&s, records[1:])
	return s
}

// take makes records a part of a state.
func take(s *api.State, records []api.Record) {
	for _, r := range records {
		switch r.Kind {
		case api.Hard:
			s.Term, s.Vote = r.Term, r.Vote
		case api.Item:
			takeItem(s, r)
		}
	}
}

// takeItem passes over an entry that does not join on to those that are there.
func takeItem(s *api.State, r api.Record) {
	place := r.Index - s.Base - 1
	if place >= 0 && place <= len(s.Log) {
		s.Log = append(s.Log[:place], api.Entry{Term: r.Term, Command: own.Command(r.Command)})
	}
}

// recordsOf is what tells a state.
func recordsOf(s api.State) []api.Record {
	records := []api.Record{
		{Kind: api.Base, Generation: s.Generation, Index: s.Base, Term: s.BaseTerm, Many: 1 + len(s.Log), Data: s.Data},
		{Kind: api.Hard, Term: s.Term, Vote: s.Vote},
	}
	for k, e := range s.Log {
		records = append(records, api.Record{Kind: api.Item, Index: s.Base + 1 + k, Term: e.Term, Command: e.Command})
	}
	return records
}
