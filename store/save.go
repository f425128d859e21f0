package store

import (
	"strings"

	"conclave/api"
	"conclave/check"
	"conclave/pack"
)

// Save tells all of it as bytes (P8).
func (s *Store) Save() string {
	keys := s.keys("", "")
	many := 0
	for _, key := range keys {
		many += len(s.versions[key])
	}
	b := pack.AppendNumber(nil, s.revision)
	b = pack.AppendNumber(b, s.floor)
	b = pack.AppendNumber(b, many)
	for _, key := range keys {
		for _, v := range s.versions[key] {
			b = appendVersion(b, key, v)
		}
	}
	for _, one := range s.sessions {
		b = appendSession(b, one)
	}
	return string(b)
}

// Load reads them (P8).
func Load(text string) (*Store, api.Errno) {
	in := pack.NewReader(text)
	s := New()
	s.revision = in.Number()
	s.floor = in.Number()
	revisions := check.Number(s.revision) && s.floor <= s.revision
	if !revisions || !s.takeVersions(in) || !s.takeSessions(in) || !in.Done() {
		return nil, api.ErrBytes
	}
	return s, api.OK
}

func appendVersion(b []byte, key string, v version) []byte {
	b = pack.AppendText(b, key)
	b = pack.AppendNumber(b, v.rev)
	b = pack.AppendFlag(b, v.gone)
	return pack.AppendText(b, v.value)
}

func appendSession(b []byte, one session) []byte {
	b = pack.AppendNumber(b, one.seq)
	b = pack.AppendFlag(b, one.result.OK)
	return pack.AppendNumber(b, one.result.Rev)
}

// takeVersions: may they be, and do they stand in their order? Where the bytes are at their end, revisions are 0, which may not be: so it ends soon, however many versions were told.
func (s *Store) takeVersions(in *pack.Reader) bool {
	taken := map[int]struct{}{}
	last := ""
	for range in.Number() {
		key, v := takeVersion(in)
		h := s.versions[key]
		_, twice := taken[v.rev]
		behind := key >= last && h.upTo(v.rev) == len(h)
		if twice || !behind || !s.mayHave(key, v) {
			return false
		}
		s.versions[key] = append(h, v)
		taken[v.rev] = struct{}{}
		last = key
	}
	return true
}

// takeVersion copies the texts: else all the bytes that were handed in would be kept with them.
func takeVersion(in *pack.Reader) (string, version) {
	key := strings.Clone(in.Text())
	v := version{rev: in.Number()}
	v.gone = in.Flag()
	v.value = strings.Clone(in.Text())
	return key, v
}

func (s *Store) mayHave(key string, v version) bool {
	if v.gone && v.value != "" {
		return false
	}
	return check.Key(key) && check.Value(v.value) && v.rev >= 1 && v.rev <= s.revision
}

// takeSessions: may they be?
func (s *Store) takeSessions(in *pack.Reader) bool {
	for k := range s.sessions {
		one := session{seq: in.Number()}
		one.result.OK = in.Flag()
		one.result.Rev = in.Number()
		begun := one.seq != 0 || one == (session{})
		if !begun || !check.Number(one.seq) || one.result.Rev > s.revision {
			return false
		}
		s.sessions[k] = one
	}
	return true
}
