package store

import (
	"slices"
	"sort"
)

// version: what a key came to in a revision: a value, or it is gone.
type version struct {
	rev   int
	value string
	gone  bool
}

// history is a key's versions, by rising revisions.
type history []version

// upTo is how many of them are not above rev.
func (h history) upTo(rev int) int {
	return sort.Search(len(h), func(k int) bool { return h[k].rev > rev })
}

// at is the newest one that is not above rev. Ahead of the first one a key is gone.
func (h history) at(rev int) version {
	n := h.upTo(rev)
	if n == 0 {
		return version{gone: true}
	}
	return h[n-1]
}

// from is what tells of the revisions from floor on. It uses the history's own room.
func (h history) from(floor int) history {
	n := h.upTo(floor)
	if n > 0 && !h[n-1].gone {
		// This value is there at the floor, though it came ahead of it.
		n--
	}
	return slices.Delete(h, 0, n)
}
