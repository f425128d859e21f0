package store

import (
	"strconv"
	"testing"

	"conclave/api"
)

// A key of which nothing is left to tell takes no room: no call shows that.
func TestForgottenKeysTakeNoRoom(t *testing.T) {
	s := New()
	for n := range 100 {
		key := strconv.Itoa(n)
		s.Do(api.Command{Kind: api.Put, Key: key}, api.Command{Kind: api.Delete, Key: key}, api.Command{Kind: api.Floor, Rev: 2*n + 1})
	}
	if len(s.versions) != 1 {
		t.Errorf("P6: %d keys are kept, where all but one are forgotten", len(s.versions))
	}
	s.Do(api.Command{Kind: api.Floor, Rev: 200})
	if len(s.versions) != 0 {
		t.Errorf("P6: %d keys are kept, where all are forgotten", len(s.versions))
	}
}
