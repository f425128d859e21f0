package store_test

import (
	"math"
	"slices"
	"strings"
	"testing"

	"conclave/api"
	"conclave/store"
)

func found(key, value string, rev int) api.Found { return api.Found{Key: key, Value: value, Rev: rev} }

func ranges(t *testing.T, s *store.Store, from, to string, rev, most int, want ...api.Found) {
	t.Helper()
	if l, e := s.Range(from, to, rev, most); e != api.OK || !slices.Equal(l, want) {
		t.Errorf("P7: Range(%q, %q, %d, %d) = %+v, %d, want %+v", from, to, rev, most, l, e, want)
	}
}

func noRange(t *testing.T, s *store.Store, from, to string, rev, most int, want api.Errno) {
	t.Helper()
	if l, e := s.Range(from, to, rev, most); l != nil || e != want {
		t.Errorf("P7: Range(%q, %q, %d, %d) = %+v, %d, want %d", from, to, rev, most, l, e, want)
	}
}

func TestRangeBounds(t *testing.T) {
	s := made(t, put("b", "1"), put("ab", "2"), put("a", "3"), put("\xff", "4"), put("\x00", "5"), put("é", "6"))
	all := []api.Found{found("\x00", "5", 5), found("a", "3", 3), found("ab", "2", 2), found("b", "1", 1), found("é", "6", 6), found("\xff", "4", 4)}
	for _, c := range []struct {
		from, to string
		want     []api.Found
	}{
		{"", "", all}, {"\x00", "", all}, {"\x00\x00", "", all[1:]}, {"a", "", all[1:]}, {"a\x00", "", all[2:]}, {"aa", "", all[2:]}, {"ab", "", all[2:]}, {"b", "", all[3:]}, {"c", "", all[4:]}, {"\xff", "", all[5:]}, {"\xff\x00", "", nil}, {strings.Repeat("\xff", 1000), "", nil},
		{"", "\x00", nil}, {"", "\x00\x00", all[:1]}, {"", "a", all[:1]}, {"", "a\x00", all[:2]}, {"", "b", all[:3]}, {"", "\xff", all[:5]}, {"", "\xff\xff", all}, {"", strings.Repeat("\xff", 1000), all},
		{"a", "b", all[1:3]}, {"a", "ab", all[1:2]}, {"b", "\xff", all[3:5]},
		{"a", "a", nil}, {"b", "a", nil}, {"\xff", "\x00", nil}, {"aa", "ab", nil},
	} {
		ranges(t, s, c.from, c.to, 6, 9, c.want...)
	}
}

func TestRangeMost(t *testing.T) {
	s := made(t, put("a", "1"), put("b", "2"), put("c", "3"), put("d", "4"), remove("b"))
	there := []api.Found{found("a", "1", 1), found("c", "3", 3), found("d", "4", 4)}
	for most := range 5 {
		ranges(t, s, "", "", 5, most, there[:min(most, 3)]...)
	}
	ranges(t, s, "", "", 5, math.MaxInt, there...)
	ranges(t, s, "b", "", 5, 1, there[1])
	ranges(t, s, "b", "c", 5, 9)
	for _, most := range []int{-1, -2, math.MinInt} {
		noRange(t, s, "", "", 5, most, api.ErrArg)
		noRange(t, s, "", "", 6, most, api.ErrArg)
		noRange(t, s, "", "", -1, most, api.ErrArg)
		noRange(t, s, "b", "a", 5, most, api.ErrArg)
	}
}

func TestRangeRevisions(t *testing.T) {
	s := made(t, put("b", "1"), put("a", "2"), put("b", "3"), remove("b"), put("b", ""), remove("a"))
	past := [][]api.Found{
		nil,
		{found("b", "1", 1)},
		{found("a", "2", 2), found("b", "1", 1)},
		{found("a", "2", 2), found("b", "3", 3)},
		{found("a", "2", 2)},
		{found("a", "2", 2), found("b", "", 5)},
		{found("b", "", 5)},
	}
	for rev, want := range past {
		ranges(t, s, "", "", rev, 9, want...)
	}
	for low := 1; low < len(past); low++ {
		do(t, s, floor(low), yes(6))
		for rev, want := range past {
			if rev < low {
				noRange(t, s, "", "", rev, 9, api.ErrRev)
			} else {
				ranges(t, s, "", "", rev, 9, want...)
			}
		}
		for _, rev := range []int{-1, 7, api.MaxNumber, math.MinInt, math.MaxInt} {
			noRange(t, s, "", "", rev, 9, api.ErrRev)
			noRange(t, s, "", "", rev, 0, api.ErrRev)
		}
	}
}

func TestRangeOfAnEmptyStore(t *testing.T) {
	s := store.New()
	ranges(t, s, "", "", 0, 9)
	noRange(t, s, "", "", 1, 9, api.ErrRev)
	noRange(t, s, "", "", -1, 9, api.ErrRev)
}

func TestFoundIsNew(t *testing.T) {
	s := made(t, put("a", "1"), put("b", "2"), put("c", "3"))
	want := []api.Found{found("a", "1", 1), found("b", "2", 2), found("c", "3", 3)}
	first, _ := s.Range("", "", 3, 2)
	second, _ := s.Range("", "", 3, 9)
	room := first[:cap(first)]
	for k := range room {
		room[k] = found("x", "y", 99)
	}
	if !slices.Equal(second, want) {
		t.Errorf("P2: two answers share room: %+v", second)
	}
	ranges(t, s, "", "", 3, 9, want...)
}
