package codec_test

import (
	"math/rand"
	"slices"
	"strings"
	"testing"

	"conclave/api"
	"conclave/codec"
)

// journal puts each record behind its length, without asking codec.
func journal(records ...api.Record) string {
	s := ""
	for _, r := range records {
		s += number(len(sealed(body(r)))) + sealed(body(r))
	}
	return s
}

func scans(t *testing.T, why, s string, want []api.Record, bytes int) {
	t.Helper()
	l, n := codec.Scan(s)
	if !slices.Equal(l, want) || n != bytes {
		t.Errorf("P5: %s: Scan of %d bytes = %d records, %d, want %d, %d", why, len(s), len(l), n, len(want), bytes)
	}
}

func TestScanWhole(t *testing.T) {
	good := goodRecords()
	for k := range len(good) + 1 {
		s := journal(good[:k]...)
		scans(t, "whole", s, good[:k], len(s))
	}
	scans(t, "the same twice", journal(good[0], good[0]), []api.Record{good[0], good[0]}, 2*len(journal(good[0])))
}

func TestScanBrokenOff(t *testing.T) {
	good := goodRecords()
	s := journal(good...)
	whole, end := 0, 0
	for k := range len(s) {
		for whole < len(good) && end+len(journal(good[whole])) <= k {
			end += len(journal(good[whole]))
			whole++
		}
		scans(t, "broken off", s[:k], good[:whole], end)
	}
}

func TestScanStops(t *testing.T) {
	hard, nothing := api.Record{Kind: api.Hard, Term: 2, Vote: 1}, api.Record{Kind: api.Item, Index: 1}
	one, two := journal(hard), journal(nothing)
	wrong := sealed(body(api.Record{Kind: api.Hard, Vote: 5}))
	for name, s := range map[string]string{
		"a length of 0":           number(0),
		"a length of 1":           number(1) + "x",
		"a length too short":      number(8) + one[3:],
		"a length too long":       number(10) + one[3:],
		"the longest length":      text(255, 255, 255) + one[3:],
		"a length in four bytes":  text(0) + one,
		"the length from behind":  text(9, 0, 0) + one[3:],
		"no length":               one[3:],
		"another byte":            one[:6] + "\x03" + one[7:],
		"another sum":             one[:11] + "\x08",
		"a record that may not":   number(len(wrong)) + wrong,
		"two behind one length":   number(len(one)-3+len(two)-3) + one[3:] + two[3:],
		"text":                    "hello",
		"zero bytes":              strings.Repeat("\x00", 40),
		"a length and no record":  one[:3],
		"a length and one byte":   one[:4],
		"two bytes of a length":   one[:2],
		"the last byte is not in": two[:len(two)-1],
	} {
		scans(t, name+", first", s, nil, 0)
		scans(t, name+", first, and more", s+two, nil, 0)
		scans(t, name+", behind", one+two+s, []api.Record{hard, nothing}, len(one+two))
	}
	scans(t, "records behind a wrong one", one+number(len(wrong))+wrong+two, []api.Record{hard}, len(one))
}

// A record's length is no number of P4's: it goes beyond MaxNumber.
func TestScanLongest(t *testing.T) {
	for _, n := range []int{236, 65516, 999980, 999981, 1000000} {
		r := api.Record{Kind: api.Base, Generation: 1, Data: strings.Repeat("x", n)}
		hard := api.Record{Kind: api.Hard, Term: 1}
		s := journal(hard, r, hard)
		scans(t, "long", s, []api.Record{hard, r, hard}, len(s))
		scans(t, "long, broken off", s[:len(s)-13], []api.Record{hard}, 12)
	}
}

// Whatever bit of a journal turns, lengths and sums too: the records ahead of it are there, and none behind.
func TestScanAnotherByte(t *testing.T) {
	records := []api.Record{{Kind: api.Hard, Term: 2, Vote: 1}, item(api.Command{Kind: api.Put, Key: "a", Value: "b"}), {Kind: api.Hard, Term: 3, Vote: -1}}
	first, second := len(journal(records[0])), len(journal(records[:2]...))
	s := journal(records...)
	for k := range len(s) {
		b := []byte(s)
		b[k] ^= 0x40
		switch {
		case k < first:
			scans(t, "another byte", string(b), nil, 0)
		case k < second:
			scans(t, "another byte", string(b), records[:1], first)
		default:
			scans(t, "another byte", string(b), records[:2], second)
		}
	}
}

func TestScanOfDrawnBytes(t *testing.T) {
	r := rand.New(rand.NewSource(6))
	for range 2000 {
		var records []api.Record
		for range r.Intn(6) {
			records = append(records, draw(r))
		}
		s := journal(records...)
		scans(t, "drawn", s, records, len(s))
		b := make([]byte, r.Intn(40))
		r.Read(b)
		l, n := codec.Scan(s + string(b))
		if n < len(s) || n > len(s)+len(b) || journal(l...) != (s + string(b))[:n] {
			t.Fatalf("P5: Scan of %v = %d records, %d", []byte(s+string(b)), len(l), n)
		}
	}
}

func TestScanGivesNewLists(t *testing.T) {
	good := goodRecords()
	s := journal(good...)
	first, _ := codec.Scan(s)
	second, _ := codec.Scan(s)
	all := first[:cap(first)]
	for k := range all {
		all[k] = api.Record{Kind: 99}
	}
	if !slices.Equal(second, good) {
		t.Errorf("P2: what Scan gave changes with what it gave ahead of that")
	}
	scans(t, "once more", s, good, len(s))
}
