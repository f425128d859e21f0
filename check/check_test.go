package check_test

import (
	"math"
	"strings"
	"testing"

	"conclave/api"
	"conclave/check"
)

func TestNumber(t *testing.T) {
	for n, want := range map[int]bool{math.MinInt: false, -1: false, 0: true, 1: true, 65536: true, 999999: true, 1000000: true, 1000001: false, 1 << 24: false, 1 << 32: false, math.MaxInt: false} {
		if check.Number(n) != want {
			t.Errorf("Number(%d) = %v", n, !want)
		}
	}
}

func TestTexts(t *testing.T) {
	for _, c := range []struct {
		s          string
		key, value bool
	}{{"", false, true}, {"a", true, true}, {"\x00", true, true}, {"\xff\xfe", true, true}, {"12345678", true, true}, {"123456789", false, false}, {"äöüß", true, true}, {"äöüßa", false, false}, {strings.Repeat("x", 256), false, false}} {
		if check.Key(c.s) != c.key || check.Value(c.s) != c.value {
			t.Errorf("%q: Key %v, Value %v, want %v, %v", c.s, check.Key(c.s), check.Value(c.s), c.key, c.value)
		}
	}
}

func TestCommandsThatMayBe(t *testing.T) {
	for _, c := range []api.Command{
		{},
		{Kind: api.Put, Key: "a"},
		{Kind: api.Put, Key: "12345678", Value: "12345678", Session: 8, Seq: 1000000},
		{Kind: api.Delete, Key: "\x00"},
		{Kind: api.Delete, Key: "12345678", Session: 1, Seq: 1},
		{Kind: api.Swap, Key: "a"},
		{Kind: api.Swap, Key: "a", Value: "12345678", Old: "12345678", Session: 8, Seq: 1},
		{Kind: api.Floor},
		{Kind: api.Floor, Rev: 1000000, Session: 1, Seq: 1000000},
	} {
		if !check.Command(c) {
			t.Errorf("Command(%#v) = false", c)
		}
	}
}

func TestCommandsThatMayNotBe(t *testing.T) {
	long := "123456789"
	for _, c := range []api.Command{
		{Kind: -1}, {Kind: 5}, {Kind: 256}, {Kind: math.MinInt}, {Kind: math.MaxInt}, {Kind: 5, Key: "a"},
		{Key: "a"}, {Value: "a"}, {Old: "a"}, {Rev: 1}, {Session: 1}, {Seq: 1}, {Session: 1, Seq: 1},
		{Kind: api.Put}, {Kind: api.Put, Key: long}, {Kind: api.Put, Key: "a", Value: long}, {Kind: api.Put, Key: "a", Old: "a"}, {Kind: api.Put, Key: "a", Rev: 1}, {Kind: api.Put, Key: "a", Rev: -1},
		{Kind: api.Delete}, {Kind: api.Delete, Key: long}, {Kind: api.Delete, Key: "a", Value: "a"}, {Kind: api.Delete, Key: "a", Old: "a"}, {Kind: api.Delete, Key: "a", Rev: 1},
		{Kind: api.Swap}, {Kind: api.Swap, Key: long}, {Kind: api.Swap, Key: "a", Value: long}, {Kind: api.Swap, Key: "a", Old: long}, {Kind: api.Swap, Key: "a", Rev: 1},
		{Kind: api.Floor, Key: "a"}, {Kind: api.Floor, Value: "a"}, {Kind: api.Floor, Old: "a"}, {Kind: api.Floor, Rev: -1}, {Kind: api.Floor, Rev: 1000001},
	} {
		if check.Command(c) {
			t.Errorf("Command(%#v) = true", c)
		}
	}
}

func TestSessions(t *testing.T) {
	for _, c := range []struct {
		session, seq int
		want         bool
	}{{0, 0, true}, {1, 1, true}, {8, 1000000, true}, {0, 1, false}, {1, 0, false}, {8, 0, false}, {9, 1, false}, {-1, 1, false}, {-1, 0, false}, {257, 1, false}, {math.MinInt, 1, false}, {1, -1, false}, {1, 1000001, false}, {1, math.MaxInt, false}, {0, -1, false}} {
		for _, command := range []api.Command{{Kind: api.Put, Key: "a"}, {Kind: api.Delete, Key: "a"}, {Kind: api.Swap, Key: "a"}, {Kind: api.Floor}} {
			command.Session, command.Seq = c.session, c.seq
			if check.Command(command) != c.want {
				t.Errorf("Command(%#v) = %v", command, !c.want)
			}
		}
	}
}
