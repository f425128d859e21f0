package own_test

import (
	"strings"
	"testing"
	"unsafe"

	"conclave/api"
	"conclave/own"
)

func TestCommand(t *testing.T) {
	text := strings.Repeat("long", 100)
	for _, c := range []api.Command{
		{}, {Kind: api.Put, Key: text[:3], Value: text[3:8], Session: 2, Seq: 3}, {Kind: api.Swap, Key: text[1:2], Value: text[2:4], Old: text[5:9]}, {Kind: api.Floor, Rev: 7},
		{Kind: -1, Key: text, Value: "\xff\x00", Old: text[:0], Rev: -5, Session: -6, Seq: -7},
	} {
		got := own.Command(c)
		if got != c {
			t.Errorf("P2: the copy of %+v is %+v", c, got)
		}
		for k, s := range []string{got.Key, got.Value, got.Old} {
			if s != "" && unsafe.StringData(s) == unsafe.StringData([]string{c.Key, c.Value, c.Old}[k]) {
				t.Errorf("P2: the copy of %+v is a piece of what was handed in", c)
			}
		}
	}
}
