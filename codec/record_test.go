package codec_test

import (
	"hash/adler32"
	"math"
	"math/rand"
	"strings"
	"testing"

	"conclave/api"
	"conclave/codec"
)

const maxText = "12345678"

func text(l ...int) string {
	var b []byte
	for _, n := range l {
		b = append(b, byte(n))
	}
	return string(b)
}

func number(n int) string { return text(n>>16, n>>8, n) }

// sealed has the right sum behind it, whatever the body is; it does not ask codec.
func sealed(body string) string {
	n := int(adler32.Checksum([]byte(body)))
	return body + text(n>>24, n>>16, n>>8, n)
}

// body writes what a record's kind has, also if it may not be.
func body(r api.Record) string {
	switch r.Kind {
	case api.Base:
		return text(1) + number(r.Generation) + number(r.Index) + number(r.Term) + number(r.Many) + number(len(r.Data)) + r.Data
	case api.Hard:
		return text(2) + number(r.Term) + text(r.Vote+1)
	case api.Item:
		c := r.Command
		return text(3) + number(r.Index) + number(r.Term) + text(c.Kind, c.Session) + number(c.Seq) +
			text(len(c.Key)) + c.Key + text(len(c.Value)) + c.Value + text(len(c.Old)) + c.Old + number(c.Rev)
	}
	return text(r.Kind)
}

func item(c api.Command) api.Record { return api.Record{Kind: api.Item, Index: 7, Term: 3, Command: c} }

func short(s string) string {
	if len(s) > 60 {
		return s[:60] + ".."
	}
	return s
}

func goodRecords() []api.Record {
	return []api.Record{
		{Kind: api.Base, Generation: 1},
		{Kind: api.Base, Generation: 66051, Index: 263430, Term: 460809, Many: 658188, Data: "ab\x00\xff"},
		{Kind: api.Base, Generation: 1000000, Index: 1000000, Term: 1000000, Many: 1000000, Data: "é"},
		{Kind: api.Base, Generation: 255, Index: 256, Term: 65535, Many: 65536, Data: strings.Repeat("x", 256)},
		{Kind: api.Hard}, {Kind: api.Hard, Vote: -1}, {Kind: api.Hard, Vote: 4, Term: 1000000}, {Kind: api.Hard, Vote: 3, Term: 66051},
		{Kind: api.Item, Index: 1}, {Kind: api.Item, Index: 1000000, Term: 1000000}, {Kind: api.Item, Index: 66051, Term: 263430},
		item(api.Command{Kind: api.Put, Key: "a"}), item(api.Command{Kind: api.Put, Key: maxText, Value: maxText, Session: 8, Seq: 1000000}), item(api.Command{Kind: api.Put, Key: "\x00", Value: "\xff\xfe", Session: 1, Seq: 66051}),
		item(api.Command{Kind: api.Delete, Key: "ab"}), item(api.Command{Kind: api.Delete, Key: maxText, Session: 1, Seq: 1}),
		item(api.Command{Kind: api.Swap, Key: "a"}), item(api.Command{Kind: api.Swap, Key: "a", Value: "b"}), item(api.Command{Kind: api.Swap, Key: "a", Old: "b"}), item(api.Command{Kind: api.Swap, Key: maxText, Value: maxText, Old: maxText, Session: 8, Seq: 256}),
		item(api.Command{Kind: api.Floor}), item(api.Command{Kind: api.Floor, Rev: 1000000}), item(api.Command{Kind: api.Floor, Rev: 66051, Session: 5, Seq: 65536}),
	}
}

// wrongInBytes: records that may not be, though bytes can tell them.
func wrongInBytes() []api.Record {
	base := api.Record{Kind: api.Base, Generation: 1}
	l := []api.Record{{Kind: 0}, {Kind: 4}, {Kind: 255}, {Kind: api.Base}, {Kind: api.Base, Index: 1, Term: 1, Data: "x"}, {Kind: api.Item}, {Kind: api.Item, Term: 1, Command: api.Command{Kind: api.Put, Key: "a"}}, {Kind: api.Hard, Vote: 5}, {Kind: api.Hard, Vote: 6}, {Kind: api.Hard, Vote: 254}}
	for _, n := range []int{1000001, 1 << 20, 1<<24 - 1} {
		b := base
		b.Data = strings.Repeat("x", n)
		l = append(l, b,
			api.Record{Kind: api.Base, Generation: n}, api.Record{Kind: api.Base, Generation: 1, Index: n}, api.Record{Kind: api.Base, Generation: 1, Term: n}, api.Record{Kind: api.Base, Generation: 1, Many: n},
			api.Record{Kind: api.Hard, Term: n}, api.Record{Kind: api.Item, Index: n}, api.Record{Kind: api.Item, Index: 1, Term: n},
			item(api.Command{Kind: api.Floor, Rev: n}), item(api.Command{Kind: api.Put, Key: "a", Session: 1, Seq: n}))
	}
	for _, s := range []string{"123456789", strings.Repeat("x", 255)} {
		l = append(l, item(api.Command{Kind: api.Put, Key: s}), item(api.Command{Kind: api.Put, Key: "a", Value: s}), item(api.Command{Kind: api.Delete, Key: s}),
			item(api.Command{Kind: api.Swap, Key: s}), item(api.Command{Kind: api.Swap, Key: "a", Value: s}), item(api.Command{Kind: api.Swap, Key: "a", Old: s}))
	}
	for _, c := range []api.Command{
		{Kind: 5}, {Kind: 5, Key: "a"}, {Kind: 255}, {Key: "a"}, {Value: "a"}, {Old: "a"}, {Rev: 1}, {Session: 1, Seq: 1}, {Session: 1}, {Seq: 1},
		{Kind: api.Put}, {Kind: api.Put, Value: "a"}, {Kind: api.Put, Key: "a", Old: "a"}, {Kind: api.Put, Key: "a", Rev: 1},
		{Kind: api.Put, Key: "a", Session: 9, Seq: 1}, {Kind: api.Put, Key: "a", Session: 255, Seq: 1}, {Kind: api.Put, Key: "a", Session: 1}, {Kind: api.Put, Key: "a", Seq: 1},
		{Kind: api.Delete}, {Kind: api.Delete, Key: "a", Value: "a"}, {Kind: api.Delete, Key: "a", Old: "a"}, {Kind: api.Delete, Key: "a", Rev: 1}, {Kind: api.Delete, Key: "a", Session: 8}, {Kind: api.Delete, Key: "a", Seq: 1},
		{Kind: api.Swap}, {Kind: api.Swap, Value: "a", Old: "a"}, {Kind: api.Swap, Key: "a", Rev: 1}, {Kind: api.Swap, Key: "a", Session: 9, Seq: 1}, {Kind: api.Swap, Key: "a", Seq: 1},
		{Kind: api.Floor, Key: "a"}, {Kind: api.Floor, Value: "a"}, {Kind: api.Floor, Old: "a"}, {Kind: api.Floor, Session: 1}, {Kind: api.Floor, Session: 9, Seq: 1}, {Kind: api.Floor, Seq: 1},
	} {
		l = append(l, item(c))
	}
	return l
}

// wrongBesideBytes: records that may not be, and that bytes would tell as others, which may be.
func wrongBesideBytes() []api.Record {
	put := api.Command{Kind: api.Put, Key: "a"}
	l := []api.Record{
		{Kind: -1}, {Kind: 257, Generation: 1}, {Kind: 258}, {Kind: 259, Index: 1}, {Kind: math.MinInt}, {Kind: math.MaxInt}, {Vote: -1}, {Data: "x"},
		{Kind: api.Base, Generation: 1, Vote: 1}, {Kind: api.Base, Generation: 1, Vote: -1}, {Kind: api.Base, Generation: 1, Command: put}, {Kind: api.Base, Generation: 1, Command: api.Command{Rev: 1}}, {Kind: api.Base, Generation: 1, Data: strings.Repeat("x", 1<<24)},
		{Kind: api.Hard, Vote: -2}, {Kind: api.Hard, Vote: 256}, {Kind: api.Hard, Vote: math.MinInt}, {Kind: api.Hard, Vote: math.MaxInt}, {Kind: api.Hard, Generation: 1}, {Kind: api.Hard, Index: 1}, {Kind: api.Hard, Many: 1}, {Kind: api.Hard, Data: "x"}, {Kind: api.Hard, Command: put}, {Kind: api.Hard, Command: api.Command{Old: "x"}},
		{Kind: api.Item, Index: 1, Generation: 1}, {Kind: api.Item, Index: 1, Many: 1}, {Kind: api.Item, Index: 1, Vote: 1}, {Kind: api.Item, Index: 1, Vote: -1}, {Kind: api.Item, Index: 1, Data: "x"},
		item(api.Command{Kind: -1}), item(api.Command{Kind: 256}), item(api.Command{Kind: 257, Key: "a"}), item(api.Command{Kind: math.MinInt}),
		item(api.Command{Kind: api.Put, Key: strings.Repeat("x", 256)}), item(api.Command{Kind: api.Put, Key: "a", Value: strings.Repeat("x", 257)}), item(api.Command{Kind: api.Swap, Key: "a", Old: strings.Repeat("x", 256)}),
		item(api.Command{Kind: api.Put, Key: "a", Session: -1, Seq: 1}), item(api.Command{Kind: api.Put, Key: "a", Session: 257, Seq: 1}), item(api.Command{Kind: api.Put, Key: "a", Session: math.MaxInt, Seq: 1}),
	}
	for _, n := range []int{-1, 1<<24 + 1, 1<<32 + 1, math.MinInt, math.MaxInt} {
		l = append(l,
			api.Record{Kind: api.Base, Generation: n}, api.Record{Kind: api.Base, Generation: 1, Index: n}, api.Record{Kind: api.Base, Generation: 1, Term: n}, api.Record{Kind: api.Base, Generation: 1, Many: n},
			api.Record{Kind: api.Hard, Term: n}, api.Record{Kind: api.Item, Index: n}, api.Record{Kind: api.Item, Index: 1, Term: n},
			item(api.Command{Kind: api.Floor, Rev: n}), item(api.Command{Kind: api.Put, Key: "a", Session: 1, Seq: n}))
	}
	return l
}

func refuse(t *testing.T, s, why string) {
	t.Helper()
	if r, e := codec.Decode(s); r != (api.Record{}) || e != api.ErrBytes {
		t.Errorf("P4: %s: Decode(% x) of %d bytes = %d, kind %d, want ErrBytes alone", why, short(s), len(s), e, r.Kind)
	}
}

func TestRecordsWrittenByHand(t *testing.T) {
	for _, c := range []struct {
		r api.Record
		s string
	}{
		{api.Record{Kind: api.Hard, Term: 2, Vote: 1}, text(2, 0, 0, 2, 2, 0, 21, 0, 7)},
		{api.Record{Kind: api.Hard, Vote: -1}, text(2, 0, 0, 0, 0, 0, 15, 0, 3)},
		{api.Record{Kind: api.Hard, Term: 1000000, Vote: 4}, text(2, 15, 66, 64, 5, 1, 150, 0, 153)},
		{api.Record{Kind: api.Base, Generation: 66051, Index: 263430, Term: 460809, Many: 658188, Data: "\x0d\x0e"}, text(1, 1, 2, 3, 4, 5, 6, 7, 8, 9, 10, 11, 12, 0, 0, 2, 13, 14, 3, 68, 0, 109)},
		{api.Record{Kind: api.Item, Index: 1}, text(3, 0, 0, 1, 0, 0, 0, 0, 0, 0, 0, 0, 0, 0, 0, 0, 0, 0, 0, 87, 0, 5)},
		{item(api.Command{Kind: api.Swap, Key: "k", Value: "vw", Old: "old", Session: 6, Seq: 66051}),
			sealed(text(3, 0, 0, 7, 0, 0, 3, 3, 6, 1, 2, 3, 1, 'k', 2, 'v', 'w', 3, 'o', 'l', 'd', 0, 0, 0))},
	} {
		if s, e := codec.Encode(c.r); s != c.s || e != api.OK {
			t.Errorf("P4: Encode(%#v) = %v, %d, want %v", c.r, []byte(s), e, []byte(c.s))
		}
		if r, e := codec.Decode(c.s); r != c.r || e != api.OK {
			t.Errorf("P4: Decode(%v) = %#v, %d, want %#v", []byte(c.s), r, e, c.r)
		}
	}
}

func TestRecordsThatMayBe(t *testing.T) {
	for _, r := range goodRecords() {
		want := sealed(body(r))
		if s, e := codec.Encode(r); s != want || e != api.OK {
			t.Errorf("P4: Encode(%#v) = %v, %d, want %v", r, []byte(s), e, []byte(want))
		}
		if got, e := codec.Decode(want); got != r || e != api.OK {
			t.Errorf("P4: Decode(%v) = %#v, %d, want %#v", []byte(want), got, e, r)
		}
	}
}

func TestRecordsThatMayNotBe(t *testing.T) {
	for _, r := range append(wrongInBytes(), wrongBesideBytes()...) {
		if s, e := codec.Encode(r); s != "" || e != api.ErrArg {
			r.Data = short(r.Data)
			t.Errorf("P4: Encode(%#v) = % x, %d, want ErrArg alone", r, short(s), e)
		}
	}
	for _, r := range wrongInBytes() {
		refuse(t, sealed(body(r)), "a record that may not be")
	}
}

func TestDataOfAllLengths(t *testing.T) {
	for _, n := range []int{0, 1, 255, 256, 65535, 65536, 65537, 999999, 1000000} {
		r := api.Record{Kind: api.Base, Generation: 2, Many: 1, Data: strings.Repeat("\xfd", n)}
		s, e := codec.Encode(r)
		if s != sealed(body(r)) || len(s) != n+20 || e != api.OK {
			t.Errorf("P4: Encode of %d bytes of Data: %d, %d bytes", n, e, len(s))
		}
		if got, e := codec.Decode(sealed(body(r))); got != r || e != api.OK {
			t.Errorf("P4: Decode of %d bytes of Data: %d", n, e)
		}
	}
}

func TestBytesShorterAndLonger(t *testing.T) {
	for _, r := range goodRecords() {
		s, inner := sealed(body(r)), body(r)
		for k := range len(s) {
			refuse(t, s[:k], "broken off")
		}
		for k := 1; k < len(s); k++ {
			refuse(t, s[k:], "begun too late")
		}
		for k := range len(inner) {
			refuse(t, sealed(inner[:k]), "broken off ahead of the sum")
		}
		for _, more := range []string{"\x00", "\x01", s} {
			refuse(t, s+more, "longer")
			refuse(t, more+s, "longer at the beginning")
			refuse(t, sealed(inner+more), "longer ahead of the sum")
		}
	}
}

func TestBytesWithAnotherOne(t *testing.T) {
	for _, r := range goodRecords() {
		b := []byte(sealed(body(r)))
		for k := range b {
			for more := 1; more < 256; more++ {
				b[k] += byte(more)
				refuse(t, string(b), "another byte")
				b[k] -= byte(more)
			}
		}
	}
}

// A length that tells more, or less, than there is, with the right sum behind all of it.
func TestBytesWithAnotherLength(t *testing.T) {
	base := text(1) + number(1) + number(0) + number(0) + number(0)
	for _, s := range []string{
		base + number(3) + "ab", base + number(1) + "ab", base + number(0) + "ab", base + number(1<<24-1) + "ab", base + text(0, 2) + "ab",
		text(3) + number(1) + number(1) + text(1, 0) + number(0) + text(2) + "a" + text(0, 0) + number(0),
		text(3) + number(1) + number(1) + text(1, 0) + number(0) + text(255) + "a" + text(0, 0) + number(0),
		text(3) + number(1) + number(1) + text(1, 0) + number(0) + text(1) + "ab" + text(0, 0) + number(0),
		"", text(2), text(2) + number(1), text(2) + text(1, 1),
	} {
		refuse(t, sealed(s), "another length")
	}
}

// A sum stands behind its bytes, the highest byte first.
func TestOtherSums(t *testing.T) {
	s := sealed(body(api.Record{Kind: api.Hard, Term: 2, Vote: 1}))
	inner, sum := s[:5], s[5:]
	for _, other := range []string{text(0, 0, 0, 0), text(7, 0, 21, 0), text(0, 7, 0, 21), text(255, 255, 255, 255), sum[1:], "\x00" + sum} {
		refuse(t, inner+other, "another sum")
	}
	refuse(t, sum+inner, "the sum ahead")
	for _, s := range []string{"", "\x00", "\x02", sum, text(0, 0, 0, 0), text(0, 0, 0, 1)} {
		refuse(t, s, "no record")
	}
}

func draw(r *rand.Rand) api.Record {
	word := func(least int) string {
		b := make([]byte, least+r.Intn(api.MaxText+1-least))
		r.Read(b)
		return string(b)
	}
	number := func(least int) int { return least + r.Intn(api.MaxNumber+1-least)>>r.Intn(20) }
	switch r.Intn(4) {
	case 0:
		return api.Record{Kind: api.Hard, Term: number(0), Vote: r.Intn(api.MaxNodes+1) - 1}
	case 1:
		data := make([]byte, r.Intn(300))
		r.Read(data)
		return api.Record{Kind: api.Base, Generation: number(1), Index: number(0), Term: number(0), Many: number(0), Data: string(data)}
	}
	c := api.Command{Kind: r.Intn(5)}
	switch c.Kind {
	case api.Put:
		c.Key, c.Value = word(1), word(0)
	case api.Delete:
		c.Key = word(1)
	case api.Swap:
		c.Key, c.Value, c.Old = word(1), word(0), word(0)
	case api.Floor:
		c.Rev = number(0)
	}
	if c.Kind != api.Nothing && r.Intn(2) == 0 {
		c.Session, c.Seq = 1+r.Intn(api.MaxSessions), number(1)
	}
	return api.Record{Kind: api.Item, Index: number(1), Term: number(0), Command: c}
}

func TestDrawnRecords(t *testing.T) {
	r := rand.New(rand.NewSource(4))
	for range 5000 {
		x := draw(r)
		s, e := codec.Encode(x)
		if s != sealed(body(x)) || e != api.OK {
			t.Fatalf("P4: Encode(%#v) = %v, %d", x, []byte(s), e)
		}
		if y, e := codec.Decode(s); y != x || e != api.OK {
			t.Fatalf("P4: Decode(Encode(%#v)) = %#v, %d", x, y, e)
		}
	}
}

// What Decode takes is what Encode gives, and it takes nothing else: also of bytes whose sum is right.
func TestDrawnBytes(t *testing.T) {
	r := rand.New(rand.NewSource(5))
	taken := 0
	for range 60000 {
		inner := []byte(body(draw(r)))
		for range 1 + r.Intn(2) {
			inner[r.Intn(len(inner))] = byte(r.Intn(256) >> r.Intn(9))
		}
		s := sealed(string(inner))
		x, e := codec.Decode(s)
		back, f := codec.Encode(x)
		switch {
		case e == api.OK && (f != api.OK || back != s):
			t.Fatalf("P4: Decode(%v) = %#v, whose Encode is %v, %d", []byte(s), x, []byte(back), f)
		case e == api.OK:
			taken++
		case e != api.ErrBytes || x != (api.Record{}):
			t.Fatalf("P4: Decode(%v) = %#v, %d", []byte(s), x, e)
		}
	}
	if taken == 0 || taken == 60000 {
		t.Errorf("%d of 60000 were taken: nothing was tried", taken)
	}
}
