// Package codec: commands and records as bytes: see DOC.md.
package codec

import (
	"strings"

	"conclave/api"
	"conclave/check"
	"conclave/pack"
)

const (
	modulus  = 65521
	half     = 65536
	sumBytes = 4
)

// Sum is the check sum of a text (P3).
func Sum(s string) int {
	a, b := 1, 0
	for k := range len(s) {
		a = (a + int(s[k])) % modulus
		b = (b + a) % modulus
	}
	return half*b + a
}

// Encode writes a record (P4).
func Encode(r api.Record) (string, api.Errno) {
	if !mayBe(r) {
		return "", api.ErrArg
	}
	body := string(appendRecord(nil, r))
	return body + sealOf(body), api.OK
}

// Decode reads one (P4).
func Decode(s string) (api.Record, api.Errno) {
	end := len(s) - sumBytes
	if end < 0 || s[end:] != sealOf(s[:end]) {
		return api.Record{}, api.ErrBytes
	}
	// A copy: the record must not hold on to what was handed in.
	in := pack.NewReader(strings.Clone(s[:end]))
	r := readRecord(in)
	if !in.Done() || !mayBe(r) {
		return api.Record{}, api.ErrBytes
	}
	return r, api.OK
}

// Scan reads a journal (P5).
func Scan(s string) ([]api.Record, int) {
	var records []api.Record
	taken := 0
	in := pack.NewReader(s)
	for {
		// A block that breaks off comes as "", which no record is.
		r, e := Decode(in.Block())
		if e != api.OK {
			return records, taken
		}
		records = append(records, r)
		taken = len(s) - in.Left()
	}
}

// sealOf is the sum of a record's bytes, as it stands behind them: it needs one byte more than a number has.
func sealOf(body string) string {
	n := Sum(body)
	return string([]byte{byte(n >> 24), byte(n >> 16), byte(n >> 8), byte(n)})
}

func mayBe(r api.Record) bool {
	switch r.Kind {
	case api.Base:
		numbers := r.Generation >= 1 && check.Number(r.Generation) && check.Number(r.Index) && check.Number(r.Term) && check.Number(r.Many)
		return numbers && len(r.Data) <= api.MaxNumber && r.Vote == 0 && r.Command == (api.Command{})
	case api.Hard:
		own := api.Record{Kind: api.Hard, Term: r.Term, Vote: r.Vote}
		return r == own && check.Number(r.Term) && r.Vote >= -1 && r.Vote < api.MaxNodes
	case api.Item:
		own := api.Record{Kind: api.Item, Index: r.Index, Term: r.Term, Command: r.Command}
		return r == own && r.Index >= 1 && check.Number(r.Index) && check.Number(r.Term) && check.Command(r.Command)
	}
	return false
}

func appendRecord(b []byte, r api.Record) []byte {
	b = append(b, byte(r.Kind))
	switch r.Kind {
	case api.Base:
		b = pack.AppendNumber(b, r.Generation)
		b = pack.AppendNumber(b, r.Index)
		b = pack.AppendNumber(b, r.Term)
		b = pack.AppendNumber(b, r.Many)
		b = pack.AppendBlock(b, r.Data)
	case api.Hard:
		b = pack.AppendNumber(b, r.Term)
		b = append(b, byte(r.Vote+1))
	case api.Item:
		b = pack.AppendNumber(b, r.Index)
		b = pack.AppendNumber(b, r.Term)
		b = appendCommand(b, r.Command)
	}
	return b
}

func appendCommand(b []byte, c api.Command) []byte {
	b = append(b, byte(c.Kind), byte(c.Session))
	b = pack.AppendNumber(b, c.Seq)
	b = pack.AppendText(b, c.Key)
	b = pack.AppendText(b, c.Value)
	b = pack.AppendText(b, c.Old)
	return pack.AppendNumber(b, c.Rev)
}

// readRecord takes what appendRecord put there; whether it was there, and may be, is asked behind it.
func readRecord(in *pack.Reader) api.Record {
	r := api.Record{Kind: in.Byte()}
	switch r.Kind {
	case api.Base:
		r.Generation = in.Number()
		r.Index = in.Number()
		r.Term = in.Number()
		r.Many = in.Number()
		r.Data = in.Block()
	case api.Hard:
		r.Term = in.Number()
		r.Vote = in.Byte() - 1
	case api.Item:
		r.Index = in.Number()
		r.Term = in.Number()
		r.Command = readCommand(in)
	}
	return r
}

func readCommand(in *pack.Reader) api.Command {
	c := api.Command{Kind: in.Byte()}
	c.Session = in.Byte()
	c.Seq = in.Number()
	c.Key = in.Text()
	c.Value = in.Text()
	c.Old = in.Text()
	c.Rev = in.Number()
	return c
}
