package pack_test

import (
	"strings"
	"testing"

	"conclave/pack"
)

func TestAppend(t *testing.T) {
	for _, c := range []struct {
		name string
		b    []byte
		want string
	}{
		{"number 0", pack.AppendNumber(nil, 0), "\x00\x00\x00"},
		{"number 66051", pack.AppendNumber([]byte("x"), 66051), "x\x01\x02\x03"},
		{"number 1000000", pack.AppendNumber(nil, 1000000), "\x0f\x42\x40"},
		{"no text", pack.AppendText([]byte("x"), ""), "x\x00"},
		{"text", pack.AppendText([]byte("x"), "ab"), "x\x02ab"},
		{"no block", pack.AppendBlock(nil, ""), "\x00\x00\x00"},
		{"yes", pack.AppendFlag([]byte("x"), true), "x\x01"},
		{"no", pack.AppendFlag([]byte("x"), false), "x\x00"},
		{"block", pack.AppendBlock([]byte("x"), strings.Repeat("y", 258)), "x\x00\x01\x02" + strings.Repeat("y", 258)},
	} {
		if string(c.b) != c.want {
			t.Errorf("%s: %q, want %q", c.name, c.b, c.want)
		}
	}
}

func TestReader(t *testing.T) {
	in := pack.NewReader("\xff" + "\x0f\x42\x40" + "\x02ab" + "\x00" + "\x00\x01\x02" + strings.Repeat("y", 258) + "z")
	if n := in.Byte(); n != 255 {
		t.Errorf("Byte = %d", n)
	}
	if n := in.Number(); n != 1000000 {
		t.Errorf("Number = %d", n)
	}
	if s := in.Text(); s != "ab" {
		t.Errorf("Text = %q", s)
	}
	if s := in.Text(); s != "" {
		t.Errorf("Text = %q", s)
	}
	if s := in.Block(); s != strings.Repeat("y", 258) {
		t.Errorf("Block has %d bytes", len(s))
	}
	if in.Done() || in.Left() != 1 {
		t.Errorf("ahead of the last byte: Done %v, Left %d", in.Done(), in.Left())
	}
	if n := in.Byte(); n != 'z' || !in.Done() || in.Left() != 0 {
		t.Errorf("behind the last byte %d: Done %v, Left %d", n, in.Done(), in.Left())
	}
}

func TestReaderThatIsShort(t *testing.T) {
	for _, c := range []struct {
		name, s string
		take    func(*pack.Reader) bool
	}{
		{"Byte", "", func(r *pack.Reader) bool { return r.Byte() == 0 }},
		{"Number", "\x01\x02", func(r *pack.Reader) bool { return r.Number() == 0 }},
		{"Text without length", "", func(r *pack.Reader) bool { return r.Text() == "" }},
		{"Text", "\x03ab", func(r *pack.Reader) bool { return r.Text() == "" }},
		{"Flag", "", func(r *pack.Reader) bool { return !r.Flag() }},
		{"Block without length", "\x00\x00", func(r *pack.Reader) bool { return r.Block() == "" }},
		{"Block", "\x00\x00\x03ab", func(r *pack.Reader) bool { return r.Block() == "" }},
	} {
		in := pack.NewReader(c.s)
		if !c.take(in) || in.Done() || in.Left() != 0 {
			t.Errorf("%s of %q: Done %v, Left %d", c.name, c.s, in.Done(), in.Left())
		}
		if in.Byte() != 0 || in.Number() != 0 || in.Text() != "" || in.Flag() || in.Block() != "" || in.Done() {
			t.Errorf("%s of %q: there is more behind the part that is not all there", c.name, c.s)
		}
	}
}

func TestFlags(t *testing.T) {
	in := pack.NewReader("\x01\x00\x01")
	if !in.Flag() || in.Flag() || !in.Flag() || !in.Done() {
		t.Errorf("the flags 1, 0, 1 come as others")
	}
	for n := 2; n < 256; n++ {
		in := pack.NewReader(string([]byte{byte(n), 1, 1}))
		if in.Flag() || in.Done() || in.Left() != 0 || in.Flag() || in.Byte() != 0 {
			t.Errorf("the byte %d is taken for a flag", n)
		}
	}
}
