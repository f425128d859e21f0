package codec_test

import (
	"hash/adler32"
	"math/rand"
	"strings"
	"testing"

	"conclave/codec"
)

func TestSum(t *testing.T) {
	for s, want := range map[string]int{
		"":             1,
		"a":            98*65536 + 98,
		"ab":           (98+196)*65536 + 196,
		"ba":           (99+196)*65536 + 196,
		"\x00":         1*65536 + 1,
		"\x00\x00":     2*65536 + 1,
		"\xff":         256*65536 + 256,
		"\xc3\xa9":     (196+365)*65536 + 365,
		"\xff\xfe\x80": (256+510+638)*65536 + 638,
	} {
		if n := codec.Sum(s); n != want {
			t.Errorf("P3: Sum(%q) = %d, want %d", s, n, want)
		}
	}
}

// At these lengths the one number, or the other, reaches 65521 or goes beyond it.
func TestSumModulo(t *testing.T) {
	for _, c := range []struct {
		s    string
		want int
	}{
		{strings.Repeat("\x00", 65520), 65520*65536 + 1},
		{strings.Repeat("\x00", 65521), 1},
		{strings.Repeat("\x00", 65522), 65536 + 1},
		{strings.Repeat("\xff", 256) + "\xf0", 65536*2048 + 0},
		{strings.Repeat("\xff", 256) + "\xef", 65536*2047 + 65520},
		{strings.Repeat("\xff", 257), 65536*2063 + 15},
	} {
		if n := codec.Sum(c.s); n != c.want {
			t.Errorf("P3: Sum of %d bytes = %d, %d, want %d, %d", len(c.s), n/65536, n%65536, c.want/65536, c.want%65536)
		}
	}
}

// Adler-32 is the same sum, made by somebody else.
func TestSumOfDrawnTexts(t *testing.T) {
	r := rand.New(rand.NewSource(3))
	lengths := []int{5551, 5552, 5553, 65519, 65521, 65536, 1000000}
	for n := range 600 {
		lengths = append(lengths, n)
	}
	for _, n := range lengths {
		b := make([]byte, n)
		for _, fill := range []func(){func() { r.Read(b) }, func() {
			for k := range b {
				b[k] = 255
			}
		}} {
			fill()
			if got, want := codec.Sum(string(b)), int(adler32.Checksum(b)); got != want {
				t.Fatalf("P3: Sum of %d bytes = %d, want %d", n, got, want)
			}
		}
	}
}
