package tests

import (
	"encoding/hex"
	"fmt"
	"math"
	"strconv"
	"strings"
	"testing"

	"loop.example/g02076/impl"
)

// boundaryNumbers returns the numbers around every power of two and of ten that an int can hold, and their negatives.
func boundaryNumbers() []int {
	out := []int{0, math.MinInt, math.MinInt + 1, math.MaxInt, math.MaxInt - 1}
	around := func(p int) {
		for d := -2; d <= 2; d++ {
			out = append(out, p+d, -(p + d))
		}
	}
	for i := range 62 {
		around(1 << i)
	}
	for p := 1; p <= math.MaxInt/100; p *= 10 {
		around(p)
	}
	return out
}

// shortStrings calls f with every string of at most n bytes of the alphabet.
func shortStrings(alphabet string, n int, f func(s string)) {
	var extend func(s string)
	extend = func(s string) {
		f(s)
		if len(s) == n {
			return
		}
		for i := range len(alphabet) {
			extend(s + alphabet[i:i+1])
		}
	}
	extend("")
}

func allBytes() string {
	out := make([]byte, 256)
	for i := range out {
		out[i] = byte(i)
	}
	return string(out)
}

func TestEncodeFixed(t *testing.T) {
	cases := []struct {
		n, width int
		want     string
	}{
		{258, 2, "\x01\x02"},
		{0, 1, "\x00"},
		{0, 7, "\x00\x00\x00\x00\x00\x00\x00"},
		{255, 1, "\xff"},
		{256, 1, ""},
		{256, 2, "\x01\x00"},
		{65535, 2, "\xff\xff"},
		{65536, 2, ""},
		{65536, 3, "\x01\x00\x00"},
		{0x01020304050607, 7, "\x01\x02\x03\x04\x05\x06\x07"},
		{1<<56 - 1, 7, "\xff\xff\xff\xff\xff\xff\xff"},
		{1 << 56, 7, ""},
		{math.MaxInt, 7, ""},
		{-1, 1, ""},
		{-1, 7, ""},
		{math.MinInt, 7, ""},
		{0, 0, ""},
		{1, 0, ""},
		{0, 8, ""},
		{1, 8, ""},
		{0, -1, ""},
		{5, math.MinInt, ""},
		{5, math.MaxInt, ""},
	}
	for _, c := range cases {
		if got := impl.EncodeFixed(c.n, c.width); got != c.want {
			t.Errorf("EncodeFixed(%d, %d) = %q, want %q", c.n, c.width, got, c.want)
		}
	}
}

func TestDecodeFixed(t *testing.T) {
	cases := []struct {
		s     string
		width int
		n     int
		ok    bool
	}{
		{"\x01\x02", 2, 258, true},
		{"\x01\x02\x03", 2, 258, true},
		{"\x01\x02\x03", 1, 1, true},
		{"\x00\x00", 2, 0, true},
		{"\xff", 1, 255, true},
		{"\xff\xff\xff\xff\xff\xff\xff", 7, 1<<56 - 1, true},
		{"\xff\xff\xff\xff\xff\xff\xff\xff", 7, 1<<56 - 1, true},
		{"\x01\x02\x03\x04\x05\x06\x07", 7, 0x01020304050607, true},
		{"\xc3\xa9", 1, 0xc3, true},
		{"", 1, 0, false},
		{"a", 2, 0, false},
		{"abcdef", 7, 0, false},
		{"", 0, 0, false},
		{"abc", 0, 0, false},
		{"abcdefgh", 8, 0, false},
		{"abc", -1, 0, false},
		{"abc", math.MinInt, 0, false},
		{"abc", math.MaxInt, 0, false},
	}
	for _, c := range cases {
		if n, ok := impl.DecodeFixed(c.s, c.width); n != c.n || ok != c.ok {
			t.Errorf("DecodeFixed(%q, %d) = %d, %t, want %d, %t", c.s, c.width, n, ok, c.n, c.ok)
		}
	}
}

func TestFixedRoundTrip(t *testing.T) {
	for _, n := range boundaryNumbers() {
		for width := -1; width <= 9; width++ {
			s := impl.EncodeFixed(n, width)
			fits := width >= 1 && width <= 7 && n >= 0 && n < 1<<(8*max(0, min(width, 7)))
			if !fits {
				if s != "" {
					t.Errorf("EncodeFixed(%d, %d) = %q, want none", n, width, s)
				}
				continue
			}
			if len(s) != width {
				t.Errorf("EncodeFixed(%d, %d) has %d bytes", n, width, len(s))
			}
			for _, rest := range []string{"", "\x00", "\xffz"} {
				if m, ok := impl.DecodeFixed(s+rest, width); m != n || !ok {
					t.Errorf("DecodeFixed(%q, %d) = %d, %t, want %d", s+rest, width, m, ok, n)
				}
			}
		}
	}
}

func TestFixedDecodesEveryString(t *testing.T) {
	shortStrings(allBytes(), 2, func(s string) {
		n, ok := impl.DecodeFixed(s, len(s))
		if ok != (s != "") || ok && impl.EncodeFixed(n, len(s)) != s {
			t.Errorf("DecodeFixed(%q, %d) = %d, %t", s, len(s), n, ok)
		}
	})
}

func TestEncodeVarint(t *testing.T) {
	cases := []struct {
		n    int
		want string
	}{
		{300, "\xac\x02"},
		{0, "\x00"},
		{1, "\x01"},
		{127, "\x7f"},
		{128, "\x80\x01"},
		{16383, "\xff\x7f"},
		{16384, "\x80\x80\x01"},
		{1 << 42, "\x80\x80\x80\x80\x80\x80\x01"},
		{1<<42 - 1, "\xff\xff\xff\xff\xff\x7f"},
		{impl.MaxVarint, "\xff\xff\xff\xff\xff\xff\x7f"},
		{impl.MaxVarint + 1, ""},
		{math.MaxInt, ""},
		{-1, ""},
		{math.MinInt, ""},
	}
	for _, c := range cases {
		if got := impl.EncodeVarint(c.n); got != c.want {
			t.Errorf("EncodeVarint(%d) = %q, want %q", c.n, got, c.want)
		}
	}
}

func TestDecodeVarint(t *testing.T) {
	cases := []struct {
		s    string
		n, k int
	}{
		{"\xac\x02", 300, 2},
		{"\xac\x02z", 300, 2},
		{"\xac\x02\x00", 300, 2},
		{"\x00", 0, 1},
		{"\x00\x80", 0, 1},
		{"\x7f\xff", 127, 1},
		{"\x80\x01", 128, 2},
		{"\xff\xff\xff\xff\xff\xff\x7f", impl.MaxVarint, 7},
		{"\xff\xff\xff\xff\xff\xff\x7f\x01", impl.MaxVarint, 7},
		{"\x80\x80\x80\x80\x80\x80\x01", 1 << 42, 7},
	}
	for _, c := range cases {
		if n, k := impl.DecodeVarint(c.s); n != c.n || k != c.k {
			t.Errorf("DecodeVarint(%q) = %d, %d, want %d, %d", c.s, n, k, c.n, c.k)
		}
	}
}

func TestDecodeVarintRejects(t *testing.T) {
	cut := "\xff\xff\xff\xff\xff\xff\xff\xff\xff\xff\xff"
	for k := range len(cut) + 1 {
		expectNoVarint(t, cut[:k])
	}
	unnecessary := []string{
		"\x80\x00",
		"\xff\x00",
		"\xac\x82\x00",
		"\x80\x80\x00",
		"\x81\x80\x00z",
		"\x80\x80\x80\x80\x80\x80\x00",
		"\xff\xff\xff\xff\xff\xff\x00",
	}
	for _, s := range unnecessary {
		expectNoVarint(t, s)
	}
	tooGreat := []string{
		"\x80\x80\x80\x80\x80\x80\x80\x01",
		"\xff\xff\xff\xff\xff\xff\xff\x7f",
		"\x80\x80\x80\x80\x80\x80\x80\x80\x80\x01",
		"\x80\x80\x80\x80\x80\x80\x80\x00",
	}
	for _, s := range tooGreat {
		expectNoVarint(t, s)
	}
}

func expectNoVarint(t *testing.T, s string) {
	t.Helper()
	if n, k := impl.DecodeVarint(s); n != 0 || k != 0 {
		t.Errorf("DecodeVarint(%q) = %d, %d, want 0, 0", s, n, k)
	}
}

func TestVarintRoundTrip(t *testing.T) {
	numbers := boundaryNumbers()
	for n := range 20000 {
		numbers = append(numbers, n)
	}
	for _, n := range numbers {
		s := impl.EncodeVarint(n)
		if n < 0 || n > impl.MaxVarint {
			if s != "" {
				t.Errorf("EncodeVarint(%d) = %q, want none", n, s)
			}
			continue
		}
		for _, rest := range []string{"", "\x00", "\xff", "\x80\x00"} {
			if m, k := impl.DecodeVarint(s + rest); m != n || k != len(s) {
				t.Errorf("DecodeVarint(%q) = %d, %d, want %d, %d", s+rest, m, k, n, len(s))
			}
		}
		for k := range len(s) {
			expectNoVarint(t, s[:k])
		}
	}
}

func TestVarintDecodesOnlyVarints(t *testing.T) {
	shortStrings("\x00\x01\x7f\x80\xff", 8, func(s string) {
		n, k := impl.DecodeVarint(s)
		if k > 0 && impl.EncodeVarint(n) != s[:k] || k == 0 && n != 0 {
			t.Errorf("DecodeVarint(%q) = %d, %d", s, n, k)
		}
	})
}

func TestEncodeHex(t *testing.T) {
	cases := []struct{ s, want string }{
		{"", ""},
		{"a\xff", "61ff"},
		{"\x00", "00"},
		{"\x0f\xf0", "0ff0"},
		{"\n~", "0a7e"},
		{"\u00e9", "c3a9"},
		{"\xc3", "c3"},
		{"\xef\xbf\xbd", "efbfbd"},
	}
	for _, c := range cases {
		if got := impl.EncodeHex(c.s); got != c.want {
			t.Errorf("EncodeHex(%q) = %q, want %q", c.s, got, c.want)
		}
	}
}

func TestDecodeHex(t *testing.T) {
	cases := []struct{ s, want string }{
		{"", ""},
		{"61ff", "a\xff"},
		{"00", "\x00"},
		{"0ff0", "\x0f\xf0"},
		{"0123456789abcdef", "\x01\x23\x45\x67\x89\xab\xcd\xef"},
	}
	for _, c := range cases {
		if got, ok := impl.DecodeHex(c.s); got != c.want || !ok {
			t.Errorf("DecodeHex(%q) = %q, %t, want %q", c.s, got, ok, c.want)
		}
	}
}

func TestDecodeHexRejects(t *testing.T) {
	bad := []string{
		"6", "616", "6F", "F6", "61FF", "0x61", "g0", "0g", " 61", "61 ", "61\n", "-1", "+1", "/0", ":0", "`0", "@0", "6\x00",
		"\xff\xff", "6\xff", "61\xc3\xa9", "\u00e961", "\uff10", "61\u0661", "\u00e9", "6161g",
	}
	for _, s := range bad {
		if got, ok := impl.DecodeHex(s); got != "" || ok {
			t.Errorf("DecodeHex(%q) = %q, %t, want none", s, got, ok)
		}
	}
}

func TestHexRoundTrip(t *testing.T) {
	check := func(s string) {
		h := impl.EncodeHex(s)
		if want := hex.EncodeToString([]byte(s)); h != want {
			t.Errorf("EncodeHex(%q) = %q, want %q", s, h, want)
		}
		if got, ok := impl.DecodeHex(h); got != s || !ok {
			t.Errorf("DecodeHex(%q) = %q, %t, want %q", h, got, ok, s)
		}
	}
	shortStrings(allBytes(), 2, check)
	check(strings.Repeat(allBytes(), 20))
}

func TestHexDecodesOnlyHex(t *testing.T) {
	shortStrings(allBytes(), 2, func(s string) {
		got, ok := impl.DecodeHex(s)
		lower := strings.Trim(s, "0123456789abcdef") == "" && len(s)%2 == 0
		if ok != lower || ok && impl.EncodeHex(got) != s || !ok && got != "" {
			t.Errorf("DecodeHex(%q) = %q, %t", s, got, ok)
		}
	})
}

func TestFormatInt(t *testing.T) {
	cases := []struct {
		n    int
		want string
	}{
		{0, "0"},
		{7, "7"},
		{-7, "-7"},
		{-120, "-120"},
		{1000000000, "1000000000"},
		{math.MaxInt, "9223372036854775807"},
		{math.MinInt, "-9223372036854775808"},
	}
	for _, c := range cases {
		if got := impl.FormatInt(c.n); got != c.want {
			t.Errorf("FormatInt(%d) = %q, want %q", c.n, got, c.want)
		}
	}
	for _, n := range boundaryNumbers() {
		if got := impl.FormatInt(n); got != fmt.Sprintf("%d", n) {
			t.Errorf("FormatInt(%d) = %q", n, got)
		}
	}
}

func TestParseInt(t *testing.T) {
	cases := []struct {
		s string
		n int
	}{
		{"-7", -7},
		{"0", 0},
		{"9", 9},
		{"10", 10},
		{"-120", -120},
		{"123456789", 123456789},
		{"999999999", 999999999},
		{"-999999999", -999999999},
		{"-100000000", -100000000},
	}
	for _, c := range cases {
		if n, ok := impl.ParseInt(c.s); n != c.n || !ok {
			t.Errorf("ParseInt(%q) = %d, %t, want %d", c.s, n, ok, c.n)
		}
	}
}

func TestParseIntRejects(t *testing.T) {
	bad := []string{
		"", "-", "--1", "-0", "00", "07", "-07", "000000000", "+1", " 1", "1 ", "1\n", "1-", "1_0", "0x1", "1.0", "1e3", "/", ":", "a",
		"1000000000", "-1000000000", "0000000001", "9999999999", "9223372036854775808", "-9223372036854775808", "18446744073709551617",
		"\u0661", "\uff11", "1\xff", "\xff", "1\x00", strings.Repeat("9", 5000), strings.Repeat("-", 5000),
	}
	for _, s := range bad {
		if n, ok := impl.ParseInt(s); n != 0 || ok {
			t.Errorf("ParseInt(%q) = %d, %t, want none", s, n, ok)
		}
	}
}

func TestIntRoundTrip(t *testing.T) {
	for _, n := range boundaryNumbers() {
		m, ok := impl.ParseInt(impl.FormatInt(n))
		short := n >= -999999999 && n <= 999999999
		if ok != short || ok && m != n || !ok && m != 0 {
			t.Errorf("ParseInt(%q) = %d, %t", impl.FormatInt(n), m, ok)
		}
	}
}

func TestParseIntReadsOnlyFormats(t *testing.T) {
	shortStrings("-+019 a\xff", 5, func(s string) {
		want, err := strconv.Atoi(s)
		isFormat := err == nil && strconv.Itoa(want) == s
		n, ok := impl.ParseInt(s)
		if ok != isFormat || ok && n != want || !ok && n != 0 {
			t.Errorf("ParseInt(%q) = %d, %t", s, n, ok)
		}
	})
}
