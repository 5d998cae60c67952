package tests

import (
	"math"
	"strings"
	"testing"

	"loop.example/g02076/impl"
)

// oddLetters are numbers that are no points of any matrix, besides 0 and 3.
var oddLetters = []int{math.MinInt, -1, 0, 3, 4, math.MaxInt}

// wordsUpTo returns all words of at most n of the letters, which ascend, shorter words first and those of one length in lexicographic order.
func wordsUpTo(letters []int, n int) [][]int {
	out := [][]int{nil}
	start := 0
	for range n {
		end := len(out)
		for _, w := range out[start:end] {
			for _, letter := range letters {
				out = append(out, append(copyList(w), letter))
			}
		}
		start = end
	}
	return out
}

func pointsOf(c [][]int) []int {
	out := make([]int, len(c))
	for i := range out {
		out[i] = i
	}
	return out
}

// roomyList returns the list as the start of a longer array, and that array.
func roomyList(l []int) ([]int, []int) {
	all := append(copyList(l), 77, 77, 77)
	return all[:len(l)], all
}

func repeated(letter int, n int) []int {
	out := make([]int, n)
	for i := range out {
		out[i] = letter
	}
	return out
}

// digitsOf is the format of a word of points.
func digitsOf(w []int) string {
	out := ""
	for _, letter := range w {
		out += string("1234"[letter])
	}
	if out == "" {
		return "e"
	}
	return out
}

func expectWord(t *testing.T, what string, got []int, want []int) {
	t.Helper()
	if !sameRow(got, want) {
		t.Errorf("%s = %v, want %v", what, got, want)
	}
}

func expectNoWord(t *testing.T, c [][]int, s string) {
	t.Helper()
	if w, ok := impl.ParseWord(c, s); ok || len(w) != 0 {
		t.Errorf("ParseWord(%v, %q) = %v, %t, want none", c, s, w, ok)
	}
}

func TestLimitOfWords(t *testing.T) {
	if impl.MaxWord != 15 {
		t.Errorf("MaxWord = %d", impl.MaxWord)
	}
}

func TestIsWord(t *testing.T) {
	manyCartans(func(c [][]int) {
		for _, w := range [][]int{nil, {}, pointsOf(c), repeated(len(c)-1, 15), repeated(0, 15)} {
			if !impl.IsWord(c, w) {
				t.Errorf("IsWord(%v, %v) = false", c, w)
			}
		}
		for _, w := range [][]int{{len(c)}, {-1}, {0, len(c)}, {len(c), 0}, repeated(0, 16), repeated(len(c)-1, 16), repeated(0, 1000)} {
			if impl.IsWord(c, w) {
				t.Errorf("IsWord(%v, %v) = true", c, w)
			}
		}
	})
}

func TestIsWordChecksEachLetter(t *testing.T) {
	for _, s := range namedCartans {
		c := mustParseCartan(t, s)
		for n := 1; n <= 15; n++ {
			for at := range n {
				w := repeated(len(c)-1, n)
				for letter := -2; letter <= 5; letter++ {
					w[at] = letter
					if valid := letter >= 0 && letter < len(c); impl.IsWord(c, w) != valid {
						t.Errorf("IsWord(%s, %v) = %t", s, w, !valid)
					}
				}
				for _, letter := range []int{math.MinInt, math.MaxInt, 1 << 32, 256} {
					w[at] = letter
					if impl.IsWord(c, w) {
						t.Errorf("IsWord(%s, %v) = true", s, w)
					}
				}
			}
		}
	}
}

func TestConcatWords(t *testing.T) {
	cases := []struct{ a, b, want []int }{
		{nil, nil, nil},
		{[]int{}, nil, nil},
		{[]int{0, 1}, nil, []int{0, 1}},
		{nil, []int{0, 1}, []int{0, 1}},
		{[]int{0, 1}, []int{2}, []int{0, 1, 2}},
		{[]int{1, 0}, []int{0, 1}, []int{1, 0, 0, 1}},
		{[]int{math.MaxInt, -5}, []int{math.MinInt, 9}, []int{math.MaxInt, -5, math.MinInt, 9}},
	}
	for _, c := range cases {
		expectWord(t, "ConcatWords", impl.ConcatWords(c.a, c.b), c.want)
	}
	// The result is a list, not a word: there is no limit of its length.
	expectWord(t, "ConcatWords of long words", impl.ConcatWords(repeated(2, 15), repeated(2, 300)), repeated(2, 315))
}

func TestReverseWord(t *testing.T) {
	cases := []struct{ w, want []int }{
		{nil, nil},
		{[]int{}, nil},
		{[]int{3}, []int{3}},
		{[]int{0, 1}, []int{1, 0}},
		{[]int{0, 1, 2}, []int{2, 1, 0}},
		{[]int{0, 0, 1, 2}, []int{2, 1, 0, 0}},
		{[]int{math.MinInt, 7, math.MaxInt}, []int{math.MaxInt, 7, math.MinInt}},
		{append(repeated(1, 20), 2), append([]int{2}, repeated(1, 20)...)},
	}
	for _, c := range cases {
		expectWord(t, "ReverseWord", impl.ReverseWord(c.w), c.want)
	}
	for _, a := range wordsUpTo([]int{0, 1, 2}, 3) {
		for _, b := range wordsUpTo([]int{0, 1, 2}, 3) {
			got := impl.ReverseWord(impl.ConcatWords(a, b))
			expectWord(t, "ReverseWord of two words", got, impl.ConcatWords(impl.ReverseWord(b), impl.ReverseWord(a)))
			expectWord(t, "ReverseWord twice", impl.ReverseWord(got), append(copyList(a), b...))
		}
	}
}

func TestCompareWords(t *testing.T) {
	for _, letters := range [][]int{{0, 1, 2, 3}, oddLetters} {
		ordered := wordsUpTo(letters, 3)
		for i, a := range ordered {
			for j, b := range ordered {
				want := 0
				if i < j {
					want = -1
				} else if i > j {
					want = 1
				}
				if got := impl.CompareWords(a, b); got != want {
					t.Errorf("CompareWords(%v, %v) = %d, want %d", a, b, got, want)
				}
				if got := impl.EqualWords(a, b); got != (i == j) {
					t.Errorf("EqualWords(%v, %v) = %t", a, b, got)
				}
			}
		}
	}
}

func TestCompareLongWords(t *testing.T) {
	long := repeated(1, 40)
	for at := range long {
		greater := copyList(long)
		greater[at] = 2
		if impl.CompareWords(long, greater) != -1 || impl.CompareWords(greater, long) != 1 || impl.EqualWords(long, greater) {
			t.Errorf("words with another letter at %d compare wrongly", at)
		}
		if impl.CompareWords(greater[:at], long) != -1 || impl.CompareWords(long, greater[:at]) != 1 || impl.EqualWords(long, long[:at]) {
			t.Errorf("a word of %d letters compares wrongly with one of 40", at)
		}
	}
	if impl.CompareWords(long, copyList(long)) != 0 || !impl.EqualWords(long, copyList(long)) {
		t.Error("a long word is not equal to its copy")
	}
	if impl.CompareWords(repeated(9, 2), repeated(0, 3)) != -1 || impl.CompareWords(repeated(0, 3), repeated(9, 2)) != 1 {
		t.Error("a shorter word with greater letters does not come first")
	}
}

func TestSupportOf(t *testing.T) {
	cases := []struct{ w, want []int }{
		{nil, nil},
		{[]int{}, nil},
		{[]int{2}, []int{2}},
		{[]int{2, 0, 2, 0}, []int{0, 2}},
		{[]int{3, 2, 1, 0}, []int{0, 1, 2, 3}},
		{[]int{math.MaxInt, 5, -5, math.MinInt, 5}, []int{math.MinInt, -5, 5, math.MaxInt}},
		{repeated(1, 30), []int{1}},
	}
	for _, c := range cases {
		expectWord(t, "SupportOf", impl.SupportOf(c.w), c.want)
	}
	for _, letters := range [][]int{{0, 1, 2, 3}, oddLetters} {
		for _, w := range wordsUpTo(letters, 4) {
			var want []int
			for _, letter := range letters {
				if contains(w, letter) {
					want = append(want, letter)
				}
			}
			expectWord(t, "SupportOf", impl.SupportOf(w), want)
		}
	}
}

func TestAlternatingWord(t *testing.T) {
	for _, i := range oddLetters {
		for _, j := range oddLetters {
			for _, n := range []int{math.MinInt, -16, -2, -1, 0, 1, 2, 3, 4, 5, 14, 15, 16, 17, 31, math.MaxInt} {
				var want []int
				for k := 0; k < n && k < 15; k++ {
					if k%2 == 0 {
						want = append(want, i)
					} else {
						want = append(want, j)
					}
				}
				expectWord(t, "AlternatingWord", impl.AlternatingWord(i, j, n), want)
			}
		}
	}
}

func TestFormatWord(t *testing.T) {
	cases := []struct {
		w    []int
		want string
	}{
		{nil, "e"},
		{[]int{}, "e"},
		{[]int{0}, "1"},
		{[]int{3}, "4"},
		{[]int{0, 1, 0}, "121"},
		{[]int{3, 2, 1, 0}, "4321"},
		// Only the letters count: the format does not know the matrix, nor MaxWord.
		{repeated(2, 15), strings.Repeat("3", 15)},
		{repeated(2, 16), strings.Repeat("3", 16)},
		{repeated(3, 500), strings.Repeat("4", 500)},
	}
	for _, c := range cases {
		if got := impl.FormatWord(c.w); got != c.want {
			t.Errorf("FormatWord(%v) = %q, want %q", c.w, got, c.want)
		}
	}
	for _, bad := range []int{math.MinInt, -257, -256, -50, -49, -2, -1, 4, 5, 8, 9, 52, 255, 256, 257, 1 << 32, math.MaxInt} {
		for n := 1; n <= 16; n++ {
			for at := range n {
				w := repeated(0, n)
				w[at] = bad
				if got := impl.FormatWord(w); got != "" {
					t.Errorf("FormatWord(%v) = %q, want none", w, got)
				}
			}
		}
	}
}

func TestWordRoundTrip(t *testing.T) {
	for _, s := range namedCartans {
		c := mustParseCartan(t, s)
		words := wordsUpTo(pointsOf(c), 5)
		for n := 6; n <= 15; n++ {
			words = append(words, repeated(len(c)-1, n), append(repeated(0, n-1), len(c)-1))
		}
		for _, w := range words {
			text := impl.FormatWord(w)
			if text != digitsOf(w) {
				t.Errorf("FormatWord(%v) = %q", w, text)
			}
			if got, ok := impl.ParseWord(c, text); !ok || !sameRow(got, w) {
				t.Errorf("ParseWord(%s, %q) = %v, %t, want %v", s, text, got, ok, w)
			}
		}
	}
	manyCartans(func(c [][]int) {
		for _, w := range [][]int{nil, {0}, {len(c) - 1}, pointsOf(c), repeated(0, 15)} {
			if got, ok := impl.ParseWord(c, impl.FormatWord(w)); !ok || !sameRow(got, w) {
				t.Errorf("ParseWord(%v, %q) = %v, %t", c, impl.FormatWord(w), got, ok)
			}
		}
	})
}

func TestParseWordReadsOnlyFormats(t *testing.T) {
	for _, name := range []string{"A1", "G2", "C2~", "F4"} {
		c := mustParseCartan(t, namedCartans[name])
		formats := map[string]bool{}
		for _, w := range wordsUpTo(pointsOf(c), 4) {
			formats[digitsOf(w)] = true
		}
		found := 0
		shortStrings("eE0123456 \x00\xff", 4, func(s string) {
			if !formats[s] {
				expectNoWord(t, c, s)
			} else if w, ok := impl.ParseWord(c, s); !ok || impl.FormatWord(w) != s {
				t.Errorf("ParseWord(%s, %q) = %v, %t", name, s, w, ok)
			} else {
				found++
			}
		})
		if found != len(formats) {
			t.Errorf("%s: %d formats were read, want %d", name, found, len(formats))
		}
		shortStrings(allBytes(), 2, func(s string) {
			if _, ok := impl.ParseWord(c, s); ok != formats[s] {
				t.Errorf("ParseWord(%s, %q) returns %t", name, s, ok)
			}
		})
	}
}

func TestParseWordRejects(t *testing.T) {
	for _, name := range []string{"A1", "B2", "A3", "D4"} {
		c := mustParseCartan(t, namedCartans[name])
		for _, s := range []string{
			"", "ee", "e1", "1e", " e", "e ", "e\n", "e\x00", "\x00e", "E", "\u0435", "1 1", "1,1", "+1", "-1", "01", "10", "1\n", "1\x00", "1\xff", "\uff11", "\u0661", "\u00b9",
			strings.Repeat("1", 16), strings.Repeat("1", 17), strings.Repeat("1", 271), strings.Repeat("e", 16), strings.Repeat("1", 15) + "e", strings.Repeat("1", 100000),
		} {
			expectNoWord(t, c, s)
		}
		for n := 1; n <= 15; n++ {
			for at := range n {
				valid := strings.Repeat("1", n)
				for _, b := range []string{"0", "5", "9", "e", ":", "/", " ", "\x00", "\xff", string("2345"[len(c)-1])} {
					if s := valid[:at] + b + valid[at+1:]; s != "e" {
						expectNoWord(t, c, s)
					}
				}
			}
		}
	}
}

func TestWordsOfInvalidMatrices(t *testing.T) {
	for _, c := range invalidCartans() {
		for _, w := range [][]int{nil, {}, {0}, {0, 1}, {-1}, repeated(0, 16)} {
			if impl.IsWord(c, w) {
				t.Errorf("IsWord(%v, %v) = true", c, w)
			}
		}
		for _, s := range []string{"", "e", "1", "12", "0"} {
			expectNoWord(t, c, s)
		}
	}
}

func TestEmptyWord(t *testing.T) {
	used := []int{1, 2}
	for _, empty := range [][]int{nil, {}, make([]int, 0, 5), used[:0]} {
		for _, other := range [][]int{nil, {}} {
			if impl.CompareWords(empty, other) != 0 || !impl.EqualWords(empty, other) || !impl.EqualWords(other, empty) {
				t.Errorf("%#v and %#v are different words", empty, other)
			}
			if got := impl.ConcatWords(empty, other); len(got) != 0 {
				t.Errorf("ConcatWords(%#v, %#v) = %v", empty, other, got)
			}
		}
		if impl.CompareWords(empty, []int{-1}) != -1 || impl.CompareWords([]int{-1}, empty) != 1 || impl.EqualWords(empty, []int{0}) {
			t.Errorf("%#v does not come before the other words", empty)
		}
		if len(impl.ReverseWord(empty)) != 0 || len(impl.SupportOf(empty)) != 0 || impl.FormatWord(empty) != "e" {
			t.Errorf("%#v has letters", empty)
		}
		for _, s := range namedCartans {
			c := mustParseCartan(t, s)
			if w, ok := impl.ParseWord(c, "e"); !ok || len(w) != 0 || !impl.IsWord(c, empty) {
				t.Errorf("%#v is no word of %s, or ParseWord of e returns %v, %t", empty, s, w, ok)
			}
		}
	}
}

func TestWordResultsAreFresh(t *testing.T) {
	for _, w := range [][]int{nil, {2}, {0, 1}, {0, 1, 2}, {2, 1, 1, 0}, {0, 1, 2, 3}, repeated(1, 15)} {
		a, wholeA := roomyList(w)
		b, wholeB := roomyList(impl.ReverseWord(w))
		text := impl.FormatWord(a)
		results := [][]int{
			impl.ConcatWords(a, b), impl.ConcatWords(a, nil), impl.ConcatWords(nil, a), impl.ReverseWord(a), impl.SupportOf(a),
		}
		for range 2 {
			parsed, _ := impl.ParseWord(mustParseCartan(t, namedCartans["A4"]), text)
			results = append(results, parsed, impl.AlternatingWord(0, 1, len(a)))
		}
		if impl.CompareWords(a, b) != -impl.CompareWords(b, a) || impl.EqualWords(a, b) != impl.EqualWords(b, a) {
			t.Errorf("CompareWords or EqualWords of %v and %v depends on the order", a, b)
		}
		if !sameRow(wholeA, append(copyList(w), 77, 77, 77)) || !sameRow(wholeB[len(b):], []int{77, 77, 77}) || !sameRow(impl.ReverseWord(b), w) {
			t.Errorf("%v: the arguments are now %v and %v", w, wholeA, wholeB)
		}
		expectFresh(t, "the results for "+text, results, [][]int{wholeA, wholeB})
	}
	c := roomyRows(mustParseCartan(t, namedCartans["F4"]))
	if !impl.IsWord(c, []int{0, 3}) || impl.FormatCartan(c) != namedCartans["F4"] {
		t.Errorf("IsWord modifies the matrix, or rejects a word: %v", c)
	}
}
