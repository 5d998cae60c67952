package tests

import (
	"math"
	"strconv"
	"strings"
	"testing"

	"loop.example/g02076/impl"
)

// badPoints are no points of any matrix.
var badPoints = []int{math.MinInt, -1, 4, 5, 256, 1 << 32, math.MaxInt}

// someWeights are lists of n numbers up to a million in magnitude: zero, each fundamental weight, limits, and mixed ones.
func someWeights(n int) [][]int {
	out := [][]int{make([]int, n), repeated(1, n), repeated(1000, n), repeated(-1000, n), repeated(1000000, n), repeated(-1000000, n)}
	for i := range n {
		v := make([]int, n)
		v[i] = 1
		out = append(out, v, []int{3, -7, 11, -13}[:n])
		v = repeated(5, n)
		v[i] = -1000000
		out = append(out, v)
	}
	return out
}

// reflected is the definition of a reflection, with all numbers computed from the old ones.
func reflected(c [][]int, i int, v []int) []int {
	out := make([]int, len(v))
	for k := range out {
		out[k] = v[k] - v[i]*c[k][i]
	}
	return out
}

// wrongLengths are lists that do not have n numbers; those with a number too many begin with n valid ones.
func wrongLengths(n int) [][]int {
	return [][]int{nil, {}, repeated(1, n-1), repeated(1, n+1), append(repeated(1, n), 0), append(repeated(-1000, n), 1001), repeated(2, 2*n+1), repeated(0, 100)}
}

func commaSeparated(v []int) string {
	fields := make([]string, len(v))
	for i, n := range v {
		fields[i] = strconv.Itoa(n)
	}
	return strings.Join(fields, ",")
}

func expectNoWeight(t *testing.T, c [][]int, s string) {
	t.Helper()
	if v, ok := impl.ParseWeight(c, s); ok || len(v) != 0 {
		t.Errorf("ParseWeight(%v, %q) = %v, %t, want none", c, s, v, ok)
	}
}

// mixedVectors are lists of n numbers, from 2 on, some of which are positive and some negative.
func mixedVectors(n int) [][]int {
	return [][]int{
		[]int{1, -1, 0, 0}[:n], []int{-1, 1, 0, 0}[:n], []int{-3, 5, -7, 9}[:n], []int{1000, -1000, 0, 1000}[:n], []int{-1000000, 1000000, 1, -1}[:n],
		append(repeated(0, n-2), -1, 1), append(repeated(1, n-1), -1), append([]int{1}, repeated(-1, n-1)...),
	}
}

// someVectors are lists of n numbers up to a million in magnitude, mixed ones among them.
func someVectors(n int) [][]int {
	if n == 1 {
		return someWeights(n)
	}
	return append(someWeights(n), mixedVectors(n)...)
}

// A reflection is that of weights or of root vectors at a point, and an action that of words on them.
type (
	reflection func(c [][]int, i int, v []int) []int
	action     func(c [][]int, w []int, v []int) []int
)

func expectReflectionKeepsInvalidOnes(t *testing.T, what string, reflect reflection) {
	t.Helper()
	manyCartans(func(c [][]int) {
		for _, i := range append([]int{len(c)}, badPoints...) {
			for _, v := range someVectors(len(c)) {
				expectWord(t, what+" with no such point", reflect(c, i, v), v)
			}
		}
		for i := range c {
			for _, v := range wrongLengths(len(c)) {
				expectWord(t, what+" of another length", reflect(c, i, v), v)
			}
		}
	})
	for _, c := range invalidCartans() {
		for _, i := range append([]int{0, 1, 2, 3}, badPoints...) {
			for n := range 6 {
				v := repeated(3, n)
				expectWord(t, what+" with an invalid matrix", reflect(c, i, v), v)
			}
		}
	}
}

func expectActionByEachLetter(t *testing.T, what string, act action, reflect reflection) {
	t.Helper()
	for name, s := range namedCartans {
		c := mustParseCartan(t, s)
		words := wordsUpTo(pointsOf(c), 4)
		for n := 5; n <= 15; n++ {
			words = append(words, repeated(n%len(c), n), impl.AlternatingWord(0, len(c)-1, n), impl.AlternatingWord(len(c)-1, 0, n))
		}
		for _, w := range words {
			for _, v := range someVectors(len(c)) {
				want := v
				for k := len(w) - 1; k >= 0; k-- {
					want = reflect(c, w[k], want)
				}
				if got := act(c, w, v); !sameRow(got, want) {
					t.Errorf("%s(%s, %v, %v) = %v, want %v", what, name, w, v, got, want)
				}
			}
		}
	}
}

func expectActionOfWords(t *testing.T, what string, act action) {
	t.Helper()
	manyCartans(func(c [][]int) {
		for _, v := range someVectors(len(c)) {
			w := append(pointsOf(c), 0)
			there := act(c, w, v)
			if back := act(c, impl.ReverseWord(w), there); !sameRow(back, v) {
				t.Errorf("%s(%v): %v and its reverse act on %v as %v", what, c, w, v, back)
			}
			u := pointsOf(c)
			if got := act(c, impl.ConcatWords(u, w), v); !sameRow(got, act(c, u, there)) {
				t.Errorf("%s(%v): %v followed by %v acts on %v as %v", what, c, u, w, v, got)
			}
			for i := range c {
				for j := range c {
					m := impl.BondOf(c, i, j)
					a := act(c, impl.AlternatingWord(i, j, m), v)
					b := act(c, impl.AlternatingWord(j, i, m), v)
					if !sameRow(a, b) {
						t.Errorf("%s(%v): the alternating words of %d and %d act on %v as %v and %v", what, c, i, j, v, a, b)
					}
				}
			}
		}
	})
}

func expectActionKeepsInvalidOnes(t *testing.T, what string, act action) {
	t.Helper()
	manyCartans(func(c [][]int) {
		v := repeated(4, len(c))
		for _, w := range [][]int{{len(c)}, {-1}, {0, len(c)}, {len(c), 0}, {0, -1}, {-1, 0}, repeated(0, 16), repeated(0, 17), {math.MinInt}, {0, math.MaxInt, 0}} {
			expectWord(t, what+" by no word", act(c, w, v), v)
		}
		for _, w := range [][]int{nil, {0}, pointsOf(c), repeated(0, 15)} {
			for _, other := range wrongLengths(len(c)) {
				expectWord(t, what+" of another length", act(c, w, other), other)
			}
		}
	})
	for _, c := range invalidCartans() {
		for _, w := range [][]int{nil, {0}, {0, 1}, {1}, {-1}, {4}} {
			for n := range 6 {
				v := repeated(3, n)
				expectWord(t, what+" with an invalid matrix", act(c, w, v), v)
			}
		}
	}
}

func TestLimitOfWeights(t *testing.T) {
	if impl.MaxValue != 1000 {
		t.Errorf("MaxValue = %d", impl.MaxValue)
	}
}

func TestIsWeight(t *testing.T) {
	manyCartans(func(c [][]int) {
		n := len(c)
		for at := range n {
			for _, fill := range []int{0, 1, 1000, -1000} {
				v := repeated(fill, n)
				for _, x := range []int{0, 1, -1, 999, -999, 1000, -1000} {
					v[at] = x
					if !impl.IsWeight(c, v) {
						t.Errorf("IsWeight(%v, %v) = false", c, v)
					}
				}
				for _, x := range []int{1001, -1001, 1000000, -1000000, 1 << 32, math.MaxInt, math.MinInt} {
					v[at] = x
					if impl.IsWeight(c, v) {
						t.Errorf("IsWeight(%v, %v) = true", c, v)
					}
				}
			}
		}
		for _, v := range wrongLengths(n) {
			if impl.IsWeight(c, v) {
				t.Errorf("IsWeight(%v, %v) = true", c, v)
			}
		}
	})
}

func TestReflectWeight(t *testing.T) {
	cases := []struct {
		name    string
		i       int
		v, want []int
	}{
		{"A1", 0, []int{5}, []int{-5}},
		{"A2", 0, []int{1, 1}, []int{-1, 2}},
		{"A2", 1, []int{1, 1}, []int{2, -1}},
		{"A2", 0, []int{0, 9}, []int{0, 9}},
		{"B2", 0, []int{1, 1}, []int{-1, 3}},
		{"B2", 1, []int{1, 1}, []int{2, -1}},
		{"G2", 0, []int{1, 1}, []int{-1, 4}},
		{"G2", 1, []int{1, 1}, []int{2, -1}},
		{"G2", 0, []int{-1, 4}, []int{1, 1}},
		{"B3", 1, []int{1, 1, 1}, []int{2, -1, 3}},
		{"C3", 2, []int{1, 1, 1}, []int{1, 3, -1}},
		{"A1~", 0, []int{1000, 0}, []int{-1000, 2000}},
		{"A1~", 0, []int{1000000, -1000000}, []int{-1000000, 1000000}},
		{"D4", 1, []int{0, -2, 0, 0}, []int{-2, 2, -2, -2}},
	}
	for _, c := range cases {
		m := mustParseCartan(t, namedCartans[c.name])
		expectWord(t, "ReflectWeight of "+c.name, impl.ReflectWeight(m, c.i, c.v), c.want)
	}
}

func TestReflectWeightOfAllMatrices(t *testing.T) {
	manyCartans(func(c [][]int) {
		for _, v := range someWeights(len(c)) {
			for i := range c {
				got := impl.ReflectWeight(c, i, v)
				if !sameRow(got, reflected(c, i, v)) {
					t.Errorf("ReflectWeight(%v, %d, %v) = %v", c, i, v, got)
				}
				if back := impl.ReflectWeight(c, i, got); !sameRow(back, v) {
					t.Errorf("ReflectWeight(%v, %d) of %v twice is %v", c, i, v, back)
				}
			}
		}
	})
}

func TestReflectWeightKeepsInvalidOnes(t *testing.T) {
	expectReflectionKeepsInvalidOnes(t, "ReflectWeight", impl.ReflectWeight)
}

func TestActOnWeight(t *testing.T) {
	g := mustParseCartan(t, namedCartans["G2"])
	// The last letter comes first: 12 reflects at the second point, then at the first.
	expectWord(t, "12 on G2", impl.ActOnWeight(g, []int{0, 1}, []int{1, 1}), []int{-2, 5})
	expectWord(t, "21 on G2", impl.ActOnWeight(g, []int{1, 0}, []int{1, 1}), []int{3, -4})
	expectWord(t, "e on G2", impl.ActOnWeight(g, nil, []int{7, -9}), []int{7, -9})
	expectWord(t, "121212 on G2", impl.ActOnWeight(g, []int{0, 1, 0, 1, 0, 1}, []int{7, -9}), []int{-7, 9})
	f := mustParseCartan(t, namedCartans["F4"])
	expectWord(t, "1234 on F4", impl.ActOnWeight(f, []int{0, 1, 2, 3}, []int{1, 1, 1, 1}), []int{-4, 1, 4, 1})
}

func TestActOnWeightReflectsByEachLetter(t *testing.T) {
	expectActionByEachLetter(t, "ActOnWeight", impl.ActOnWeight, reflected)
}

func TestActionOfWords(t *testing.T) {
	expectActionOfWords(t, "ActOnWeight", impl.ActOnWeight)
}

func TestActOnWeightKeepsInvalidOnes(t *testing.T) {
	expectActionKeepsInvalidOnes(t, "ActOnWeight", impl.ActOnWeight)
}

func TestRhoOf(t *testing.T) {
	manyCartans(func(c [][]int) {
		expectWord(t, "RhoOf", impl.RhoOf(c), repeated(1, len(c)))
	})
	for _, c := range invalidCartans() {
		expectWord(t, "RhoOf an invalid matrix", impl.RhoOf(c), nil)
	}
}

func TestOrbitOfRho(t *testing.T) {
	// No element but the identity keeps rho, so that its orbit is as large as the group.
	for name, size := range map[string]int{"A1": 2, "A2": 6, "A3": 24, "A4": 120, "B2": 8, "B3": 48, "C3": 48, "B4": 384, "C4": 384, "D4": 192, "F4": 1152, "G2": 12} {
		c := mustParseCartan(t, namedCartans[name])
		seen := map[string]bool{commaSeparated(impl.RhoOf(c)): true}
		queue := [][]int{impl.RhoOf(c)}
		for len(queue) > 0 && len(seen) <= size {
			for i := range c {
				next := impl.ReflectWeight(c, i, queue[0])
				if key := commaSeparated(next); !seen[key] {
					seen[key] = true
					queue = append(queue, next)
				}
			}
			queue = queue[1:]
		}
		if len(seen) != size {
			t.Errorf("the orbit of rho of %s has %d weights, want %d", name, len(seen), size)
		}
	}
}

func TestAddWeights(t *testing.T) {
	cases := []struct{ a, b, want []int }{
		{nil, nil, nil},
		{nil, []int{1, 2}, nil},
		{[]int{1, 2}, []int{}, nil},
		{[]int{1, 2}, []int{3, -5}, []int{4, -3}},
		{[]int{1, 2, 3}, []int{3, -5}, []int{4, -3}},
		{[]int{3, -5}, []int{1, 2, 3}, []int{4, -3}},
		{[]int{7}, []int{-7, 1, 1, 1}, []int{0}},
		// The sums may be beyond MaxValue, and the lists longer than any rank.
		{[]int{1000, -1000}, []int{1000, -1000}, []int{2000, -2000}},
		{[]int{1000000}, []int{1000000}, []int{2000000}},
		{repeated(2, 50), repeated(3, 49), repeated(5, 49)},
	}
	for _, c := range cases {
		expectWord(t, "AddWeights", impl.AddWeights(c.a, c.b), c.want)
		expectWord(t, "AddWeights", impl.AddWeights(c.b, c.a), c.want)
	}
}

func TestSimpleRootWeight(t *testing.T) {
	g := mustParseCartan(t, namedCartans["G2"])
	expectWord(t, "SimpleRootWeight", impl.SimpleRootWeight(g, 0), []int{2, -3})
	expectWord(t, "SimpleRootWeight", impl.SimpleRootWeight(g, 1), []int{-1, 2})
	manyCartans(func(c [][]int) {
		rho := impl.RhoOf(c)
		for i := range c {
			root := impl.SimpleRootWeight(c, i)
			want := make([]int, len(c))
			for k := range c {
				want[k] = c[k][i]
			}
			expectWord(t, "SimpleRootWeight", root, want)
			// A reflection of rho subtracts the simple root, and a reflection of the simple root negates it.
			expectWord(t, "the simple root and the reflection of rho", impl.AddWeights(impl.ReflectWeight(c, i, rho), root), rho)
			expectWord(t, "the simple root and its reflection", impl.AddWeights(impl.ReflectWeight(c, i, root), root), make([]int, len(c)))
		}
		for _, i := range append([]int{len(c)}, badPoints...) {
			expectWord(t, "SimpleRootWeight with no such point", impl.SimpleRootWeight(c, i), nil)
		}
	})
	for _, c := range invalidCartans() {
		for _, i := range append([]int{0, 1, 2, 3}, badPoints...) {
			expectWord(t, "SimpleRootWeight of an invalid matrix", impl.SimpleRootWeight(c, i), nil)
		}
	}
}

func TestFormatWeight(t *testing.T) {
	cases := []struct {
		v    []int
		want string
	}{
		{nil, ""},
		{[]int{}, ""},
		{[]int{0}, "0"},
		{[]int{-7}, "-7"},
		{[]int{1, -2}, "1,-2"},
		{[]int{0, 0, 0, 0}, "0,0,0,0"},
		{[]int{10, -1000, 1000}, "10,-1000,1000"},
		// The format knows neither the matrix nor MaxValue.
		{[]int{1000000, -1000000, 1001}, "1000000,-1000000,1001"},
		{[]int{1, 2, 3, 4, 5, 6}, "1,2,3,4,5,6"},
		{repeated(12, 200), "12" + strings.Repeat(",12", 199)},
	}
	for _, c := range cases {
		if got := impl.FormatWeight(c.v); got != c.want {
			t.Errorf("FormatWeight(%v) = %q, want %q", c.v, got, c.want)
		}
	}
}

func TestWeightRoundTrip(t *testing.T) {
	manyCartans(func(c [][]int) {
		for at := range c {
			for _, fill := range []int{0, -3, 1000} {
				v := repeated(fill, len(c))
				for _, x := range []int{-1001, -1000, -999, -100, -99, -10, -9, -1, 0, 1, 9, 10, 99, 100, 999, 1000, 1001} {
					v[at] = x
					text := impl.FormatWeight(v)
					if text != commaSeparated(v) {
						t.Errorf("FormatWeight(%v) = %q", v, text)
					}
					if x < -1000 || x > 1000 {
						expectNoWeight(t, c, text)
					} else if got, ok := impl.ParseWeight(c, text); !ok || !sameRow(got, v) {
						t.Errorf("ParseWeight(%v, %q) = %v, %t", c, text, got, ok)
					}
				}
			}
		}
	})
}

func TestParseWeightReadsAllNumbers(t *testing.T) {
	c := mustParseCartan(t, namedCartans["B2"])
	for x := -1100; x <= 1100; x++ {
		for _, v := range [][]int{{x, 0}, {0, x}, {x, -x}} {
			got, ok := impl.ParseWeight(c, commaSeparated(v))
			if valid := x >= -1000 && x <= 1000; ok != valid || valid != sameRow(got, v) {
				t.Errorf("ParseWeight of %v = %v, %t", v, got, ok)
			}
		}
	}
}

func TestParseWeightReadsOnlyFormats(t *testing.T) {
	for _, name := range []string{"A1", "G2", "C2~", "F4"} {
		c := mustParseCartan(t, namedCartans[name])
		found := 0
		check := func(s string) {
			v, ok := impl.ParseWeight(c, s)
			if !ok {
				expectNoWeight(t, c, s)
				return
			}
			found++
			if len(v) != len(c) || commaSeparated(v) != s {
				t.Errorf("ParseWeight(%s, %q) = %v", name, s, v)
			}
		}
		shortStrings("019,-+ e", 5, check)
		// As many formats of weights have at most 5 of these bytes.
		if want := map[string]int{"A1": 55, "G2": 265, "C2~": 27, "F4": 0}[name]; found != want {
			t.Errorf("%s: %d strings were read, want %d", name, found, want)
		}
		shortStrings(allBytes(), 2, check)
	}
}

func TestParseWeightRejects(t *testing.T) {
	for _, name := range []string{"A1", "B2", "A3", "D4"} {
		c := mustParseCartan(t, namedCartans[name])
		n := len(c)
		for _, v := range wrongLengths(n) {
			expectNoWeight(t, c, commaSeparated(v))
		}
		valid := strings.Repeat(",12", n)[1:]
		if _, ok := impl.ParseWeight(c, valid); !ok {
			t.Errorf("ParseWeight(%s, %q) returns false", name, valid)
		}
		for _, s := range []string{
			"", ",", strings.Repeat(",", n-1) + " ", strings.Repeat(",", n), valid + ",", "," + valid, valid + ",1", "0," + valid, valid + " ", " " + valid, valid + "\n", valid + "\x00", valid + ";", valid + "-",
			"+" + valid, "0" + valid, "-0" + valid, "--" + valid, "(" + valid + ")", valid + "e", valid + ".0", strings.Repeat(valid+",", 1000) + valid, valid + "000000000000000000000", valid + strings.Repeat("0", 100000),
		} {
			expectNoWeight(t, c, s)
		}
		for at := range n {
			for _, field := range []string{"", " ", "+1", "-", "-0", "00", "01", "-01", "1 ", " 1", "1e1", "0x1", "1_0", "\uff11", "1001", "-1001", "01000", "10000", "999999999", "1000000000", "4294967296", "18446744073709551617", "-18446744073709551615", "1;1", "1.", "1\x00"} {
				fields := strings.Split(valid, ",")
				fields[at] = field
				expectNoWeight(t, c, strings.Join(fields, ","))
			}
		}
	}
}

func TestWeightsOfInvalidMatrices(t *testing.T) {
	for _, c := range invalidCartans() {
		for n := range 6 {
			v := repeated(1, n)
			if impl.IsWeight(c, v) {
				t.Errorf("IsWeight(%v, %v) = true", c, v)
			}
			expectNoWeight(t, c, commaSeparated(v))
		}
	}
}

func TestWeightResultsAreFresh(t *testing.T) {
	for name, s := range namedCartans {
		c := roomyRows(mustParseCartan(t, s))
		n := len(c)
		for _, list := range append(wrongLengths(n), someWeights(n)...) {
			v, wholeV := roomyList(list)
			w, wholeW := roomyList(pointsOf(c))
			impl.IsWeight(c, v)
			impl.FormatWeight(v)
			results := [][]int{
				impl.ReflectWeight(c, 0, v), impl.ReflectWeight(c, n, v), impl.ActOnWeight(c, w, v), impl.ActOnWeight(c, nil, v), impl.ActOnWeight(c, []int{n}, v),
				impl.ReflectWeight(nil, 0, v), impl.ActOnWeight(nil, w, v), impl.AddWeights(v, w), impl.AddWeights(v, v), impl.AddWeights(w, v), impl.AddWeights(v, nil),
			}
			for range 2 {
				parsed, _ := impl.ParseWeight(c, commaSeparated(v))
				results = append(results, parsed, impl.RhoOf(c), impl.SimpleRootWeight(c, 0), impl.SimpleRootWeight(c, n-1))
			}
			if !sameRow(wholeV, append(copyList(list), 77, 77, 77)) || !sameRow(wholeW, append(pointsOf(c), 77, 77, 77)) || impl.FormatCartan(c) != s {
				t.Errorf("%s: the arguments are now %v, %v and %v", name, c, wholeV, wholeW)
			}
			whole := make([][]int, 0, n+2)
			for _, row := range c {
				whole = append(whole, row[:cap(row)])
			}
			expectFresh(t, "the results for "+name, results, append(whole, wholeV, wholeW))
		}
	}
}
