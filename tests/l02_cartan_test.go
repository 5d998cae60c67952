package tests

import (
	"math"
	"reflect"
	"strings"
	"testing"

	"loop.example/g02076/impl"
)

// namedCartans are all matrices with a name, written out by hand from the specification.
var namedCartans = map[string]string{
	"A1":  "2",
	"A2":  "2,-1;-1,2",
	"A3":  "2,-1,0;-1,2,-1;0,-1,2",
	"A4":  "2,-1,0,0;-1,2,-1,0;0,-1,2,-1;0,0,-1,2",
	"B2":  "2,-1;-2,2",
	"B3":  "2,-1,0;-1,2,-1;0,-2,2",
	"B4":  "2,-1,0,0;-1,2,-1,0;0,-1,2,-1;0,0,-2,2",
	"C3":  "2,-1,0;-1,2,-2;0,-1,2",
	"C4":  "2,-1,0,0;-1,2,-1,0;0,-1,2,-2;0,0,-1,2",
	"D4":  "2,-1,0,0;-1,2,-1,-1;0,-1,2,0;0,-1,0,2",
	"F4":  "2,-1,0,0;-1,2,-1,0;0,-2,2,-1;0,0,-1,2",
	"G2":  "2,-1;-3,2",
	"A1~": "2,-2;-2,2",
	"A2~": "2,-1,-1;-1,2,-1;-1,-1,2",
	"A3~": "2,-1,0,-1;-1,2,-1,0;0,-1,2,-1;-1,0,-1,2",
	"C2~": "2,-1,0;-2,2,-2;0,-1,2",
	"G2~": "2,-1,0;-1,2,-1;0,-3,2",
}

// eachCartan calls f with every stride-th valid matrix of rank n, built from the ten possible pairs of mirrored entries.
func eachCartan(n int, stride int, f func(c [][]int)) {
	total := 1
	for range n * (n - 1) / 2 {
		total *= 10
	}
	for code := 0; code < total; code += stride {
		c := make([][]int, n)
		for i := range c {
			c[i] = make([]int, n)
			c[i][i] = 2
		}
		rest := code
		for i := range n {
			for j := range i {
				if pair := rest % 10; pair > 0 {
					c[i][j], c[j][i] = -1-(pair-1)/3, -1-(pair-1)%3
				}
				rest /= 10
			}
		}
		f(c)
	}
}

// manyCartans calls f with all valid matrices up to rank 3 and a part of those of rank 4.
func manyCartans(f func(c [][]int)) {
	eachCartan(1, 1, f)
	eachCartan(2, 1, f)
	eachCartan(3, 1, f)
	eachCartan(4, 997, f)
}

// invalidCartans are lists of which each breaks one of the conditions of IsCartan.
func invalidCartans() [][][]int {
	return [][][]int{
		nil,
		{},
		{nil},
		{{}},
		{{}, {}},
		{{0}},
		{{1}},
		{{3}},
		{{-2}},
		{{math.MinInt}},
		{{math.MaxInt}},
		{{2, 0}},
		{{2}, {2}},
		{{2, -1}},
		{{2}, {-1, 2}},
		{{2, -1}, {-1}},
		{{2, -1}, nil},
		{nil, {-1, 2}},
		{{2, -1}, {-1, 2, 0}},
		{{2, -1, 0}, {-1, 2}},
		{{2, 0}, {0, 2}, {0, 0}},
		{{2, 0, 0}, {0, 2, 0}},
		{{2, -1, 0}, {-1, 2}, {0, -1, 2}},
		{{2, -1, 0}, {-1, 2, -1}, {0}},
		{{2}, {-1, 2, -1}, {0, -1, 2}},
		{{2, 0}, {-1, 2}},
		{{2, -1}, {0, 2}},
		{{2, 1}, {1, 2}},
		{{2, 1}, {-1, 2}},
		{{2, -1}, {1, 2}},
		{{2, -4}, {-1, 2}},
		{{2, -1}, {-4, 2}},
		{{2, -4}, {-4, 2}},
		{{2, math.MinInt}, {-1, 2}},
		{{2, math.MaxInt}, {-1, 2}},
		{{1, -1}, {-1, 2}},
		{{2, -1}, {-1, 0}},
		{{2, 0, -1}, {0, 2, 0}, {0, 0, 2}},
		{{2, 0, 0, 0}, {0, 2, 0, 0}, {0, 0, 2, 0}, {0, 0, -1, 2}},
		{{2, 0, 0, 0, 0}, {0, 2, 0, 0, 0}, {0, 0, 2, 0, 0}, {0, 0, 0, 2, 0}, {0, 0, 0, 0, 2}},
		{{2, -1, 0, 0}, {-1, 2, -1, 0}, {0, -1, 2, -1}, {0, 0, -1}},
	}
}

func copyRows(c [][]int) [][]int {
	if c == nil {
		return nil
	}
	out := make([][]int, len(c))
	for i, row := range c {
		out[i] = append([]int(nil), row...)
	}
	return out
}

// roomyRows returns the rows as neighbouring parts of one array, in an outer slice with unused capacity:
// a function that writes into the capacity of an argument changes another row of it.
func roomyRows(c [][]int) [][]int {
	var all []int
	for _, row := range c {
		all = append(all, row...)
	}
	all = append(all, 77, 77, 77)
	out := make([][]int, 0, len(c)+2)
	at := 0
	for _, row := range c {
		out = append(out, all[at:at+len(row)])
		at += len(row)
	}
	return out
}

// expectFresh overwrites all memory of a result, with its capacity, row by row: no other row and no argument may change.
func expectFresh(t *testing.T, what string, result [][]int, arguments ...[][]int) {
	t.Helper()
	before := make([][][]int, len(arguments))
	for i, a := range arguments {
		before[i] = copyRows(a)
	}
	want := copyRows(result)
	for i := range result {
		full := result[i][:cap(result[i])]
		for j := range full {
			full[j] = 1000 + i
		}
		for j := range want[i] {
			want[i][j] = 1000 + i
		}
		for j := range want {
			if !sameRow(result[j], want[j]) {
				t.Errorf("%s: row %d shares memory with row %d", what, i, j)
			}
		}
	}
	for i := range result {
		result[i] = nil
	}
	for i, a := range arguments {
		if !sameRows(a, before[i]) {
			t.Errorf("%s: the result shares memory with argument %d", what, i)
		}
	}
}

func sameRow(a []int, b []int) bool {
	return len(a) == 0 && len(b) == 0 || reflect.DeepEqual(a, b)
}

func sameRows(a [][]int, b [][]int) bool {
	if len(a) != len(b) {
		return false
	}
	for i := range a {
		if !sameRow(a[i], b[i]) {
			return false
		}
	}
	return true
}

func mustParseCartan(t *testing.T, s string) [][]int {
	t.Helper()
	c, ok := impl.ParseCartan(s)
	if !ok {
		t.Fatalf("ParseCartan(%q) returns none", s)
	}
	return c
}

func TestLimitsOfCartans(t *testing.T) {
	if impl.MaxRank != 4 || impl.MaxEntry != 3 {
		t.Errorf("MaxRank = %d, MaxEntry = %d", impl.MaxRank, impl.MaxEntry)
	}
}

func TestIsCartan(t *testing.T) {
	manyCartans(func(c [][]int) {
		if !impl.IsCartan(c) {
			t.Errorf("IsCartan(%v) = false", c)
		}
	})
	for _, c := range invalidCartans() {
		if impl.IsCartan(c) {
			t.Errorf("IsCartan(%v) = true", c)
		}
	}
}

func TestIsCartanAcceptsNoOthers(t *testing.T) {
	counts := map[bool]int{}
	for a := -5; a <= 4; a++ {
		for b := -5; b <= 4; b++ {
			for x := -5; x <= 4; x++ {
				for y := -5; y <= 4; y++ {
					counts[impl.IsCartan([][]int{{a, x}, {y, b}})]++
				}
			}
		}
	}
	if counts[true] != 10 || counts[false] != 9990 {
		t.Errorf("IsCartan accepts %d matrices of rank 2 and rejects %d", counts[true], counts[false])
	}
}

func TestIsCartanChecksEachEntry(t *testing.T) {
	for _, base := range []string{"2,-1,0,-1;-1,2,-1,0;0,-1,2,-1;-1,0,-1,2", "2,-1,-1;-1,2,-1;-1,-1,2", "2,0;0,2", "2"} {
		c := mustParseCartan(t, base)
		for i := range c {
			for j := range c {
				old := c[i][j]
				for _, x := range []int{-4, 1, 3, math.MinInt, math.MaxInt, old*2 - 1} {
					// Twice an entry less one is valid only for a neighbour: -1 becomes -3.
					valid := x == -3 && i != j
					c[i][j] = x
					if impl.IsCartan(c) != valid {
						t.Errorf("IsCartan(%v) = %t", c, !valid)
					}
				}
				c[i][j] = old
			}
		}
		for i := range c {
			short := copyRows(c)
			short[i] = short[i][:len(c)-1]
			long := copyRows(c)
			long[i] = append(long[i], 0)
			if impl.IsCartan(short) || impl.IsCartan(long) {
				t.Errorf("IsCartan accepts %v or %v", short, long)
			}
		}
	}
}

func TestBondOf(t *testing.T) {
	orders := map[int]int{0: 2, 1: 3, 2: 4, 3: 6, 4: 0, 6: 0, 9: 0}
	manyCartans(func(c [][]int) {
		for i := range c {
			for j := range c {
				want := orders[c[i][j]*c[j][i]]
				if i == j {
					want = 1
				}
				if got := impl.BondOf(c, i, j); got != want {
					t.Errorf("BondOf(%v, %d, %d) = %d, want %d", c, i, j, got, want)
				}
			}
		}
	})
}

func TestBondOfRejects(t *testing.T) {
	manyCartans(func(c [][]int) {
		for _, bad := range []int{-1, len(c), len(c) + 1, math.MinInt, math.MaxInt} {
			for _, p := range [][2]int{{bad, 0}, {0, bad}, {bad, bad}} {
				if got := impl.BondOf(c, p[0], p[1]); got != -1 {
					t.Errorf("BondOf(%v, %d, %d) = %d, want -1", c, p[0], p[1], got)
				}
			}
		}
	})
	for _, c := range invalidCartans() {
		for _, p := range [][2]int{{0, 0}, {0, 1}, {1, 0}, {1, 1}, {-1, 2}} {
			if got := impl.BondOf(c, p[0], p[1]); got != -1 {
				t.Errorf("BondOf(%v, %d, %d) = %d, want -1", c, p[0], p[1], got)
			}
		}
	}
}

func TestTransposeCartan(t *testing.T) {
	got := impl.TransposeCartan([][]int{{2, -1, 0}, {-3, 2, -2}, {0, -1, 2}})
	if !sameRows(got, [][]int{{2, -3, 0}, {-1, 2, -1}, {0, -2, 2}}) {
		t.Errorf("TransposeCartan = %v", got)
	}
	manyCartans(func(c [][]int) {
		before := copyRows(c)
		got := impl.TransposeCartan(c)
		for i := range c {
			for j := range c {
				if got[i][j] != c[j][i] {
					t.Errorf("TransposeCartan(%v) = %v", c, got)
				}
			}
		}
		if !sameRows(impl.TransposeCartan(got), c) || !sameRows(c, before) {
			t.Errorf("TransposeCartan twice of %v is another matrix", before)
		}
	})
	for _, c := range invalidCartans() {
		if got := impl.TransposeCartan(c); len(got) != 0 {
			t.Errorf("TransposeCartan(%v) = %v, want none", c, got)
		}
	}
}

func TestTypeCartan(t *testing.T) {
	for name, want := range namedCartans {
		c, ok := impl.TypeCartan(name)
		if !ok || impl.FormatCartan(c) != want {
			t.Errorf("TypeCartan(%q) = %v, %t, want %s", name, c, ok, want)
		}
	}
}

func TestTypeCartanRejects(t *testing.T) {
	bad := []string{
		"A", "A0", "A5", "B1", "B5", "C1", "C2", "C5", "D2", "D3", "D5", "E4", "E6", "F2", "F3", "F5", "G1", "G3", "H3", "I2",
		"A0~", "A4~", "B2~", "B3~", "C1~", "C3~", "D4~", "F4~", "G1~", "A1~~", "~A1", "~", "", "?", "2", "a1", "a1~",
		" A1", "A1 ", "A1\n", "A1\x00", "A01", "A-1", "A1xA1", "A1,A1", "\uff211", "A\uff11", "A1\u02dc", "\xff",
	}
	for _, name := range bad {
		if c, ok := impl.TypeCartan(name); ok || len(c) != 0 {
			t.Errorf("TypeCartan(%q) = %v, %t, want none", name, c, ok)
		}
	}
	shortStrings("ABCDEFGH0123456~ x\xff", 3, func(name string) {
		_, named := namedCartans[name]
		if c, ok := impl.TypeCartan(name); ok != named || !named && len(c) != 0 {
			t.Errorf("TypeCartan(%q) = %v, %t", name, c, ok)
		}
	})
}

func TestJoinCartans(t *testing.T) {
	cases := []struct{ a, b, want string }{
		{"2", "2", "2,0;0,2"},
		{"2,-1;-3,2", "2", "2,-1,0;-3,2,0;0,0,2"},
		{"2", "2,-1;-3,2", "2,0,0;0,2,-1;0,-3,2"},
		{"2,-2;-2,2", "2,-1;-1,2", "2,-2,0,0;-2,2,0,0;0,0,2,-1;0,0,-1,2"},
		{"2,-1,0;-1,2,-2;0,-1,2", "2", "2,-1,0,0;-1,2,-2,0;0,-1,2,0;0,0,0,2"},
		{"2", "2,-1,0;-1,2,-2;0,-1,2", "2,0,0,0;0,2,-1,0;0,-1,2,-2;0,0,-1,2"},
	}
	for _, c := range cases {
		a, b := mustParseCartan(t, c.a), mustParseCartan(t, c.b)
		got, ok := impl.JoinCartans(a, b)
		if !ok || impl.FormatCartan(got) != c.want {
			t.Errorf("JoinCartans(%s, %s) = %v, %t, want %s", c.a, c.b, got, ok, c.want)
		}
		if impl.FormatCartan(a) != c.a || impl.FormatCartan(b) != c.b {
			t.Errorf("JoinCartans(%s, %s) modifies an argument", c.a, c.b)
		}
	}
}

func TestJoinCartansRejects(t *testing.T) {
	reject := func(a [][]int, b [][]int) {
		t.Helper()
		if got, ok := impl.JoinCartans(a, b); ok || len(got) != 0 {
			t.Errorf("JoinCartans(%v, %v) = %v, %t, want none", a, b, got, ok)
		}
	}
	for _, s := range namedCartans {
		for _, other := range namedCartans {
			a, b := mustParseCartan(t, s), mustParseCartan(t, other)
			if len(a)+len(b) > 4 {
				reject(a, b)
			}
		}
	}
	one := [][]int{{2}}
	for _, bad := range invalidCartans() {
		reject(bad, one)
		reject(one, bad)
		reject(bad, bad)
	}
}

func TestFormatCartan(t *testing.T) {
	cases := []struct {
		c    [][]int
		want string
	}{
		{[][]int{{2}}, "2"},
		{[][]int{{2, 0}, {0, 2}}, "2,0;0,2"},
		{[][]int{{2, -1}, {-3, 2}}, "2,-1;-3,2"},
		{[][]int{{2, -1, 0}, {-2, 2, -3}, {0, -1, 2}}, "2,-1,0;-2,2,-3;0,-1,2"},
	}
	for _, c := range cases {
		if got := impl.FormatCartan(c.c); got != c.want {
			t.Errorf("FormatCartan(%v) = %q, want %q", c.c, got, c.want)
		}
	}
	for _, c := range invalidCartans() {
		if got := impl.FormatCartan(c); got != "" {
			t.Errorf("FormatCartan(%v) = %q, want none", c, got)
		}
	}
}

func TestParseCartan(t *testing.T) {
	for _, s := range namedCartans {
		if got := impl.FormatCartan(mustParseCartan(t, s)); got != s {
			t.Errorf("ParseCartan(%q) is the matrix %q", s, got)
		}
	}
	if got := mustParseCartan(t, "2,-1;-3,2"); !sameRows(got, [][]int{{2, -1}, {-3, 2}}) {
		t.Errorf("ParseCartan = %v", got)
	}
}

func TestParseCartanRejects(t *testing.T) {
	bad := []string{
		"", ";", ",", "2;", ";2", "2,", ",2", "2;2", "2,2", "1", "3", "-2", "02", "+2", "2 ", " 2", "2\n", "2\x00", "\uff12", "e", "A2",
		"2,-1", "2,-1;", "2,-1;-1", "2,-1;-1,2;", ";2,-1;-1,2", "2,-1;;-1,2", "2,-1;-1,2,", "2,-1;-1,2,0", "2,-1,0;-1,2",
		"2,0;-1,2", "2,-1;0,2", "2,-4;-1,2", "2,-1;-4,2", "2,1;1,2", "2,-0;-0,2", "2,-01;-1,2", "2, -1;-1,2", "2,-1; -1,2",
		"2;-1,2", "2,-1,0;-1,2;0,-1,2", "2,--1;-1,2", "2,-;-1,2", "2,-1.0;-1,2", "2,-1;-1,2\xff", "2,-1|-1,2", "[[2]]", "(2)",
		"2,0,0,0,0;0,2,0,0,0;0,0,2,0,0;0,0,0,2,0;0,0,0,0,2", "2,18446744073709551615;-1,2", "4294967298", "18446744073709551618",
		strings.Repeat("2;", 5000), strings.Repeat("2,", 5000), strings.Repeat("2", 5000), strings.Repeat(";", 5000),
	}
	for _, s := range bad {
		if c, ok := impl.ParseCartan(s); ok || len(c) != 0 {
			t.Errorf("ParseCartan(%q) = %v, %t, want none", s, c, ok)
		}
	}
}

func TestCartanRoundTrip(t *testing.T) {
	formats := map[string]bool{}
	manyCartans(func(c [][]int) {
		s := impl.FormatCartan(c)
		got, ok := impl.ParseCartan(s)
		if !ok || !sameRows(got, c) || formats[s] {
			t.Errorf("ParseCartan(%q) = %v, %t, want %v", s, got, ok, c)
		}
		formats[s] = true
	})
}

func TestParseCartanReadsOnlyFormats(t *testing.T) {
	formats := map[string]bool{}
	for n := 1; n <= 3; n++ {
		eachCartan(n, 1, func(c [][]int) { formats[impl.FormatCartan(c)] = true })
	}
	check := func(s string) {
		c, ok := impl.ParseCartan(s)
		if ok != formats[s] || ok && impl.FormatCartan(c) != s || !ok && len(c) != 0 {
			t.Errorf("ParseCartan(%q) = %v, %t", s, c, ok)
		}
	}
	shortStrings("20-1,;", 7, check)
	// A string with one byte left out, replaced or put in has too few entries for rank 4, so that the formats above are all there are.
	for s := range formats {
		for i := range len(s) {
			check(s[:i] + s[i+1:])
			for _, x := range []string{"-", "0", "1", "2", "3", "4", ",", ";", " ", "+", "\x00", "\xff"} {
				check(s[:i] + x + s[i+1:])
				check(s[:i] + x + s[i:])
			}
		}
	}
}

func TestEqualCartans(t *testing.T) {
	lists := [][][]int{{{2, 3}}, {{5}, nil, {7, 8, 9}}, {nil, nil}, {{1}, {2}}, {{1, 2}}, {{2}, {1}}, {{1}}, {{1}, nil}, {nil, {1}}, {{math.MinInt}}}
	for _, s := range namedCartans {
		lists = append(lists, mustParseCartan(t, s))
	}
	for _, c := range invalidCartans() {
		// Empty lists and empty rows are equivalent to nil ones; they have cases of their own below.
		if len(c) > 0 && len(c[0]) > 0 {
			lists = append(lists, c)
		}
	}
	for i, a := range lists {
		for j, b := range lists {
			want := sameRows(a, b)
			if i == j && !want {
				t.Fatalf("%v is not like itself", a)
			}
			if got := impl.EqualCartans(a, copyRows(b)); got != want {
				t.Errorf("EqualCartans(%v, %v) = %t", a, b, got)
			}
		}
	}
}

func TestEqualCartansOfEmptyLists(t *testing.T) {
	if !impl.EqualCartans(nil, nil) || !impl.EqualCartans(nil, [][]int{}) || !impl.EqualCartans([][]int{}, nil) {
		t.Error("two empty lists differ")
	}
	if !impl.EqualCartans([][]int{nil}, [][]int{{}}) || !impl.EqualCartans([][]int{{1}, {}}, [][]int{{1}, nil}) {
		t.Error("two empty rows differ")
	}
	if impl.EqualCartans(nil, [][]int{nil}) || impl.EqualCartans([][]int{{}}, [][]int{}) || impl.EqualCartans([][]int{nil}, [][]int{nil, nil}) {
		t.Error("an empty row counts as no row")
	}
}

func TestCartanResultsAreFresh(t *testing.T) {
	for name, s := range namedCartans {
		c := roomyRows(mustParseCartan(t, s))
		if impl.FormatCartan(c) != s {
			t.Fatalf("%s: no such matrix", name)
		}
		expectFresh(t, "TransposeCartan of "+name, impl.TransposeCartan(c), c)
		if joined, ok := impl.JoinCartans(c, c); ok {
			expectFresh(t, "JoinCartans of "+name, joined, c)
		}
		named, _ := impl.TypeCartan(name)
		expectFresh(t, "TypeCartan of "+name, named)
		expectFresh(t, "ParseCartan of "+name, mustParseCartan(t, s))
		last := c[len(c)-1]
		if spare := last[len(last) : len(last)+3]; !sameRow(spare, []int{77, 77, 77}) {
			t.Errorf("%s: the capacity of an argument now holds %v", name, spare)
		}
		if again, _ := impl.TypeCartan(name); impl.FormatCartan(again) != s || impl.FormatCartan(c) != s {
			t.Errorf("%s: a later call returns %v", name, again)
		}
	}
}
