package tests

import (
	"sort"
	"strings"
	"testing"

	"loop.example/g02076/impl"
)

// partSizes are the numbers of elements of the groups with one finite name.
var partSizes = map[string]int{
	"A1": 2, "A2": 6, "A3": 24, "A4": 120, "B2": 8, "B3": 48, "B4": 384, "C3": 48, "C4": 384, "D4": 192, "F4": 1152, "G2": 12,
}

// affineCartans are all affine matrices of up to 4 points, except for the order of the points.
var affineCartans = []string{
	"2,-2;-2,2",
	"2,-1,-1;-1,2,-1;-1,-1,2",
	"2,-1,0;-2,2,-2;0,-1,2",
	"2,-2,0;-1,2,-1;0,-2,2",
	"2,-2,0;-1,2,-2;0,-1,2",
	"2,-1,0;-1,2,-1;0,-3,2",
	"2,-1,0;-1,2,-3;0,-1,2",
	"2,-1,0,-1;-1,2,-1,0;0,-1,2,-1;-1,0,-1,2",
	"2,-1,0,0;-2,2,-1,0;0,-1,2,-2;0,0,-1,2",
	"2,-2,0,0;-1,2,-1,0;0,-1,2,-1;0,0,-2,2",
	"2,-2,0,0;-1,2,-1,0;0,-1,2,-2;0,0,-1,2",
	"2,0,-1,0;0,2,-1,0;-1,-1,2,-1;0,0,-2,2",
	"2,0,-1,0;0,2,-1,0;-1,-1,2,-2;0,0,-1,2",
}

// eachSparse calls f with every matrix of 4 points that has at most a number of pairs of neighbours.
// Three pairs are enough for all parts of finite type, and four for all affine ones.
func eachSparse(pairs int, f func(c [][]int)) {
	c := singlePoints(4)
	var fill func(i int, j int, left int)
	fill = func(i int, j int, left int) {
		if j == i {
			i, j = i+1, 0
		}
		if i == len(c) {
			f(c)
			return
		}
		fill(i, j+1, left)
		if left == 0 {
			return
		}
		for code := range 9 {
			c[i][j], c[j][i] = -1-code/3, -1-code%3
			fill(i, j+1, left-1)
		}
		c[i][j], c[j][i] = 0, 0
	}
	fill(0, 0, pairs)
}

// eliminated returns the determinant by elimination without fractions.
func eliminated(m [][]int) int {
	m = copyRows(m)
	sign, last := 1, 1
	for k := range m {
		pivot := k
		for pivot < len(m) && m[pivot][k] == 0 {
			pivot++
		}
		if pivot == len(m) {
			return 0
		}
		if pivot != k {
			m[pivot], m[k] = m[k], m[pivot]
			sign = -sign
		}
		for i := k + 1; i < len(m); i++ {
			for j := k + 1; j < len(m); j++ {
				m[i][j] = (m[i][j]*m[k][k] - m[i][k]*m[k][j]) / last
			}
		}
		last = m[k][k]
	}
	return sign * last
}

// setsOf returns all sets of n points but the empty one, ordered by their greatest points, then by the ones before these, and so on.
func setsOf(n int) [][]int {
	var out [][]int
	for i := range n {
		earlier := len(out)
		out = append(out, []int{i})
		for _, set := range out[:earlier] {
			out = append(out, append(copyList(set), i))
		}
	}
	return out
}

func minorsOf(c [][]int) []int {
	var out []int
	for _, set := range setsOf(len(c)) {
		out = append(out, eliminated(relabelled(c, set)))
	}
	return out
}

// orbitSize returns the number of elements of the group, and 0 for an infinite one.
// Only the identity keeps the weight with 1 for each point, so that its images count the elements;
// in a finite group of rank 4 there are at most 1152, and no number in them is beyond 11, the greatest height of a coroot.
func orbitSize(c [][]int) int {
	start := [4]int{1, 1, 1, 1}
	seen := map[[4]int]bool{start: true}
	queue := [][4]int{start}
	for len(queue) > 0 {
		v := queue[0]
		queue = queue[1:]
		for i := range c {
			next := v
			for k := range c {
				next[k] -= v[i] * c[k][i]
				if next[k] > 11 || next[k] < -11 {
					return 0
				}
			}
			if !seen[next] {
				seen[next] = true
				queue = append(queue, next)
			}
		}
		if len(seen) > 1152 {
			return 0
		}
	}
	return len(seen)
}

// expectName checks promise P2 for one matrix: the group is finite, the parts have finite names, and there is no witness, or none of these.
func expectName(t *testing.T, c [][]int) {
	t.Helper()
	size := orbitSize(c)
	name := impl.NameOf(c)
	if got := impl.IsFinite(c); got != (size > 0) {
		t.Errorf("IsFinite(%v) = %t for a group with %d elements", c, got, size)
	}
	if got := impl.SizeByName(name); got != size {
		t.Errorf("SizeByName(%q) = %d for a group with %d elements: %v", name, got, size, c)
	}
	finite := true
	for _, part := range strings.Split(name, "x") {
		finite = finite && partSizes[part] > 0
	}
	witness := impl.WitnessOf(c)
	if finite != (size > 0) || finite != (len(witness) == 0) {
		t.Errorf("%v with %d elements has the name %s and the witness %v", c, size, name, witness)
	}
	if len(witness) > 0 {
		if sub, ok := impl.SubCartan(c, witness); !ok || orbitSize(sub) != 0 || eliminated(sub) > 0 {
			t.Errorf("WitnessOf(%v) = %v, of which the group is finite", c, witness)
		}
	}
}

func TestDeterminantOf(t *testing.T) {
	cases := []struct {
		c    string
		want int
	}{
		{"2", 2},
		{"2,0;0,2", 4},
		{"2,-1;-3,2", 1},
		{"2,-2;-2,2", 0},
		{"2,-3;-3,2", -5},
		// The two products around a circle differ when it has a direction.
		{"2,-1,-2;-2,2,-1;-1,-2,2", -13},
		{"2,-1,-3;-3,2,-1;-1,-3,2", -38},
		{"2,-2,-1;-1,2,-2;-2,-1,2", -13},
		{"2,-3,0,0;-2,2,0,0;0,0,2,-3;0,0,-2,2", 4},
		{"2,-3,-3,-3;-3,2,-3,-3;-3,-3,2,-3;-3,-3,-3,2", -875},
		{"2,0,0,0;0,2,0,0;0,0,2,0;0,0,0,2", 16},
	}
	for _, x := range cases {
		if got := impl.DeterminantOf(mustParseCartan(t, x.c)); got != x.want {
			t.Errorf("DeterminantOf(%s) = %d, want %d", x.c, got, x.want)
		}
	}
	named := map[string]int{
		"A1": 2, "A2": 3, "A3": 4, "A4": 5, "B2": 2, "B3": 2, "B4": 2, "C3": 2, "C4": 2, "D4": 4, "F4": 1, "G2": 1,
		"A1~": 0, "A2~": 0, "A3~": 0, "C2~": 0, "G2~": 0,
	}
	for name, s := range namedCartans {
		if got := impl.DeterminantOf(mustParseCartan(t, s)); got != named[name] {
			t.Errorf("DeterminantOf(%s) = %d, want %d", name, got, named[name])
		}
	}
}

func TestDeterminantsByElimination(t *testing.T) {
	check := func(c [][]int) {
		want := eliminated(c)
		if got := impl.DeterminantOf(c); got != want {
			t.Errorf("DeterminantOf(%v) = %d, want %d", c, got, want)
		}
		if got := impl.DeterminantOf(impl.TransposeCartan(c)); got != want {
			t.Errorf("DeterminantOf(%v) = %d after transposing, want %d", c, got, want)
		}
	}
	diagrams(check)
	eachCartan(4, 101, check)
}

func TestPrincipalMinors(t *testing.T) {
	cases := []struct {
		c    string
		want []int
	}{
		{"2", []int{2}},
		{"2,0;0,2", []int{2, 2, 4}},
		{"2,-1;-3,2", []int{2, 2, 1}},
		{"2,-3;-3,2", []int{2, 2, -5}},
		// The sets are 0, 1, 01, 2, 02, 12 and 012.
		{"2,-1,0;-1,2,-3;0,-1,2", []int{2, 2, 3, 2, 4, 1, 0}},
		{"2,-3,-1;-3,2,0;-2,0,2", []int{2, 2, -5, 2, 2, 4, -14}},
		{"2,0,0,-3;0,2,-1,0;0,-2,2,0;-3,0,0,2", []int{2, 2, 4, 2, 4, 2, 4, 2, -5, 4, -10, 4, -10, 4, -10}},
	}
	for _, x := range cases {
		if got := impl.PrincipalMinors(mustParseCartan(t, x.c)); !sameRow(got, x.want) {
			t.Errorf("PrincipalMinors(%s) = %v, want %v", x.c, got, x.want)
		}
	}
	diagrams(func(c [][]int) {
		if got, want := impl.PrincipalMinors(c), minorsOf(c); !sameRow(got, want) {
			t.Errorf("PrincipalMinors(%v) = %v, want %v", c, got, want)
		}
	})
}

func TestWitnessOf(t *testing.T) {
	cases := []struct {
		c    string
		want []int
	}{
		{"2", nil},
		{"2,-1;-3,2", nil},
		{"2,0;0,2", nil},
		{"2,-2;-2,2", []int{0, 1}},
		{"2,-2;-3,2", []int{0, 1}},
		{"2,-1,0;-1,2,-1;0,-3,2", []int{0, 1, 2}},
		{"2,0,0;0,2,-2;0,-2,2", []int{1, 2}},
		{"2,0,-2;0,2,0;-2,0,2", []int{0, 2}},
		// The set 23 is smaller than 012 and without smaller points, but its number is greater.
		{"2,-1,-1,0;-1,2,-1,0;-1,-1,2,-3;0,0,-3,2", []int{0, 1, 2}},
		{"2,0,0,-3;0,2,-3,0;0,-3,2,0;-3,0,0,2", []int{1, 2}},
		{"2,0,0,-3;0,2,-1,0;0,-1,2,-3;-3,0,-3,2", []int{0, 3}},
		{"2,-1,0,-1;-1,2,-1,0;0,-1,2,-1;-1,0,-1,2", []int{0, 1, 2, 3}},
	}
	for _, x := range cases {
		if got := impl.WitnessOf(mustParseCartan(t, x.c)); !sameRow(got, x.want) {
			t.Errorf("WitnessOf(%s) = %v, want %v", x.c, got, x.want)
		}
	}
	check := func(c [][]int) {
		var want []int
		for k, minor := range minorsOf(c) {
			if minor <= 0 {
				want = setsOf(len(c))[k]
				break
			}
		}
		if got := impl.WitnessOf(c); !sameRow(got, want) {
			t.Errorf("WitnessOf(%v) = %v, want %v", c, got, want)
		}
		if got := impl.IsFinite(c); got != (want == nil) {
			t.Errorf("IsFinite(%v) = %t with the witness %v", c, got, want)
		}
	}
	diagrams(check)
	eachSparse(2, check)
}

func TestFiniteExactlyIfNamed(t *testing.T) {
	check := func(c [][]int) { expectName(t, c) }
	diagrams(check)
	eachSparse(3, check)
	for _, s := range namedCartans {
		c := mustParseCartan(t, s)
		for _, order := range ordersOf(len(c)) {
			expectName(t, relabelled(c, order))
		}
		expectName(t, impl.TransposeCartan(c))
	}
}

func TestZeroDeterminantInAPart(t *testing.T) {
	cases := []struct {
		c       string
		name    string
		witness []int
	}{
		{"2,-2,0;-2,2,0;0,0,2", "A1~xA1", []int{0, 1}},
		{"2,0,0;0,2,-2;0,-2,2", "A1xA1~", []int{1, 2}},
		{"2,0,-2;0,2,0;-2,0,2", "A1~xA1", []int{0, 2}},
		{"2,0,0,0;0,2,-1,-1;0,-1,2,-1;0,-1,-1,2", "A1xA2~", []int{1, 2, 3}},
		{"2,-2,0,0;-2,2,0,0;0,0,2,-2;0,0,-2,2", "A1~xA1~", []int{0, 1}},
		{"2,-1,0,0;-1,2,0,0;0,0,2,-2;0,0,-2,2", "A2xA1~", []int{2, 3}},
		// A part without a name of its own.
		{"2,-2,0,0;-1,2,-1,0;0,-2,2,0;0,0,0,2", "?xA1", []int{0, 1, 2}},
	}
	for _, x := range cases {
		c := mustParseCartan(t, x.c)
		if got := impl.DeterminantOf(c); got != 0 {
			t.Errorf("DeterminantOf(%s) = %d, want 0", x.c, got)
		}
		if impl.IsFinite(c) || impl.IsAffine(c) {
			t.Errorf("%s is finite %t, affine %t", x.c, impl.IsFinite(c), impl.IsAffine(c))
		}
		if got := impl.WitnessOf(c); !sameRow(got, x.witness) {
			t.Errorf("WitnessOf(%s) = %v, want %v", x.c, got, x.witness)
		}
		if name := impl.NameOf(c); name != x.name || impl.SizeByName(name) != 0 {
			t.Errorf("NameOf(%s) = %s with %d elements, want %s", x.c, name, impl.SizeByName(name), x.name)
		}
		expectName(t, c)
	}
}

func TestDeterminantAloneDoesNotDecide(t *testing.T) {
	// Positive, as the product of two negative ones.
	c := mustParseCartan(t, "2,-3,0,0;-2,2,0,0;0,0,2,-3;0,0,-2,2")
	if impl.DeterminantOf(c) != 4 || impl.IsFinite(c) || !sameRow(impl.WitnessOf(c), []int{0, 1}) || impl.NameOf(c) != "?x?" {
		t.Errorf("%v is finite %t, with the witness %v and the name %s", c, impl.IsFinite(c), impl.WitnessOf(c), impl.NameOf(c))
	}
	// Zero in a connected matrix, in which the minors of both ends are negative.
	c = mustParseCartan(t, "2,-2,0,0;-3,2,-1,0;0,-1,2,-2;0,0,-3,2")
	if impl.DeterminantOf(c) != 0 || impl.IsAffine(c) || impl.IsFinite(c) || !sameRow(impl.WitnessOf(c), []int{0, 1}) || impl.NameOf(c) != "?" {
		t.Errorf("%v is affine %t, with the witness %v and the name %s", c, impl.IsAffine(c), impl.WitnessOf(c), impl.NameOf(c))
	}
}

func TestIsAffine(t *testing.T) {
	affine := map[string]bool{}
	for _, s := range affineCartans {
		c := mustParseCartan(t, s)
		for _, order := range ordersOf(len(c)) {
			other := relabelled(c, order)
			affine[impl.FormatCartan(other)] = true
			if !impl.IsAffine(other) || impl.IsFinite(other) {
				t.Errorf("%v is affine %t, finite %t", other, impl.IsAffine(other), impl.IsFinite(other))
			}
			if got := impl.WitnessOf(other); !sameRow(got, ordersOf(len(c))[0]) {
				t.Errorf("WitnessOf(%v) = %v, want all points", other, got)
			}
		}
	}
	check := func(c [][]int) {
		if got := impl.IsAffine(c); got != affine[impl.FormatCartan(c)] {
			t.Errorf("IsAffine(%v) = %t", c, got)
		}
	}
	manyCartans(check)
	eachSparse(4, check)
}

func TestNameOfPart(t *testing.T) {
	for name, s := range namedCartans {
		c := mustParseCartan(t, s)
		for _, order := range ordersOf(len(c)) {
			other := relabelled(c, order)
			if got := impl.NameOfPart(other); got != name {
				t.Errorf("NameOfPart(%v) = %q, want %s", other, got, name)
			}
			if got := impl.NameOf(other); got != name {
				t.Errorf("NameOf(%v) = %q, want %s", other, got, name)
			}
		}
	}
	transposed := map[string]string{"B2": "B2", "B3": "C3", "C3": "B3", "B4": "C4", "C4": "B4", "D4": "D4", "F4": "F4", "G2": "G2", "A4": "A4", "A3~": "A3~", "C2~": "?", "G2~": "?"}
	for name, want := range transposed {
		if got := impl.NameOfPart(impl.TransposeCartan(mustParseCartan(t, namedCartans[name]))); got != want {
			t.Errorf("the transposed %s has the name %q, want %s", name, got, want)
		}
	}
	for _, s := range []string{"2,-3;-2,2", "2,-3;-3,2", "2,-2,0;-1,2,-1;0,-2,2", "2,-3,-3,-3;-3,2,-3,-3;-3,-3,2,-3;-3,-3,-3,2", "2,-1,-2;-2,2,-1;-1,-2,2"} {
		if got := impl.NameOfPart(mustParseCartan(t, s)); got != "?" {
			t.Errorf("NameOfPart(%s) = %q, want ?", s, got)
		}
	}
	for n := 2; n <= 4; n++ {
		if got := impl.NameOfPart(singlePoints(n)); got != "" {
			t.Errorf("NameOfPart of %d single points = %q", n, got)
		}
	}
}

func TestNamesOfAllMatrices(t *testing.T) {
	names := map[string]string{}
	for name, s := range namedCartans {
		c := mustParseCartan(t, s)
		for _, order := range ordersOf(len(c)) {
			names[impl.FormatCartan(relabelled(c, order))] = name
		}
	}
	diagrams(func(c [][]int) {
		want := names[impl.FormatCartan(c)]
		if want == "" && impl.IsConnected(c) {
			want = "?"
		}
		if got := impl.NameOfPart(c); got != want {
			t.Errorf("NameOfPart(%v) = %q, want %q", c, got, want)
		}
		var parts []string
		for _, part := range impl.PartsOf(c) {
			name := names[impl.FormatCartan(relabelled(c, part))]
			if name == "" {
				name = "?"
			}
			parts = append(parts, name)
		}
		if got := impl.NameOf(c); got != strings.Join(parts, "x") {
			t.Errorf("NameOf(%v) = %q, want %v", c, got, parts)
		}
	})
}

func TestNameOf(t *testing.T) {
	cases := []struct{ c, want string }{
		{"2", "A1"},
		{"2,0;0,2", "A1xA1"},
		{"2,0,0,0;0,2,0,0;0,0,2,0;0,0,0,2", "A1xA1xA1xA1"},
		{"2,-1,0,0;-3,2,0,0;0,0,2,-1;0,0,-1,2", "G2xA2"},
		{"2,-1,0,0;-1,2,0,0;0,0,2,-1;0,0,-3,2", "A2xG2"},
		// The parts are in the order of their first points, not in that of their names.
		{"2,0,-1;0,2,0;-2,0,2", "B2xA1"},
		{"2,0,0,-1;0,2,-1,0;0,-3,2,0;-2,0,0,2", "B2xG2"},
		{"2,0,0,0;0,2,0,-2;0,0,2,-1;0,-1,-1,2", "A1xB3"},
		{"2,0,0,0;0,2,0,-1;0,0,2,-1;0,-2,-1,2", "A1xC3"},
		{"2,-3,0,0;-2,2,0,0;0,0,2,0;0,0,0,2", "?xA1xA1"},
	}
	for _, x := range cases {
		c := mustParseCartan(t, x.c)
		if got := impl.NameOf(c); got != x.want {
			t.Errorf("NameOf(%s) = %q, want %s", x.c, got, x.want)
		}
	}
	for a, s := range namedCartans {
		for b, other := range namedCartans {
			if joined, ok := impl.JoinCartans(mustParseCartan(t, s), mustParseCartan(t, other)); ok {
				if got := impl.NameOf(joined); got != a+"x"+b {
					t.Errorf("NameOf %s and %s = %q", a, b, got)
				}
				if got := impl.NameOfPart(joined); got != "" {
					t.Errorf("NameOfPart of %s and %s = %q", a, b, got)
				}
				if got, want := impl.SizeByName(a+"x"+b), partSizes[a]*partSizes[b]; got != want {
					t.Errorf("SizeByName of %s and %s = %d, want %d", a, b, got, want)
				}
				expectName(t, joined)
			}
		}
	}
}

func TestSizeByName(t *testing.T) {
	var names []string
	for name := range namedCartans {
		names = append(names, name)
		if got := impl.SizeByName(name); got != partSizes[name] {
			t.Errorf("SizeByName(%q) = %d, want %d", name, got, partSizes[name])
		}
	}
	sort.Strings(names)
	for i := range 17 * 17 * 17 {
		a, b, c := names[i%17], names[i/17%17], names[i/289]
		want := partSizes[a] * partSizes[b] * partSizes[c]
		if got := impl.SizeByName(a + "x" + b + "x" + c); got != want {
			t.Errorf("SizeByName of %s, %s and %s = %d, want %d", a, b, c, got, want)
		}
		// The fourth name counts as well, a fifth one leaves nothing.
		if got := impl.SizeByName(a + "x" + b + "x" + c + "xA1"); got != 2*want {
			t.Errorf("SizeByName of %s, %s, %s and A1 = %d, want %d", a, b, c, got, 2*want)
		}
		if got := impl.SizeByName(a + "x" + b + "x" + c + "xA1xA1"); got != 0 {
			t.Errorf("SizeByName of %s, %s, %s and two A1 = %d, want 0", a, b, c, got)
		}
	}
	if got := impl.SizeByName("F4xF4xF4xF4"); got != 1152*1152*1152*1152 {
		t.Errorf("SizeByName of four F4 = %d", got)
	}
}

func TestSizeByNameRejects(t *testing.T) {
	bad := []string{
		"", "x", "xx", "xxx", "xxxx", "A1x", "xA1", "xA1x", "A1xxA1", "A1xA1x", "A1xA1xA1xA1x", "xA1xA1xA1xA1", "A1xA1xA1xA1xA1", "A1xA1xA1xA1x?",
		"?", "?xA1", "A1x?", "A1~xA1", "A1xA1~", "A1XA1", "A1 x A1", "A1,A1", "A1*A1", "A1\u00d7A1", "a1", "a1xa1", " A1", "A1 ", "A1\n", "A1\x00", "A01",
		"A1\xffA1", "x\xff", "A1x\xff", "e", "1", "2", strings.Repeat("A1x", 5000), strings.Repeat("x", 5000), strings.Repeat("A1", 5000),
	}
	for _, name := range bad {
		if got := impl.SizeByName(name); got != 0 {
			t.Errorf("SizeByName(%q) = %d, want 0", name, got)
		}
	}
	shortStrings("ABCDEFGH0123456~? x\xff", 3, func(name string) {
		if got := impl.SizeByName(name); got != partSizes[name] {
			t.Errorf("SizeByName(%q) = %d, want %d", name, got, partSizes[name])
		}
	})
}

func TestFiniteTypesOfInvalidMatrices(t *testing.T) {
	for _, c := range invalidCartans() {
		if got := impl.DeterminantOf(c); got != 0 {
			t.Errorf("DeterminantOf(%v) = %d, want 0", c, got)
		}
		if got := impl.PrincipalMinors(c); len(got) != 0 {
			t.Errorf("PrincipalMinors(%v) = %v, want none", c, got)
		}
		if got := impl.WitnessOf(c); len(got) != 0 {
			t.Errorf("WitnessOf(%v) = %v, want none", c, got)
		}
		if impl.IsFinite(c) || impl.IsAffine(c) {
			t.Errorf("%v is finite %t, affine %t", c, impl.IsFinite(c), impl.IsAffine(c))
		}
		if impl.NameOfPart(c) != "" || impl.NameOf(c) != "" {
			t.Errorf("%v has the names %q and %q", c, impl.NameOfPart(c), impl.NameOf(c))
		}
	}
}

func TestFiniteTypesKeepTheirArguments(t *testing.T) {
	for name, s := range namedCartans {
		c := roomyRows(mustParseCartan(t, s))
		minors, witness := impl.PrincipalMinors(c), impl.WitnessOf(c)
		if impl.NameOf(c) != name || impl.NameOfPart(c) != name || impl.IsFinite(c) == impl.IsAffine(c) || impl.DeterminantOf(c) != minors[len(minors)-1] {
			t.Errorf("%s: other results for a part of a longer list", name)
		}
		expectFresh(t, "PrincipalMinors and WitnessOf of "+name, [][]int{minors, witness}, c)
		last := c[len(c)-1]
		if spare := last[len(last) : len(last)+3]; impl.FormatCartan(c) != s || !sameRow(spare, []int{77, 77, 77}) {
			t.Errorf("%s: the argument is now %v, with %v behind it", name, c, spare)
		}
		if again := impl.PrincipalMinors(c); !sameRow(again, minorsOf(c)) {
			t.Errorf("%s: a later call returns %v", name, again)
		}
	}
}
