package tests

import (
	"math"
	"strings"
	"testing"

	"loop.example/g02076/impl"
)

// highestRoots are the highest roots of the connected finite matrices with a name, from the usual tables.
var highestRoots = map[string][]int{
	"A1": {1}, "A2": {1, 1}, "A3": {1, 1, 1}, "A4": {1, 1, 1, 1}, "B2": {1, 2}, "B3": {1, 2, 2}, "B4": {1, 2, 2, 2},
	"C3": {2, 2, 1}, "C4": {2, 2, 2, 1}, "D4": {1, 2, 1, 1}, "F4": {2, 3, 4, 2}, "G2": {2, 3},
}

// positiveRootCounts are the numbers of reflections of the groups.
var positiveRootCounts = map[string]int{
	"A1": 1, "A2": 3, "A3": 6, "A4": 10, "B2": 4, "B3": 9, "B4": 16, "C3": 9, "C4": 16, "D4": 12, "F4": 24, "G2": 6,
}

func spaceSeparated(l [][]int) string {
	fields := make([]string, len(l))
	for k, r := range l {
		fields[k] = commaSeparated(r)
	}
	return strings.Join(fields, " ")
}

// pairedWith is the sum by which a reflection at i changes the number i.
func pairedWith(c [][]int, i int, r []int) int {
	sum := 0
	for j := range r {
		sum += c[i][j] * r[j]
	}
	return sum
}

// reflectedRoot is the definition of a reflection of a root vector.
func reflectedRoot(c [][]int, i int, r []int) []int {
	out := copyList(r)
	out[i] = r[i] - pairedWith(c, i, r)
	return out
}

func heightOf(r []int) int {
	sum := 0
	for _, n := range r {
		sum += n
	}
	return sum
}

func negated(r []int) []int {
	out := make([]int, len(r))
	for i := range out {
		out[i] = -r[i]
	}
	return out
}

// vectorsOfHeight returns all lists of n numbers from 0 on with a sum, those with greater first numbers first.
func vectorsOfHeight(n int, height int) [][]int {
	if n == 1 {
		return [][]int{{height}}
	}
	var out [][]int
	for first := height; first >= 0; first-- {
		for _, rest := range vectorsOfHeight(n-1, height-first) {
			out = append(out, append([]int{first}, rest...))
		}
	}
	return out
}

// descendsToSimple reports whether a vector without negative numbers is a root: reflections that make it less lead to a simple root,
// and on the way there is no vector with a negative number.
func descendsToSimple(c [][]int, r []int) bool {
	for heightOf(r) > 1 {
		at := 0
		for at < len(r) && pairedWith(c, at, r) <= 0 {
			at++
		}
		if at == len(r) {
			return false
		}
		r = reflectedRoot(c, at, r)
		if r[at] < 0 {
			return false
		}
	}
	return heightOf(r) == 1
}

// rootsByHeight returns the roots of each height from 1 to 12, at the index of the height, each list in the order of roots.
func rootsByHeight(c [][]int) [13][][]int {
	var out [13][][]int
	for height := 1; height <= 12; height++ {
		for _, r := range vectorsOfHeight(len(c), height) {
			if descendsToSimple(c, r) {
				out[height] = append(out[height], r)
			}
		}
	}
	return out
}

func TestIsRootVector(t *testing.T) {
	manyCartans(func(c [][]int) {
		n := len(c)
		for at := range n {
			for _, fill := range []int{0, 1, -1, 1000, -1000} {
				r := repeated(fill, n)
				for _, x := range []int{0, 1, -1, 1000, -1000} {
					r[at] = x
					if !impl.IsRootVector(c, r) {
						t.Errorf("IsRootVector(%v, %v) = false", c, r)
					}
				}
				for _, x := range []int{1001, -1001, 1000000, math.MaxInt, math.MinInt} {
					r[at] = x
					if impl.IsRootVector(c, r) {
						t.Errorf("IsRootVector(%v, %v) = true", c, r)
					}
				}
			}
		}
		for _, r := range wrongLengths(n) {
			if impl.IsRootVector(c, r) {
				t.Errorf("IsRootVector(%v, %v) = true", c, r)
			}
		}
	})
	for _, c := range invalidCartans() {
		for n := range 6 {
			if impl.IsRootVector(c, repeated(1, n)) {
				t.Errorf("IsRootVector(%v) of %d numbers = true", c, n)
			}
		}
	}
}

func TestReflectRoot(t *testing.T) {
	cases := []struct {
		name    string
		i       int
		r, want []int
	}{
		{"A1", 0, []int{5}, []int{-5}},
		{"A2", 0, []int{0, 1}, []int{1, 1}},
		{"A2", 0, []int{1, 1}, []int{0, 1}},
		// The row of the point counts, not its column.
		{"B2", 0, []int{0, 1}, []int{1, 1}},
		{"B2", 1, []int{1, 0}, []int{1, 2}},
		{"G2", 0, []int{0, 1}, []int{1, 1}},
		{"G2", 1, []int{1, 0}, []int{1, 3}},
		{"C3", 1, []int{0, 0, 1}, []int{0, 2, 1}},
		{"D4", 1, []int{1, 1, 1, 1}, []int{1, 2, 1, 1}},
		{"A1~", 0, []int{1, 1}, []int{1, 1}},
		{"A2~", 1, []int{1, 0, 1}, []int{1, 2, 1}},
		// Vectors of mixed signs.
		{"A2", 0, []int{1, -1}, []int{-2, -1}},
		{"A2", 1, []int{1, -1}, []int{1, 2}},
		{"G2", 1, []int{-1, 1}, []int{-1, -4}},
		{"A3", 1, []int{1, 0, -1}, []int{1, 0, -1}},
		{"B2", 1, []int{1000000, -1000000}, []int{1000000, 3000000}},
	}
	for _, x := range cases {
		c := mustParseCartan(t, namedCartans[x.name])
		expectWord(t, "ReflectRoot of "+x.name, impl.ReflectRoot(c, x.i, x.r), x.want)
	}
}

func TestReflectRootOfAllMatrices(t *testing.T) {
	manyCartans(func(c [][]int) {
		for _, r := range someVectors(len(c)) {
			for i := range c {
				got := impl.ReflectRoot(c, i, r)
				if !sameRow(got, reflectedRoot(c, i, r)) {
					t.Errorf("ReflectRoot(%v, %d, %v) = %v", c, i, r, got)
				}
				if back := impl.ReflectRoot(c, i, got); !sameRow(back, r) {
					t.Errorf("ReflectRoot(%v, %d) of %v twice is %v", c, i, r, back)
				}
				if a, b := impl.WeightOfRoot(c, got), impl.ReflectWeight(c, i, impl.WeightOfRoot(c, r)); !sameRow(a, b) {
					t.Errorf("%v: the weights of %v and its reflection by %d are %v and not %v", c, r, i, a, b)
				}
			}
		}
	})
}

func TestReflectRootKeepsInvalidOnes(t *testing.T) {
	expectReflectionKeepsInvalidOnes(t, "ReflectRoot", impl.ReflectRoot)
}

func TestActOnRoot(t *testing.T) {
	g := mustParseCartan(t, namedCartans["G2"])
	// The last letter comes first: 12 reflects at the second point, then at the first.
	expectWord(t, "12 on G2", impl.ActOnRoot(g, []int{0, 1}, []int{0, 1}), []int{-1, -1})
	expectWord(t, "21 on G2", impl.ActOnRoot(g, []int{1, 0}, []int{0, 1}), []int{1, 2})
	expectWord(t, "12 on G2", impl.ActOnRoot(g, []int{0, 1}, []int{1, 0}), []int{2, 3})
	expectWord(t, "e on G2", impl.ActOnRoot(g, nil, []int{7, -9}), []int{7, -9})
	expectWord(t, "121212 on G2", impl.ActOnRoot(g, []int{0, 1, 0, 1, 0, 1}, []int{7, -9}), []int{-7, 9})
	f := mustParseCartan(t, namedCartans["F4"])
	expectWord(t, "1234 on F4", impl.ActOnRoot(f, []int{0, 1, 2, 3}, []int{0, 1, 0, 0}), []int{1, 1, 2, 0})
}

func TestActOnRootReflectsByEachLetter(t *testing.T) {
	expectActionByEachLetter(t, "ActOnRoot", impl.ActOnRoot, reflectedRoot)
}

func TestActionOfWordsOnRoots(t *testing.T) {
	expectActionOfWords(t, "ActOnRoot", impl.ActOnRoot)
	manyCartans(func(c [][]int) {
		for _, r := range someVectors(len(c)) {
			w := append(pointsOf(c), 0)
			if a, b := impl.WeightOfRoot(c, impl.ActOnRoot(c, w, r)), impl.ActOnWeight(c, w, impl.WeightOfRoot(c, r)); !sameRow(a, b) {
				t.Errorf("%v: %v acts on the weight of %v as %v, and the weight of its image is %v", c, w, r, b, a)
			}
		}
	})
}

func TestActOnRootKeepsInvalidOnes(t *testing.T) {
	expectActionKeepsInvalidOnes(t, "ActOnRoot", impl.ActOnRoot)
}

func TestSimpleRoot(t *testing.T) {
	manyCartans(func(c [][]int) {
		for i := range c {
			want := make([]int, len(c))
			want[i] = 1
			root := impl.SimpleRoot(c, i)
			expectWord(t, "SimpleRoot", root, want)
			expectWord(t, "the reflection of a simple root by its own point", impl.ReflectRoot(c, i, root), negated(want))
		}
		for _, i := range append([]int{len(c)}, badPoints...) {
			expectWord(t, "SimpleRoot with no such point", impl.SimpleRoot(c, i), nil)
		}
	})
	for _, c := range invalidCartans() {
		for _, i := range append([]int{0, 1, 2, 3}, badPoints...) {
			expectWord(t, "SimpleRoot of an invalid matrix", impl.SimpleRoot(c, i), nil)
		}
	}
}

func TestHeightOf(t *testing.T) {
	cases := []struct {
		r    []int
		want int
	}{
		{nil, 0}, {[]int{}, 0}, {[]int{7}, 7}, {[]int{-7}, -7}, {[]int{1, 2, 3, 4}, 10}, {[]int{-1, -2, -3, -4}, -10}, {[]int{3, -5}, -2}, {[]int{5, -5, 0}, 0},
		{[]int{1000000, 1000000, 1000000, 1000000}, 4000000}, {[]int{0, 0, 0, 0, 1, -2, 3}, 2}, {repeated(3, 100), 300},
	}
	for _, x := range cases {
		if got := impl.HeightOf(x.r); got != x.want {
			t.Errorf("HeightOf(%v) = %d, want %d", x.r, got, x.want)
		}
	}
}

func TestRootSign(t *testing.T) {
	cases := []struct {
		r    []int
		want int
	}{
		{nil, 0}, {[]int{}, 0}, {[]int{math.MaxInt}, 1}, {[]int{math.MinInt}, -1}, {[]int{math.MinInt, math.MaxInt}, 0}, {[]int{math.MaxInt, math.MaxInt}, 1}, {[]int{math.MinInt, math.MinInt}, -1},
		// The sum does not decide.
		{[]int{1, -1}, 0}, {[]int{5, -1}, 0}, {[]int{-5, 1}, 0}, {[]int{1000, 0, 0, -1}, 0}, {[]int{-1000, 0, 0, 1}, 0},
		{append(repeated(0, 50), 1), 1}, {append(repeated(0, 50), -1), -1}, {append(repeated(1, 50), -1), 0}, {append(repeated(-1, 50), 1), 0}, {repeated(0, 50), 0},
	}
	for _, x := range cases {
		if got := impl.RootSign(x.r); got != x.want {
			t.Errorf("RootSign(%v) = %d, want %d", x.r, got, x.want)
		}
	}
	for n := 1; n <= 4; n++ {
		for _, digits := range wordsUpTo([]int{0, 1, 2, 3, 4}, n) {
			r := make([]int, len(digits))
			positive, negative := 0, 0
			for k, digit := range digits {
				r[k] = digit - 2
				if r[k] > 0 {
					positive = 1
				}
				if r[k] < 0 {
					negative = 1
				}
			}
			if got := impl.RootSign(r); got != positive-negative {
				t.Errorf("RootSign(%v) = %d, want %d", r, got, positive-negative)
			}
		}
	}
}

func TestSignsOfMixedVectors(t *testing.T) {
	for n := 2; n <= 4; n++ {
		for _, r := range mixedVectors(n) {
			if impl.RootSign(r) != 0 || impl.RootSign(negated(r)) != 0 {
				t.Errorf("RootSign of %v and its negative are %d and %d, want 0", r, impl.RootSign(r), impl.RootSign(negated(r)))
			}
		}
	}
	for name, s := range namedCartans {
		c := mustParseCartan(t, s)
		if len(c) > 1 && !impl.IsRootVector(c, mixedVectors(len(c))[0]) {
			t.Errorf("%s: a vector of mixed signs is no root vector", name)
		}
		for _, r := range impl.RootsUpTo(c, 12) {
			if impl.RootSign(r) != 1 || impl.RootSign(negated(r)) != -1 {
				t.Errorf("%s: RootSign(%v) = %d", name, r, impl.RootSign(r))
			}
		}
	}
}

func TestRootsUpTo(t *testing.T) {
	cases := []struct {
		c      string
		height int
		want   string
	}{
		{"2", 1, "1"},
		{"2", 12, "1"},
		{"2,-1;-1,2", 1, "1,0 0,1"},
		{"2,-1;-1,2", 2, "1,0 0,1 1,1"},
		{"2,-1;-2,2", 12, "1,0 0,1 1,1 1,2"},
		{"2,-2;-1,2", 12, "1,0 0,1 1,1 2,1"},
		{"2,-1;-3,2", 4, "1,0 0,1 1,1 1,2 1,3"},
		{"2,-1;-3,2", 12, "1,0 0,1 1,1 1,2 1,3 2,3"},
		{"2,0;0,2", 12, "1,0 0,1"},
		{"2,-2;-2,2", 2, "1,0 0,1"},
		{"2,-2;-2,2", 3, "1,0 0,1 2,1 1,2"},
		{"2,-2;-2,2", 12, "1,0 0,1 2,1 1,2 3,2 2,3 4,3 3,4 5,4 4,5 6,5 5,6"},
		{"2,-1,-1;-1,2,-1;-1,-1,2", 4, "1,0,0 0,1,0 0,0,1 1,1,0 1,0,1 0,1,1 2,1,1 1,2,1 1,1,2"},
		{"2,-3;-3,2", 12, "1,0 0,1 3,1 1,3 8,3 3,8"},
		{"2,-3;-2,2", 12, "1,0 0,1 1,2 3,1 5,2 3,5"},
		{"2,-3;-3,2", 10, "1,0 0,1 3,1 1,3"},
	}
	for _, x := range cases {
		if got := spaceSeparated(impl.RootsUpTo(mustParseCartan(t, x.c), x.height)); got != x.want {
			t.Errorf("RootsUpTo(%s, %d) = %s, want %s", x.c, x.height, got, x.want)
		}
	}
}

func TestRootsUpToEachHeight(t *testing.T) {
	check := func(c [][]int) {
		var want [][]int
		for height, roots := range rootsByHeight(c) {
			if height == 0 {
				continue
			}
			want = append(want, roots...)
			if got := impl.RootsUpTo(c, height); !sameRows(got, want) {
				t.Errorf("RootsUpTo(%v, %d) = %v, want %v", c, height, got, want)
			}
		}
	}
	diagrams(check)
	for _, s := range namedCartans {
		check(mustParseCartan(t, s))
	}
	for _, s := range affineCartans {
		check(mustParseCartan(t, s))
	}
}

func TestRootsUpToRejects(t *testing.T) {
	for name, s := range namedCartans {
		c := mustParseCartan(t, s)
		for _, height := range []int{0, -1, -12, 13, 14, 24, 1 << 32, math.MaxInt, math.MinInt} {
			if got := impl.RootsUpTo(c, height); len(got) != 0 {
				t.Errorf("RootsUpTo(%s, %d) = %v, want none", name, height, got)
			}
		}
	}
	for _, c := range invalidCartans() {
		for _, height := range []int{-1, 0, 1, 2, 12, 13} {
			if got := impl.RootsUpTo(c, height); len(got) != 0 {
				t.Errorf("RootsUpTo(%v, %d) = %v, want none", c, height, got)
			}
		}
	}
}

func TestRootsArePositiveOrNegative(t *testing.T) {
	check := func(c [][]int) {
		words := wordsUpTo(pointsOf(c), 4)
		for shift := range 4 {
			long := make([]int, 15)
			for k := range long {
				long[k] = (k + k*shift/3) % len(c)
			}
			words = append(words, long, impl.ReverseWord(long))
		}
		for _, w := range words {
			for i := range c {
				r := impl.ActOnRoot(c, w, impl.SimpleRoot(c, i))
				if impl.RootSign(r) == 0 {
					t.Errorf("%v: %v leads from the simple root %d to %v", c, w, i, r)
				}
			}
		}
	}
	manyCartans(check)
	for _, s := range namedCartans {
		check(mustParseCartan(t, s))
	}
}

func TestReflectionsPermutePositiveRoots(t *testing.T) {
	manyCartans(func(c [][]int) {
		for _, r := range impl.RootsUpTo(c, 12) {
			for i := range c {
				image := impl.ReflectRoot(c, i, r)
				want := 1
				if sameRow(r, impl.SimpleRoot(c, i)) {
					want = -1
				}
				if impl.RootSign(image) != want {
					t.Errorf("%v: the reflection of %v by %d is %v", c, r, i, image)
				}
			}
		}
	})
}

func TestPositiveRoots(t *testing.T) {
	for name, count := range positiveRootCounts {
		c := mustParseCartan(t, namedCartans[name])
		roots, ok := impl.PositiveRoots(c)
		if !ok || len(roots) != count {
			t.Errorf("PositiveRoots(%s) has %d roots, %t, want %d", name, len(roots), ok, count)
		}
		// Nothing is missing if the reflections lead to no other root.
		for _, r := range roots {
			for i := range c {
				image := impl.ReflectRoot(c, i, r)
				if !isOneOf(roots, image) && !isOneOf(roots, negated(image)) {
					t.Errorf("%s: the reflection of %v by %d is %v, which is no root", name, r, i, image)
				}
			}
		}
	}
	f, _ := impl.PositiveRoots(mustParseCartan(t, namedCartans["B3"]))
	if got := spaceSeparated(f); got != "1,0,0 0,1,0 0,0,1 1,1,0 0,1,1 1,1,1 0,1,2 1,1,2 1,2,2" {
		t.Errorf("PositiveRoots(B3) = %s", got)
	}
}

func TestPositiveRootsOfAllMatrices(t *testing.T) {
	check := func(c [][]int) {
		roots, ok := impl.PositiveRoots(c)
		if ok != impl.IsFinite(c) {
			t.Errorf("PositiveRoots(%v) = %t", c, ok)
		}
		if !ok && len(roots) != 0 || ok && !sameRows(roots, impl.RootsUpTo(c, 12)) {
			t.Errorf("PositiveRoots(%v) = %v, %t", c, roots, ok)
		}
	}
	diagrams(check)
	for a, s := range namedCartans {
		check(mustParseCartan(t, s))
		for b, other := range namedCartans {
			if joined, ok := impl.JoinCartans(mustParseCartan(t, s), mustParseCartan(t, other)); ok {
				check(joined)
				if roots, ok := impl.PositiveRoots(joined); ok && len(roots) != positiveRootCounts[a]+positiveRootCounts[b] {
					t.Errorf("PositiveRoots of %s and %s are %v", a, b, roots)
				}
			}
		}
	}
	for _, c := range invalidCartans() {
		if roots, ok := impl.PositiveRoots(c); ok || len(roots) != 0 {
			t.Errorf("PositiveRoots(%v) = %v, %t, want none", c, roots, ok)
		}
	}
}

func TestHighestRoot(t *testing.T) {
	for name, want := range highestRoots {
		c := mustParseCartan(t, namedCartans[name])
		got, ok := impl.HighestRoot(c)
		if !ok || !sameRow(got, want) {
			t.Errorf("HighestRoot(%s) = %v, %t, want %v", name, got, ok, want)
		}
		for _, order := range ordersOf(len(c)) {
			other, ok := impl.HighestRoot(relabelled(c, order))
			for i, p := range order {
				if !ok || len(other) != len(want) || other[i] != want[p] {
					t.Errorf("HighestRoot(%s) with the order %v = %v, %t", name, order, other, ok)
				}
			}
		}
	}
}

func TestHighestRootIsAboveAll(t *testing.T) {
	diagrams(func(c [][]int) {
		top, ok := impl.HighestRoot(c)
		if ok != (impl.IsFinite(c) && impl.IsConnected(c)) {
			t.Errorf("HighestRoot(%v) = %v, %t", c, top, ok)
		}
		if !ok && len(top) != 0 {
			t.Errorf("HighestRoot(%v) = %v and false", c, top)
		}
		if !ok {
			return
		}
		for _, r := range impl.RootsUpTo(c, 12) {
			for i := range r {
				if r[i] > top[i] {
					t.Errorf("HighestRoot(%v) = %v, which is not above %v", c, top, r)
				}
			}
		}
	})
}

func TestHighestRootRejects(t *testing.T) {
	bad := append([]string{}, affineCartans...)
	bad = append(bad, "2,0;0,2", "2,0,0;0,2,-1;0,-1,2", "2,-1,0,0;-3,2,0,0;0,0,2,-1;0,0,-1,2", "2,0,0,0;0,2,0,0;0,0,2,0;0,0,0,2", "2,-3;-3,2", "2,0,0;0,2,-2;0,-2,2")
	for _, s := range bad {
		if got, ok := impl.HighestRoot(mustParseCartan(t, s)); ok || len(got) != 0 {
			t.Errorf("HighestRoot(%s) = %v, %t, want none", s, got, ok)
		}
	}
	for _, c := range invalidCartans() {
		if got, ok := impl.HighestRoot(c); ok || len(got) != 0 {
			t.Errorf("HighestRoot(%v) = %v, %t, want none", c, got, ok)
		}
	}
}

func TestWeightOfRoot(t *testing.T) {
	g := mustParseCartan(t, namedCartans["G2"])
	expectWord(t, "WeightOfRoot", impl.WeightOfRoot(g, []int{2, 3}), []int{1, 0})
	expectWord(t, "WeightOfRoot", impl.WeightOfRoot(g, []int{1, 0}), []int{2, -3})
	expectWord(t, "WeightOfRoot of mixed signs", impl.WeightOfRoot(g, []int{1, -1}), []int{3, -5})
	expectWord(t, "WeightOfRoot", impl.WeightOfRoot(mustParseCartan(t, namedCartans["A1~"]), []int{1, 1}), []int{0, 0})
	manyCartans(func(c [][]int) {
		for i := range c {
			expectWord(t, "WeightOfRoot of a simple root", impl.WeightOfRoot(c, impl.SimpleRoot(c, i)), impl.SimpleRootWeight(c, i))
		}
		for _, r := range someVectors(len(c)) {
			want := make([]int, len(c))
			for k := range c {
				want[k] = pairedWith(c, k, r)
			}
			expectWord(t, "WeightOfRoot", impl.WeightOfRoot(c, r), want)
		}
		for _, r := range wrongLengths(len(c)) {
			expectWord(t, "WeightOfRoot of another length", impl.WeightOfRoot(c, r), nil)
		}
	})
	for _, c := range invalidCartans() {
		for n := range 6 {
			expectWord(t, "WeightOfRoot with an invalid matrix", impl.WeightOfRoot(c, repeated(1, n)), nil)
		}
	}
}

func TestRootsWithOddNumbers(t *testing.T) {
	// Such numbers have no specified images, but no function panics for them.
	for _, s := range namedCartans {
		c := mustParseCartan(t, s)
		for _, x := range []int{math.MaxInt, math.MinInt} {
			r := repeated(x, len(c))
			impl.ReflectRoot(c, 0, r)
			impl.ActOnRoot(c, repeated(len(c)-1, 15), r)
			impl.WeightOfRoot(c, r)
			impl.HeightOf(r)
			if impl.IsRootVector(c, r) || !sameRow(r, repeated(x, len(c))) {
				t.Errorf("IsRootVector(%v, %v) = true, or it is not as it was", c, r)
			}
		}
	}
}

func TestRootResultsAreFresh(t *testing.T) {
	for name, s := range namedCartans {
		c := roomyRows(mustParseCartan(t, s))
		n := len(c)
		for _, list := range append(wrongLengths(n), someVectors(n)...) {
			r, wholeR := roomyList(list)
			w, wholeW := roomyList(pointsOf(c))
			impl.IsRootVector(c, r)
			impl.HeightOf(r)
			impl.RootSign(r)
			results := [][]int{
				impl.ReflectRoot(c, 0, r), impl.ReflectRoot(c, n, r), impl.ActOnRoot(c, w, r), impl.ActOnRoot(c, nil, r), impl.ActOnRoot(c, []int{n}, r),
				impl.ReflectRoot(nil, 0, r), impl.ActOnRoot(nil, w, r), impl.WeightOfRoot(c, r), impl.WeightOfRoot(c, r), impl.SimpleRoot(c, 0), impl.SimpleRoot(c, 0),
			}
			if !sameRow(wholeR, append(copyList(list), 77, 77, 77)) || !sameRow(wholeW, append(pointsOf(c), 77, 77, 77)) || impl.FormatCartan(c) != s {
				t.Errorf("%s: the arguments are now %v, %v and %v", name, c, wholeR, wholeW)
			}
			whole := make([][]int, 0, n+2)
			for _, row := range c {
				whole = append(whole, row[:cap(row)])
			}
			expectFresh(t, "the results for "+name, results, append(whole, wholeR, wholeW))
		}
	}
}

func TestListsOfRootsAreFresh(t *testing.T) {
	for name, s := range namedCartans {
		c := roomyRows(mustParseCartan(t, s))
		want := impl.RootsUpTo(c, 12)
		for range 5 {
			roots := impl.RootsUpTo(c, 12)
			positive, finite := impl.PositiveRoots(c)
			top, _ := impl.HighestRoot(c)
			if !sameRows(roots, want) || finite && (!sameRows(positive, want) || !sameRow(top, want[len(want)-1])) {
				t.Errorf("%s: a later call returns %v, %v and %v", name, roots, positive, top)
			}
			// In one list, they also show whether results of different calls share memory.
			expectFresh(t, "the roots of "+name, append(append(roots, positive...), top), c)
		}
		if impl.FormatCartan(c) != s {
			t.Errorf("%s: the argument is now %v", name, c)
		}
	}
}
