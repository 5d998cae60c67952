package tests

import (
	"math"
	"testing"

	"loop.example/g02076/impl"
)

// eachGraph calls f with one matrix for each set of pairs of neighbours among n points; its bonds differ in both directions.
func eachGraph(n int, f func(c [][]int)) {
	for code := range 1 << (n * (n - 1) / 2) {
		c := singlePoints(n)
		rest := code
		for i := range n {
			for j := range i {
				if rest&1 == 1 {
					c[i][j], c[j][i] = -1-i%3, -1-(i+j)%3
				}
				rest >>= 1
			}
		}
		f(c)
	}
}

// diagrams calls f with many matrices: all up to rank 3, all graphs of 4 points, and a part of the others of rank 4, which have few zeros.
func diagrams(f func(c [][]int)) {
	manyCartans(f)
	eachGraph(4, f)
}

// singlePoints returns the matrix of n points without any neighbours.
func singlePoints(n int) [][]int {
	c := make([][]int, n)
	for i := range c {
		c[i] = make([]int, n)
		c[i][i] = 2
	}
	return c
}

// ordersOf returns all orders of n points in lexicographic order.
func ordersOf(n int) [][]int {
	var out [][]int
	var extend func(order []int)
	extend = func(order []int) {
		if len(order) == n {
			out = append(out, copyList(order))
			return
		}
		for i := range n {
			if !contains(order, i) {
				extend(append(order, i))
			}
		}
	}
	extend(nil)
	return out
}

func contains(l []int, x int) bool {
	for _, y := range l {
		if x == y {
			return true
		}
	}
	return false
}

// relabelled returns the matrix that the specification states for an order that is known to be valid.
func relabelled(c [][]int, order []int) [][]int {
	out := make([][]int, len(order))
	for i := range out {
		out[i] = make([]int, len(order))
		for j := range out[i] {
			out[i][j] = c[order[i]][order[j]]
		}
	}
	return out
}

// reachOf returns which points are connected, by Warshall's algorithm.
func reachOf(c [][]int) [][]bool {
	out := make([][]bool, len(c))
	for i := range c {
		out[i] = make([]bool, len(c))
		for j := range c {
			out[i][j] = c[i][j] != 0
		}
	}
	for k := range c {
		for i := range c {
			for j := range c {
				out[i][j] = out[i][j] || out[i][k] && out[k][j]
			}
		}
	}
	return out
}

// hasCore reports whether points are left when all with fewer than two neighbours are removed again and again: these contain a cycle.
func hasCore(c [][]int) bool {
	alive := make([]bool, len(c))
	for i := range alive {
		alive[i] = true
	}
	for range c {
		for i := range c {
			degree := 0
			for j := range c {
				if j != i && alive[j] && c[i][j] != 0 {
					degree++
				}
			}
			alive[i] = alive[i] && degree >= 2
		}
	}
	for _, a := range alive {
		if a {
			return true
		}
	}
	return false
}

// badOrders are lists that are no order of n points, for n from 1 to 4.
func badOrders(n int) [][]int {
	orders := ordersOf(n)
	candidates := [][]int{nil, {0}, {-1}, {0, 0}, {1, 1}, {1, 2}, {0, 0, 1}, {0, 1, 1}, {1, 2, 3}, {0, 1, 2, 2}, {0, 1, 2, 4}, {4, 3, 2, 1}, {0, 1, 2, 3, 4}, make([]int, 5000)}
	for _, order := range orders {
		candidates = append(candidates, order[:n-1], append(copyList(order), n), append(copyList(order), order[0]))
		for i := range order {
			for _, x := range []int{-1, n, order[(i+1)%n], math.MinInt, math.MaxInt, order[i] + 1<<32} {
				changed := copyList(order)
				changed[i] = x
				candidates = append(candidates, changed)
			}
		}
	}
	var out [][]int
	for _, candidate := range candidates {
		if !isOneOf(orders, candidate) {
			out = append(out, candidate)
		}
	}
	return out
}

func copyList(l []int) []int {
	return append([]int(nil), l...)
}

func isOneOf(lists [][]int, l []int) bool {
	for _, other := range lists {
		if sameRow(other, l) {
			return true
		}
	}
	return false
}

// badSets are lists that are no set of n points, or the empty one.
func badSets(n int) [][]int {
	out := [][]int{nil, {}, {-1}, {n}, {math.MinInt}, {math.MaxInt}, {1 << 32}, {0, 0}, {0, n}, {-1, 0}, {n - 1, n - 1}, {n - 1, n}, make([]int, 5000), {0, 1, 2, 3, 4}}
	if n > 1 {
		out = append(out, []int{1, 0}, []int{0, 1, 0}, []int{0, 1, 1}, []int{0, 0, 1}, []int{0, 1, n}, []int{-1, 0, 1})
	}
	if n > 2 {
		out = append(out, []int{0, 2, 1}, []int{1, 0, 2}, []int{2, 1, 0}, []int{1, 2, 0}, []int{2, 0}, []int{0, 1, 2, 1})
	}
	return out
}

func TestNeighboursOf(t *testing.T) {
	cases := []struct {
		name string
		want [][]int
	}{
		{"A1", [][]int{nil}},
		{"A1~", [][]int{{1}, {0}}},
		{"G2", [][]int{{1}, {0}}},
		{"B3", [][]int{{1}, {0, 2}, {1}}},
		{"A2~", [][]int{{1, 2}, {0, 2}, {0, 1}}},
		{"D4", [][]int{{1}, {0, 2, 3}, {1}, {1}}},
		{"A3~", [][]int{{1, 3}, {0, 2}, {1, 3}, {0, 2}}},
	}
	for _, x := range cases {
		c := mustParseCartan(t, namedCartans[x.name])
		for i, want := range x.want {
			if got := impl.NeighboursOf(c, i); !sameRow(got, want) {
				t.Errorf("NeighboursOf(%s, %d) = %v, want %v", x.name, i, got, want)
			}
		}
	}
	diagrams(func(c [][]int) {
		for i := range c {
			var want []int
			for j := range c {
				if impl.BondOf(c, i, j) != 1 && impl.BondOf(c, i, j) != 2 {
					want = append(want, j)
				}
			}
			if got := impl.NeighboursOf(c, i); !sameRow(got, want) {
				t.Errorf("NeighboursOf(%v, %d) = %v, want %v", c, i, got, want)
			}
		}
	})
}

func TestNeighboursOfRejects(t *testing.T) {
	manyCartans(func(c [][]int) {
		for _, i := range []int{-1, len(c), len(c) + 1, math.MinInt, math.MaxInt, 1 << 32} {
			if got := impl.NeighboursOf(c, i); len(got) != 0 {
				t.Errorf("NeighboursOf(%v, %d) = %v, want none", c, i, got)
			}
		}
	})
	for _, c := range invalidCartans() {
		for i := -1; i < 6; i++ {
			if got := impl.NeighboursOf(c, i); len(got) != 0 {
				t.Errorf("NeighboursOf(%v, %d) = %v, want none", c, i, got)
			}
		}
	}
}

func TestPartsOf(t *testing.T) {
	cases := []struct {
		c    string
		want [][]int
	}{
		{"2,-1;-3,2", [][]int{{0, 1}}},
		{"2,0;0,2", [][]int{{0}, {1}}},
		{"2,0,-1;0,2,0;-2,0,2", [][]int{{0, 2}, {1}}},
		{"2,0,0;0,2,-3;0,-3,2", [][]int{{0}, {1, 2}}},
		// Here 2 is a neighbour of 0, and 1 only one of 2.
		{"2,0,-1;0,2,-1;-1,-1,2", [][]int{{0, 1, 2}}},
		{"2,0,0,-1;0,2,-1,0;0,-1,2,0;-1,0,0,2", [][]int{{0, 3}, {1, 2}}},
		{"2,0,-1,0;0,2,0,-1;-1,0,2,0;0,-1,0,2", [][]int{{0, 2}, {1, 3}}},
		{"2,0,0,0;0,2,0,-1;0,0,2,-1;0,-1,-1,2", [][]int{{0}, {1, 2, 3}}},
		{"2,0,0,-1;0,2,-1,0;0,-1,2,-1;-1,0,-1,2", [][]int{{0, 1, 2, 3}}},
	}
	for _, x := range cases {
		if got := impl.PartsOf(mustParseCartan(t, x.c)); !sameRows(got, x.want) {
			t.Errorf("PartsOf(%s) = %v, want %v", x.c, got, x.want)
		}
	}
}

func TestPartsAreConnectedParts(t *testing.T) {
	diagrams(func(c [][]int) {
		reach := reachOf(c)
		var want [][]int
		for i := range c {
			var part []int
			for j := range c {
				if reach[i][j] {
					part = append(part, j)
				}
			}
			// A part is found again from each of its points, but stands where its first one does.
			if part[0] == i {
				want = append(want, part)
			}
		}
		if got := impl.PartsOf(c); !sameRows(got, want) {
			t.Errorf("PartsOf(%v) = %v, want %v", c, got, want)
		}
		if got := impl.IsConnected(c); got != (len(want) == 1) {
			t.Errorf("IsConnected(%v) = %t with the parts %v", c, got, want)
		}
	})
}

func TestPartsOfJoinedMatrices(t *testing.T) {
	for a, s := range namedCartans {
		for b, other := range namedCartans {
			joined, ok := impl.JoinCartans(mustParseCartan(t, s), mustParseCartan(t, other))
			if !ok {
				continue
			}
			parts := impl.PartsOf(joined)
			if len(parts) != 2 || impl.IsConnected(joined) {
				t.Fatalf("%s and %s have the parts %v", a, b, parts)
			}
			for i, want := range []string{s, other} {
				if got, ok := impl.SubCartan(joined, parts[i]); !ok || impl.FormatCartan(got) != want {
					t.Errorf("part %d of %s and %s is %v", i, a, b, got)
				}
			}
		}
	}
}

func TestSinglePoints(t *testing.T) {
	for n := 1; n <= 4; n++ {
		c := singlePoints(n)
		var want [][]int
		for i := range n {
			want = append(want, []int{i})
			if got := impl.NeighboursOf(c, i); len(got) != 0 {
				t.Errorf("%d single points: NeighboursOf %d = %v", n, i, got)
			}
			if got, ok := impl.SubCartan(c, []int{i}); !ok || !sameRows(got, [][]int{{2}}) {
				t.Errorf("%d single points: SubCartan of %d = %v, %t", n, i, got, ok)
			}
		}
		if got := impl.PartsOf(c); !sameRows(got, want) {
			t.Errorf("%d single points: PartsOf = %v", n, got)
		}
		if impl.IsConnected(c) != (n == 1) || impl.HasCycle(c) {
			t.Errorf("%d single points: connected %t, cycle %t", n, impl.IsConnected(c), impl.HasCycle(c))
		}
		orders := ordersOf(n)
		if got := impl.SymmetriesOf(c); !sameRows(got, orders) {
			t.Errorf("%d single points: SymmetriesOf = %v", n, got)
		}
		if got, ok := impl.AreIsomorphic(c, c); !ok || !sameRow(got, orders[0]) {
			t.Errorf("%d single points: AreIsomorphic = %v, %t", n, got, ok)
		}
		for _, order := range orders {
			if got, ok := impl.RelabelCartan(c, order); !ok || !sameRows(got, c) {
				t.Errorf("%d single points: RelabelCartan by %v = %v, %t", n, order, got, ok)
			}
		}
	}
}

func TestPartsOfRejects(t *testing.T) {
	for _, c := range invalidCartans() {
		if got := impl.PartsOf(c); len(got) != 0 {
			t.Errorf("PartsOf(%v) = %v, want none", c, got)
		}
		if impl.IsConnected(c) || impl.HasCycle(c) {
			t.Errorf("%v is connected %t, with a cycle %t", c, impl.IsConnected(c), impl.HasCycle(c))
		}
	}
}

func TestSubCartan(t *testing.T) {
	c := mustParseCartan(t, "2,-1,-2,0;-3,2,0,-1;-1,0,2,-3;0,-2,-1,2")
	cases := []struct {
		set  []int
		want string
	}{
		{[]int{2}, "2"},
		{[]int{0, 1}, "2,-1;-3,2"},
		{[]int{0, 2}, "2,-2;-1,2"},
		{[]int{0, 3}, "2,0;0,2"},
		{[]int{1, 3}, "2,-1;-2,2"},
		{[]int{0, 2, 3}, "2,-2,0;-1,2,-3;0,-1,2"},
		{[]int{0, 1, 2, 3}, "2,-1,-2,0;-3,2,0,-1;-1,0,2,-3;0,-2,-1,2"},
	}
	for _, x := range cases {
		if got, ok := impl.SubCartan(c, x.set); !ok || impl.FormatCartan(got) != x.want {
			t.Errorf("SubCartan by %v = %v, %t, want %s", x.set, got, ok, x.want)
		}
	}
	diagrams(func(c [][]int) {
		for code := 1; code < 1<<len(c); code++ {
			var set []int
			for i := range c {
				if code>>i&1 == 1 {
					set = append(set, i)
				}
			}
			if got, ok := impl.SubCartan(c, set); !ok || !sameRows(got, relabelled(c, set)) {
				t.Errorf("SubCartan(%v, %v) = %v, %t", c, set, got, ok)
			}
		}
	})
}

func TestSubCartanRejects(t *testing.T) {
	reject := func(c [][]int, set []int) {
		t.Helper()
		if got, ok := impl.SubCartan(c, set); ok || len(got) != 0 {
			t.Errorf("SubCartan(%v, %v) = %v, %t, want none", c, set, got, ok)
		}
	}
	manyCartans(func(c [][]int) {
		for _, set := range badSets(len(c)) {
			reject(c, set)
		}
	})
	for _, c := range invalidCartans() {
		for _, set := range [][]int{nil, {0}, {1}, {0, 1}, {0, 1, 2}, {0, 1, 2, 3}, {-1}, {4}} {
			reject(c, set)
		}
	}
}

func TestIsConnected(t *testing.T) {
	for name, s := range namedCartans {
		if !impl.IsConnected(mustParseCartan(t, s)) {
			t.Errorf("IsConnected(%s) = false", name)
		}
	}
	for _, s := range []string{"2,0;0,2", "2,-1,0;-1,2,0;0,0,2", "2,0,-1;0,2,0;-1,0,2", "2,-1,-1,0;-1,2,-1,0;-1,-1,2,0;0,0,0,2"} {
		if impl.IsConnected(mustParseCartan(t, s)) {
			t.Errorf("IsConnected(%s) = true", s)
		}
	}
}

func TestHasCycle(t *testing.T) {
	for name, s := range namedCartans {
		if got := impl.HasCycle(mustParseCartan(t, s)); got != (name == "A2~" || name == "A3~") {
			t.Errorf("HasCycle(%s) = %t", name, got)
		}
	}
	// The single point in front adds a part, but no pair.
	if !impl.HasCycle(mustParseCartan(t, "2,0,0,0;0,2,-1,-1;0,-1,2,-1;0,-1,-1,2")) {
		t.Error("a point and a triangle have no cycle")
	}
	// No bond, strong as it may be, is a cycle.
	if impl.HasCycle(mustParseCartan(t, "2,-3;-3,2")) || impl.HasCycle(mustParseCartan(t, "2,-3,0,0;-3,2,0,0;0,0,2,-3;0,0,-3,2")) {
		t.Error("a bond is a cycle")
	}
	diagrams(func(c [][]int) {
		if got := impl.HasCycle(c); got != hasCore(c) {
			t.Errorf("HasCycle(%v) = %t", c, got)
		}
	})
}

func TestRelabelCartan(t *testing.T) {
	cases := []struct {
		c     string
		order []int
		want  string
	}{
		{"2", []int{0}, "2"},
		{"2,-1;-3,2", []int{1, 0}, "2,-3;-1,2"},
		{"2,-1,0;-1,2,-1;0,-2,2", []int{2, 1, 0}, "2,-2,0;-1,2,-1;0,-1,2"},
		// Two orders of which each one is the inverse of the other one.
		{"2,-1,0;-1,2,-1;0,-2,2", []int{1, 2, 0}, "2,-1,-1;-2,2,0;-1,0,2"},
		{"2,-1,0;-1,2,-1;0,-2,2", []int{2, 0, 1}, "2,0,-2;0,2,-1;-1,-1,2"},
		{"2,-1,0,0;-1,2,-1,0;0,-2,2,-1;0,0,-1,2", []int{3, 1, 0, 2}, "2,0,0,-1;0,2,-1,-1;0,-1,2,0;-1,-2,0,2"},
	}
	for _, x := range cases {
		if got, ok := impl.RelabelCartan(mustParseCartan(t, x.c), x.order); !ok || impl.FormatCartan(got) != x.want {
			t.Errorf("RelabelCartan(%s, %v) = %v, %t, want %s", x.c, x.order, got, ok, x.want)
		}
	}
	diagrams(func(c [][]int) {
		for _, order := range ordersOf(len(c)) {
			if got, ok := impl.RelabelCartan(c, order); !ok || !sameRows(got, relabelled(c, order)) {
				t.Errorf("RelabelCartan(%v, %v) = %v, %t", c, order, got, ok)
			}
		}
	})
}

func TestRelabelCartanRejects(t *testing.T) {
	reject := func(c [][]int, order []int) {
		t.Helper()
		if got, ok := impl.RelabelCartan(c, order); ok || len(got) != 0 {
			t.Errorf("RelabelCartan(%v, %v) = %v, %t, want none", c, order, got, ok)
		}
	}
	for n := 1; n <= 4; n++ {
		orders := badOrders(n)
		eachCartan(n, 9973, func(c [][]int) {
			for _, order := range orders {
				reject(c, order)
			}
		})
	}
	for _, c := range invalidCartans() {
		for n := range 6 {
			for _, order := range ordersOf(n) {
				reject(c, order)
			}
		}
	}
}

func TestAreIsomorphic(t *testing.T) {
	cases := []struct {
		a, b string
		want []int
	}{
		{"2", "2", []int{0}},
		{"2,-1;-1,2", "2,-1;-1,2", []int{0, 1}},
		{"2,-1;-3,2", "2,-3;-1,2", []int{1, 0}},
		{"2,-1,0;-1,2,-1;0,-2,2", "2,-2,0;-1,2,-1;0,-1,2", []int{2, 1, 0}},
		// The order is that of the points of the first matrix, not the inverse one.
		{"2,-1,0;-1,2,-1;0,-2,2", "2,-1,-1;-2,2,0;-1,0,2", []int{1, 2, 0}},
		{"2,-1,-1;-2,2,0;-1,0,2", "2,-1,0;-1,2,-1;0,-2,2", []int{2, 0, 1}},
		// Six orders lead from the star around 1 to the star around 0.
		{"2,-1,0,0;-1,2,-1,-1;0,-1,2,0;0,-1,0,2", "2,-1,-1,-1;-1,2,0,0;-1,0,2,0;-1,0,0,2", []int{1, 0, 2, 3}},
		{"2,0;0,2", "2,0;0,2", []int{0, 1}},
	}
	for _, x := range cases {
		got, ok := impl.AreIsomorphic(mustParseCartan(t, x.a), mustParseCartan(t, x.b))
		if !ok || !sameRow(got, x.want) {
			t.Errorf("AreIsomorphic(%s, %s) = %v, %t, want %v", x.a, x.b, got, ok, x.want)
		}
	}
}

func TestIsomorphismIsTheFirstOne(t *testing.T) {
	diagrams(func(c [][]int) {
		orders := ordersOf(len(c))
		for _, order := range orders {
			other := relabelled(c, order)
			first := order
			for _, earlier := range orders {
				if sameRows(relabelled(c, earlier), other) {
					first = earlier
					break
				}
			}
			if got, ok := impl.AreIsomorphic(c, other); !ok || !sameRow(got, first) {
				t.Errorf("AreIsomorphic(%v, %v) = %v, %t, want %v", c, other, got, ok, first)
			}
		}
	})
}

func TestNamedMatricesAreNotIsomorphic(t *testing.T) {
	for a, s := range namedCartans {
		for b, other := range namedCartans {
			got, ok := impl.AreIsomorphic(mustParseCartan(t, s), mustParseCartan(t, other))
			if ok != (a == b) || !ok && len(got) != 0 {
				t.Errorf("AreIsomorphic(%s, %s) = %v, %t", a, b, got, ok)
			}
		}
	}
}

func TestAreIsomorphicComparesAllMatrices(t *testing.T) {
	check := func(a [][]int, b [][]int) {
		var want []int
		for _, order := range ordersOf(len(a)) {
			if want == nil && sameRows(relabelled(a, order), b) {
				want = order
			}
		}
		if got, ok := impl.AreIsomorphic(a, b); ok != (want != nil) || !sameRow(got, want) {
			t.Errorf("AreIsomorphic(%v, %v) = %v, %t, want %v", a, b, got, ok, want)
		}
	}
	for rank, stride := range []int{1, 1, 29, 19997} {
		eachCartan(rank+1, stride, func(a [][]int) {
			eachCartan(rank+1, stride, func(b [][]int) { check(a, b) })
			// A transposed matrix has the same bonds, but other entries.
			check(a, impl.TransposeCartan(a))
		})
	}
	eachGraph(4, func(a [][]int) {
		eachGraph(4, func(b [][]int) { check(a, b) })
	})
}

func TestAreIsomorphicRejects(t *testing.T) {
	reject := func(a [][]int, b [][]int) {
		t.Helper()
		if got, ok := impl.AreIsomorphic(a, b); ok || len(got) != 0 {
			t.Errorf("AreIsomorphic(%v, %v) = %v, %t, want none", a, b, got, ok)
		}
	}
	bad := invalidCartans()
	for _, a := range bad {
		for _, b := range bad {
			reject(a, b)
		}
		for n := 1; n <= 4; n++ {
			reject(a, singlePoints(n))
			reject(singlePoints(n), a)
		}
	}
	for n := 1; n <= 4; n++ {
		for m := 1; m <= 4; m++ {
			if n != m {
				reject(singlePoints(n), singlePoints(m))
			}
		}
	}
}

func TestSymmetriesOf(t *testing.T) {
	counts := map[string]int{
		"A1": 1, "A2": 2, "A3": 2, "A4": 2, "B2": 1, "B3": 1, "B4": 1, "C3": 1, "C4": 1, "D4": 6, "F4": 1, "G2": 1,
		"A1~": 2, "A2~": 6, "A3~": 8, "C2~": 2, "G2~": 1,
	}
	for name, s := range namedCartans {
		if got := impl.SymmetriesOf(mustParseCartan(t, s)); len(got) != counts[name] {
			t.Errorf("SymmetriesOf(%s) = %v, want %d", name, got, counts[name])
		}
	}
	cases := []struct {
		c    string
		want [][]int
	}{
		{"2,-1;-3,2", [][]int{{0, 1}}},
		{"2,-2;-2,2", [][]int{{0, 1}, {1, 0}}},
		{"2,-1,0;-1,2,-1;0,-1,2", [][]int{{0, 1, 2}, {2, 1, 0}}},
		{"2,-1,-1,0;-1,2,0,-1;-1,0,2,-1;0,-1,-1,2", [][]int{{0, 1, 2, 3}, {0, 2, 1, 3}, {1, 0, 3, 2}, {1, 3, 0, 2}, {2, 0, 3, 1}, {2, 3, 0, 1}, {3, 1, 2, 0}, {3, 2, 1, 0}}},
		// A circle of three with a direction has turns, but no reflections.
		{"2,-1,-2;-2,2,-1;-1,-2,2", [][]int{{0, 1, 2}, {1, 2, 0}, {2, 0, 1}}},
	}
	for _, x := range cases {
		if got := impl.SymmetriesOf(mustParseCartan(t, x.c)); !sameRows(got, x.want) {
			t.Errorf("SymmetriesOf(%s) = %v, want %v", x.c, got, x.want)
		}
	}
}

func TestSymmetriesAreAllOrders(t *testing.T) {
	diagrams(func(c [][]int) {
		var want [][]int
		for _, order := range ordersOf(len(c)) {
			if sameRows(relabelled(c, order), c) {
				want = append(want, order)
			}
		}
		if got := impl.SymmetriesOf(c); !sameRows(got, want) {
			t.Errorf("SymmetriesOf(%v) = %v, want %v", c, got, want)
		}
	})
	for _, c := range invalidCartans() {
		if got := impl.SymmetriesOf(c); len(got) != 0 {
			t.Errorf("SymmetriesOf(%v) = %v, want none", c, got)
		}
	}
}

func TestRelabellingKeepsTheDiagram(t *testing.T) {
	diagrams(func(c [][]int) {
		for _, order := range ordersOf(len(c)) {
			other, ok := impl.RelabelCartan(c, order)
			if !ok || !impl.IsCartan(other) {
				t.Fatalf("RelabelCartan(%v, %v) = %v, %t", c, order, other, ok)
			}
			if len(impl.PartsOf(other)) != len(impl.PartsOf(c)) || impl.HasCycle(other) != impl.HasCycle(c) || impl.IsConnected(other) != impl.IsConnected(c) {
				t.Errorf("%v by %v has other parts or cycles", c, order)
			}
			for i := range other {
				if len(impl.NeighboursOf(other, i)) != len(impl.NeighboursOf(c, order[i])) {
					t.Errorf("%v by %v: point %d has other neighbours", c, order, i)
				}
			}
		}
	})
}

func TestDiagramResultsAreFresh(t *testing.T) {
	for name, s := range namedCartans {
		c := roomyRows(mustParseCartan(t, s))
		list := make([]int, len(c), len(c)+3)
		for i := range list {
			list[i] = i
		}
		copy(list[len(list):cap(list)], []int{77, 77, 77})
		sub, _ := impl.SubCartan(c, list)
		relabelled, _ := impl.RelabelCartan(c, list)
		order, _ := impl.AreIsomorphic(c, c)
		if !sameRows(sub, c) || !sameRows(relabelled, c) || !sameRow(order, list) {
			t.Fatalf("%s: other results for all points in order", name)
		}
		expectFresh(t, "SubCartan of "+name, sub, c, [][]int{list})
		expectFresh(t, "RelabelCartan of "+name, relabelled, c, [][]int{list})
		expectFresh(t, "AreIsomorphic of "+name, [][]int{order}, c)
		expectFresh(t, "PartsOf "+name, impl.PartsOf(c), c)
		expectFresh(t, "SymmetriesOf "+name, impl.SymmetriesOf(c), c)
		var neighbours [][]int
		for i := range c {
			neighbours = append(neighbours, impl.NeighboursOf(c, i))
		}
		expectFresh(t, "NeighboursOf "+name, neighbours, c)
		last := c[len(c)-1]
		for _, l := range [][]int{last, list} {
			if spare := l[len(l) : len(l)+3]; !sameRow(spare, []int{77, 77, 77}) {
				t.Errorf("%s: the capacity of an argument now holds %v", name, spare)
			}
		}
		if impl.FormatCartan(c) != s || !sameRow(list, ordersOf(len(c))[0]) {
			t.Errorf("%s: an argument is now %v or %v", name, c, list)
		}
	}
	for n := 1; n <= 4; n++ {
		c := roomyRows(singlePoints(n))
		expectFresh(t, "PartsOf single points", impl.PartsOf(c), c)
		expectFresh(t, "SymmetriesOf single points", impl.SymmetriesOf(c), c)
	}
}
