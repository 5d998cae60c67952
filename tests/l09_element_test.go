package tests

import (
	"math"
	"testing"

	"loop.example/g02076/impl"
)

// firstWordOf is the normal form of letters, which may be more than a word has: the least letter whose root the inverse makes negative comes first.
func firstWordOf(c [][]int, letters []int) []int {
	var out []int
	inverse := keyOf(c, impl.ReverseWord(letters))
	for i := 0; i < len(c); {
		if heightOf(inverse[i][:]) > 0 {
			i++
			continue
		}
		out = append(out, i)
		inverse = withLetter(c, inverse, i)
		i = 0
	}
	return out
}

func joined(words ...[]int) []int {
	var out []int
	for _, w := range words {
		out = append(out, w...)
	}
	return out
}

// expectElement compares a result with the normal form of letters, or with none if it is longer than a word.
func expectElement(t *testing.T, c [][]int, what string, got []int, ok bool, letters []int) {
	t.Helper()
	want := firstWordOf(c, letters)
	valid := len(want) <= 15
	if !valid {
		want = nil
	}
	if ok != valid || !sameRow(got, want) {
		t.Errorf("%v: %s of the letters %v = %v, %t, want %v, %t", c, what, letters, got, ok, want, valid)
	}
}

func expectProduct(t *testing.T, c [][]int, a []int, b []int) {
	t.Helper()
	got, ok := impl.MultiplyElements(c, a, b)
	expectElement(t, c, "MultiplyElements", got, ok, joined(a, b))
}

func mustParseWord(t *testing.T, c [][]int, s string) []int {
	t.Helper()
	w, ok := impl.ParseWord(c, s)
	if !ok {
		t.Fatalf("%s is no word of %v", s, c)
	}
	return w
}

// textOf is the format of a result that is an element, or none.
func textOf(w []int, ok bool) string {
	if !ok && len(w) == 0 {
		return "none"
	}
	return digitsOf(w)
}

func TestMultiplyElements(t *testing.T) {
	cases := []struct {
		name, a, b, want string
	}{
		{"A1", "e", "e", "e"},
		{"A1", "1", "e", "1"},
		{"A1", "1", "1", "e"},
		{"A1", "111111111111111", "111111111111111", "e"},
		{"A2", "12", "12", "21"},
		{"A2", "12", "21", "e"},
		{"A2", "12", "2", "1"},
		{"A2", "1", "12", "2"},
		{"A2", "1", "21", "121"},
		{"A2", "21", "2", "121"},
		{"A2", "121", "2", "21"},
		{"A2", "212", "212", "e"},
		{"A3", "123", "123", "2132"},
		{"A3", "123", "321", "e"},
		{"A3", "3", "1", "13"},
		{"B2", "12", "12", "1212"},
		{"B2", "121", "21", "212"},
		{"A1~", "1212121", "2121212", "12121212121212"},
		{"A1~", "12121212", "1212121", "121212121212121"},
		{"A1~", "12121212", "12121212", "none"},
		{"A1~", "12121212", "21212121", "e"},
		{"A1~", "121212121212121", "1", "12121212121212"},
		{"A1~", "121212121212121", "2", "none"},
		{"A1~", "121212121212121", "12", "1212121212121"},
		{"A1~", "121212121212121", "21", "none"},
		{"A1~", "121212121212121", "22", "121212121212121"},
		{"A1~", "121212121212121", "121212121212121", "e"},
		{"A1~", "121212121212121", "212121212121212", "none"},
	}
	for _, x := range cases {
		c := mustParseCartan(t, namedCartans[x.name])
		a, b := mustParseWord(t, c, x.a), mustParseWord(t, c, x.b)
		if got := textOf(impl.MultiplyElements(c, a, b)); got != x.want {
			t.Errorf("%s: MultiplyElements of %s and %s = %s, want %s", x.name, x.a, x.b, got, x.want)
		}
	}
}

func TestProductsOfAllShortWords(t *testing.T) {
	check := func(c [][]int, n int) {
		words := wordsUpTo(pointsOf(c), n)
		first := firstWords(c, 2*n)
		for _, a := range words {
			for _, b := range words {
				got, ok := impl.MultiplyElements(c, a, b)
				if want := first[keyOf(c, joined(a, b))]; !ok || !sameRow(got, want) {
					t.Errorf("MultiplyElements(%v, %v, %v) = %v, %t, want %v", c, a, b, got, ok, want)
				}
			}
		}
	}
	manyCartans(func(c [][]int) { check(c, 1) })
	for _, s := range namedCartans {
		check(mustParseCartan(t, s), 3)
	}
	eachCartan(2, 1, func(c [][]int) { check(c, 5) })
}

func TestProductsOfLongWords(t *testing.T) {
	valid, invalid := 0, 0
	check := func(c [][]int) {
		words := append(longWords(c), wordsUpTo(pointsOf(c), 1)...)
		for _, a := range words {
			for _, b := range words {
				expectProduct(t, c, a, b)
				if _, ok := impl.MultiplyElements(c, a, b); ok {
					valid++
				} else {
					invalid++
				}
			}
		}
	}
	for _, s := range namedCartans {
		check(mustParseCartan(t, s))
	}
	// The images of rho under 30 letters grow fastest here.
	check(mustParseCartan(t, "2,-3,-3,-3;-3,2,-3,-3;-3,-3,2,-3;-3,-3,-3,2"))
	if valid < 1000 || invalid < 1000 {
		t.Errorf("%d pairs of words have a product, and %d have none", valid, invalid)
	}
}

func TestProductsThatCancel(t *testing.T) {
	check := func(c [][]int) {
		for _, w := range append(longWords(c), wordsUpTo(pointsOf(c), 2)...) {
			back := impl.ReverseWord(w)
			inverse, _ := impl.InverseElement(c, w)
			for _, pair := range [][2][]int{{w, back}, {back, w}, {w, inverse}, {inverse, w}} {
				if got, ok := impl.MultiplyElements(c, pair[0], pair[1]); !ok || len(got) != 0 {
					t.Errorf("MultiplyElements(%v, %v, %v) = %v, %t, want the identity", c, pair[0], pair[1], got, ok)
				}
			}
			// What is common in the middle cancels: at most the other letters are left, though there are up to 30.
			for n := 1; n < len(w); n++ {
				front, middle := w[:n], w[n:]
				for _, letter := range pointsOf(c) {
					b := joined(impl.ReverseWord(middle), []int{letter})
					expectProduct(t, c, w, b)
					if got, ok := impl.MultiplyElements(c, w, b); !ok || len(got) > n+1 || !impl.AreSame(c, got, joined(front, []int{letter})) {
						t.Errorf("MultiplyElements(%v, %v, %v) = %v, %t", c, w, b, got, ok)
					}
				}
			}
		}
	}
	for _, s := range namedCartans {
		check(mustParseCartan(t, s))
	}
	eachCartan(2, 1, check)
}

func TestLongestProducts(t *testing.T) {
	// Products of 15 letters are elements, and those of 16 are not, also in finite groups.
	lengths := map[int]int{}
	for _, name := range []string{"A1~", "A2~", "B4", "C4", "F4", "G2~", "A3~"} {
		c := mustParseCartan(t, namedCartans[name])
		for _, w := range longWords(c) {
			for n := 1; n < len(w); n++ {
				for _, letters := range wordsUpTo(pointsOf(c), 1) {
					a, b := joined(w[:n], letters), w[n:]
					expectProduct(t, c, a, b)
					lengths[inversionCount(c, joined(a, b))]++
				}
			}
		}
	}
	for n := 13; n <= 16; n++ {
		if lengths[n] < 10 {
			t.Errorf("only %d products have %d letters", lengths[n], n)
		}
	}
}

// tableOf returns the places of the products of the elements of a finite group, which have at most 15 letters.
func tableOf(t *testing.T, c [][]int, elements [][]int) [][]int {
	t.Helper()
	place := map[string]int{}
	for k, w := range elements {
		place[digitsOf(w)] = k
	}
	table := make([][]int, len(elements))
	for i, a := range elements {
		for _, b := range elements {
			product, ok := impl.MultiplyElements(c, a, b)
			k, found := place[digitsOf(product)]
			if !ok || !found || keyOf(c, product) != keyOf(c, joined(a, b)) {
				t.Fatalf("MultiplyElements(%v, %v, %v) = %v, %t", c, a, b, product, ok)
			}
			table[i] = append(table[i], k)
		}
	}
	return table
}

func TestElementsFormAGroup(t *testing.T) {
	for name, size := range partSizes {
		if size > 200 {
			continue
		}
		c := mustParseCartan(t, namedCartans[name])
		elements := groupOf(c)
		table := tableOf(t, c, elements)
		// The identity is the first one.
		for i := range elements {
			if table[i][0] != i || table[0][i] != i {
				t.Errorf("%s: the products of %v with the identity are other elements", name, elements[i])
			}
			inverse, ok := impl.InverseElement(c, elements[i])
			if !ok {
				t.Errorf("%s: %v has no inverse", name, elements[i])
			}
			inverses := 0
			for j := range elements {
				if table[i][j] == 0 {
					inverses++
					if table[j][i] != 0 || !sameRow(elements[j], inverse) {
						t.Errorf("%s: InverseElement of %v = %v, but it is %v", name, elements[i], inverse, elements[j])
					}
				}
				for k := range elements {
					if table[table[i][j]][k] != table[i][table[j][k]] {
						t.Fatalf("%s: the two products of %v, %v and %v differ", name, elements[i], elements[j], elements[k])
					}
				}
			}
			if inverses != 1 {
				t.Errorf("%s: %v has %d inverses", name, elements[i], inverses)
			}
		}
	}
}

// someElements are words of at most 5 letters.
func someElements(c [][]int, stride int) [][]int {
	var out [][]int
	long := longWords(c)
	for k := 0; k < len(long); k += stride {
		out = append(out, long[k][:1+k%5])
	}
	return append(out, nil, []int{len(c) - 1}, []int{0, 0, len(c) - 1})
}

func TestGroupLaws(t *testing.T) {
	check := func(c [][]int, stride int) {
		words := someElements(c, stride)
		product := func(a []int, b []int) []int {
			out, ok := impl.MultiplyElements(c, a, b)
			if !ok || !impl.IsElement(c, out) {
				t.Fatalf("MultiplyElements(%v, %v, %v) = %v, %t", c, a, b, out, ok)
			}
			return out
		}
		inverse := func(w []int) []int {
			out, ok := impl.InverseElement(c, w)
			if !ok || !impl.IsElement(c, out) {
				t.Fatalf("InverseElement(%v, %v) = %v, %t", c, w, out, ok)
			}
			return out
		}
		for _, x := range words {
			short, _ := impl.NormalForm(c, x)
			expectWord(t, "the product with the identity", product(x, nil), short)
			expectWord(t, "the product of the identity", product(nil, x), short)
			expectWord(t, "the product with the inverse", product(x, inverse(x)), nil)
			expectWord(t, "the product of the inverse", product(inverse(x), x), nil)
			expectWord(t, "the inverse of the inverse", inverse(inverse(x)), short)
			for _, y := range words {
				both := product(x, y)
				expectWord(t, "the inverse of a product", inverse(both), product(inverse(y), inverse(x)))
				for _, z := range words {
					if left, right := product(both, z), product(x, product(y, z)); !sameRow(left, right) {
						t.Errorf("%v: the products of %v, %v and %v are %v and %v", c, x, y, z, left, right)
					}
				}
			}
		}
	}
	manyCartans(func(c [][]int) { check(c, 11) })
	for _, s := range namedCartans {
		check(mustParseCartan(t, s), 3)
	}
}

func TestIsElement(t *testing.T) {
	manyCartans(func(c [][]int) {
		for _, w := range append(wordsUpTo(pointsOf(c), 3), longWords(c)...) {
			want := sameRow(w, firstWordOf(c, w))
			if got := impl.IsElement(c, w); got != want {
				t.Errorf("IsElement(%v, %v) = %t", c, w, got)
			}
		}
	})
	for name := range partSizes {
		c := mustParseCartan(t, namedCartans[name])
		for _, w := range groupOf(c) {
			if got := impl.IsElement(c, w); got != (len(w) <= 15) {
				t.Errorf("%s: IsElement of %v = %t", name, w, got)
			}
		}
	}
}

func TestOneElementForEachGroupMember(t *testing.T) {
	for name, size := range map[string]int{"A1": 2, "A2": 6, "A3": 24, "B2": 8, "G2": 12} {
		c := mustParseCartan(t, namedCartans[name])
		elements := 0
		for _, w := range wordsUpTo(pointsOf(c), 7) {
			if impl.IsElement(c, w) {
				elements++
			}
		}
		if elements != size {
			t.Errorf("%s: %d words are elements, want %d", name, elements, size)
		}
	}
}

func TestInverseElement(t *testing.T) {
	cases := []struct {
		name, word, want string
	}{
		{"A1", "e", "e"},
		{"A1", "111", "1"},
		{"A2", "12", "21"},
		{"A2", "121", "121"},
		{"A2", "212", "121"},
		{"A2", "1212", "12"},
		{"A3", "132", "213"},
		{"A3", "312", "213"},
		{"D4", "3124", "4213"},
		{"A1~", "121212121212121", "121212121212121"},
		{"A1~", "12121212121212", "21212121212121"},
	}
	for _, x := range cases {
		c := mustParseCartan(t, namedCartans[x.name])
		if got := textOf(impl.InverseElement(c, mustParseWord(t, c, x.word))); got != x.want {
			t.Errorf("%s: InverseElement of %s = %s, want %s", x.name, x.word, got, x.want)
		}
	}
	manyCartans(func(c [][]int) {
		for _, w := range append(wordsUpTo(pointsOf(c), 3), longWords(c)...) {
			got, ok := impl.InverseElement(c, w)
			expectElement(t, c, "InverseElement", got, ok, impl.ReverseWord(w))
		}
	})
}

func TestPowerElement(t *testing.T) {
	cases := []struct {
		name, word string
		k          int
		want       string
	}{
		{"A1", "e", 0, "e"},
		{"A1", "e", 60, "e"},
		{"A1", "1", 1, "1"},
		{"A1", "1", 59, "1"},
		{"A1", "1", 60, "e"},
		{"A1", "1", 61, "none"},
		{"A1", "1", -1, "none"},
		{"A2", "12", 0, "e"},
		{"A2", "12", 1, "12"},
		{"A2", "12", 2, "21"},
		{"A2", "12", 3, "e"},
		{"A2", "12", 4, "12"},
		{"A2", "12", 60, "e"},
		{"A2", "12", 61, "none"},
		{"A2", "212", 1, "121"},
		{"A2", "2121", 2, "21"},
		{"A3", "123", 2, "2132"},
		{"G2", "21", 3, "121212"},
		{"A1~", "12", 7, "12121212121212"},
		{"A1~", "12", 8, "none"},
		{"A1~", "12", 9, "none"},
		{"A1~", "21", 7, "21212121212121"},
		{"A1~", "121212121212121", 60, "e"},
		{"A1~", "121212121212121", 59, "121212121212121"},
		{"A1~", "12121212121212", 1, "12121212121212"},
		{"A1~", "12121212121212", 2, "none"},
		// The power 4 has 16 letters, so that all later ones fail too, though the power 8 is the identity.
		{"B4", "1234", 3, "123412341234"},
		{"B4", "1234", 4, "none"},
		{"B4", "1234", 5, "none"},
		{"B4", "1234", 8, "none"},
		{"F4", "1321323432", 4, "none"},
	}
	for _, x := range cases {
		c := mustParseCartan(t, namedCartans[x.name])
		w := mustParseWord(t, c, x.word)
		got, ok := impl.PowerElement(c, w, x.k)
		want := x.want
		if want != "none" {
			want = digitsOf(firstWordOf(c, mustParseWord(t, c, want)))
		}
		if textOf(got, ok) != want {
			t.Errorf("%s: PowerElement(%s, %d) = %s, want %s", x.name, x.word, x.k, textOf(got, ok), want)
		}
	}
}

func expectPowers(t *testing.T, c [][]int, w []int, last int) {
	t.Helper()
	var power []int
	valid := true
	for k := 0; k <= 60; k++ {
		want := power
		if !valid {
			want = nil
		}
		if k <= last || k >= 59 {
			if got, ok := impl.PowerElement(c, w, k); ok != valid || !sameRow(got, want) {
				t.Errorf("PowerElement(%v, %v, %d) = %v, %t, want %v, %t", c, w, k, got, ok, want, valid)
			}
		}
		if valid {
			power = firstWordOf(c, joined(power, w))
			valid = len(power) <= 15
		}
	}
	for _, k := range []int{-1, -2, -60, 61, 62, 120, 1 << 32, math.MinInt, math.MaxInt} {
		if got, ok := impl.PowerElement(c, w, k); ok || len(got) != 0 {
			t.Errorf("PowerElement(%v, %v, %d) = %v, %t, want none", c, w, k, got, ok)
		}
	}
}

func TestPowersByMultiplication(t *testing.T) {
	manyCartans(func(c [][]int) {
		for _, w := range someElements(c, 7) {
			expectPowers(t, c, w, 4)
		}
	})
	for _, s := range namedCartans {
		c := mustParseCartan(t, s)
		for _, w := range append(someElements(c, 2), longWords(c)...) {
			expectPowers(t, c, w, 16)
		}
	}
}

func TestPowersAndOrders(t *testing.T) {
	for name, size := range partSizes {
		if size > 1000 {
			continue
		}
		c := mustParseCartan(t, namedCartans[name])
		for _, w := range groupOf(c) {
			order := impl.OrderOfElement(c, w)
			for k := 1; k <= order; k++ {
				if got, ok := impl.PowerElement(c, w, k); !ok || (len(got) == 0) != (k == order) {
					t.Errorf("%s: PowerElement(%v, %d) = %v, %t, but the order is %d", name, w, k, got, ok, order)
				}
			}
		}
	}
}

func TestConjugateElement(t *testing.T) {
	cases := []struct {
		name, word, by, want string
	}{
		{"A1", "1", "1", "1"},
		{"A1", "e", "111111111111111", "e"},
		{"A2", "1", "2", "121"},
		{"A2", "1", "e", "1"},
		{"A2", "212", "e", "121"},
		{"A2", "12", "1", "21"},
		// The reversed word is in front: 21 1 12, not 12 1 21.
		{"A2", "1", "12", "121"},
		{"A2", "1", "21", "2"},
		{"A3", "1", "23", "12321"},
		{"A3", "13", "2", "2132"},
		{"B2", "1", "2", "212"},
		{"A1~", "1", "2121212", "212121212121212"},
		{"A1~", "1", "1212121", "1212121212121"},
		{"A1~", "1", "21212121", "none"},
		{"A1~", "12", "1", "21"},
		// The first product cancels; that of the word and what it is conjugated by would have 16 letters.
		{"A1~", "12121212", "12121212", "12121212"},
		// The other way round: the first product has 16 letters.
		{"A1~", "12121212", "21212121", "none"},
		{"A1~", "12121212", "1212121", "21212121"},
		{"A1~", "121212121212121", "121212121212121", "121212121212121"},
		{"A1~", "121212121212121", "212121212121212", "none"},
	}
	for _, x := range cases {
		c := mustParseCartan(t, namedCartans[x.name])
		w, by := mustParseWord(t, c, x.word), mustParseWord(t, c, x.by)
		if got := textOf(impl.ConjugateElement(c, w, by)); got != x.want {
			t.Errorf("%s: ConjugateElement(%s, %s) = %s, want %s", x.name, x.word, x.by, got, x.want)
		}
	}
}

func TestConjugatesByMultiplication(t *testing.T) {
	check := func(c [][]int, words [][]int) {
		for _, w := range words {
			for _, by := range words {
				got, ok := impl.ConjugateElement(c, w, by)
				front := firstWordOf(c, joined(impl.ReverseWord(by), w))
				if len(front) <= 15 {
					expectElement(t, c, "ConjugateElement", got, ok, joined(front, by))
				} else if ok || len(got) != 0 {
					t.Errorf("ConjugateElement(%v, %v, %v) = %v, %t, want none", c, w, by, got, ok)
				}
			}
		}
	}
	manyCartans(func(c [][]int) { check(c, someElements(c, 11)) })
	for _, s := range namedCartans {
		c := mustParseCartan(t, s)
		check(c, append(someElements(c, 3), longWords(c)[:18]...))
	}
}

func TestConjugatesKeepOrders(t *testing.T) {
	for name, size := range partSizes {
		if size > 200 {
			continue
		}
		c := mustParseCartan(t, namedCartans[name])
		elements := groupOf(c)
		for _, w := range elements {
			for _, by := range elements {
				got, ok := impl.ConjugateElement(c, w, by)
				if !ok || impl.OrderOfElement(c, got) != impl.OrderOfElement(c, w) {
					t.Fatalf("%s: ConjugateElement(%v, %v) = %v, %t, of another order", name, w, by, got, ok)
				}
				if same := sameRow(got, w); same != impl.DoCommute(c, w, by) {
					t.Errorf("%s: ConjugateElement(%v, %v) = %v, but DoCommute is %t", name, w, by, got, !same)
				}
			}
		}
	}
}

func TestDoCommute(t *testing.T) {
	cases := []struct {
		name, a, b string
		want       bool
	}{
		{"A1", "1", "1", true},
		{"A2", "1", "2", false},
		{"A2", "e", "2", true},
		{"A2", "12", "21", true},
		{"A2", "12", "1", false},
		{"A2", "12", "2121", true},
		{"A3", "1", "3", true},
		{"A3", "12", "3", false},
		{"A3", "13", "2132", true},
		{"B2", "1", "212", true},
		{"B2", "1212", "2", true},
		{"G2", "121212", "1", true},
		{"A1~", "1212", "21", true},
		{"A1~", "1", "212", false},
		{"A1~", "121212121212121", "121212121212121", true},
		// Their products have 28 letters in both orders and are the same element.
		{"A1~", "12121212121212", "12121212121212", true},
		{"A1~", "12121212", "1212121212", true},
		{"A1~", "12121212", "2121212121", true},
		// Their products have more than 15 letters too, but differ.
		{"A1~", "12121212", "121212121212121", false},
		{"A2~", "123123123123123", "321321321321321", true},
		{"A2~", "123123123123123", "231231231231231", false},
	}
	for _, x := range cases {
		c := mustParseCartan(t, namedCartans[x.name])
		a, b := mustParseWord(t, c, x.a), mustParseWord(t, c, x.b)
		if impl.DoCommute(c, a, b) != x.want || impl.DoCommute(c, b, a) != x.want {
			t.Errorf("%s: DoCommute(%s, %s) = %t", x.name, x.a, x.b, !x.want)
		}
	}
}

func TestDoCommuteByProducts(t *testing.T) {
	check := func(c [][]int, words [][]int) {
		for _, a := range words {
			for _, b := range words {
				want := keyOf(c, joined(a, b)) == keyOf(c, joined(b, a))
				if got := impl.DoCommute(c, a, b); got != want {
					t.Errorf("DoCommute(%v, %v, %v) = %t", c, a, b, got)
				}
			}
		}
	}
	manyCartans(func(c [][]int) { check(c, wordsUpTo(pointsOf(c), 2)) })
	for _, s := range namedCartans {
		c := mustParseCartan(t, s)
		check(c, append(wordsUpTo(pointsOf(c), 3), longWords(c)...))
	}
}

func TestIsInvolution(t *testing.T) {
	check := func(c [][]int, words [][]int) {
		for _, w := range words {
			want := keyOf(c, w) != identityKey() && keyOf(c, joined(w, w)) == identityKey()
			if got := impl.IsInvolution(c, w); got != want {
				t.Errorf("IsInvolution(%v, %v) = %t", c, w, got)
			}
		}
	}
	manyCartans(func(c [][]int) {
		check(c, append(append(wordsUpTo(pointsOf(c), 3), longWords(c)...), squaresOf(c)...))
	})
	for _, s := range namedCartans {
		c := mustParseCartan(t, s)
		check(c, wordsUpTo(pointsOf(c), 5))
	}
}

func TestCountsOfInvolutions(t *testing.T) {
	for name, want := range map[string]int{"A1": 1, "A2": 3, "A3": 9, "A4": 25, "B2": 5, "B3": 19, "C3": 19, "D4": 43, "G2": 7} {
		c := mustParseCartan(t, namedCartans[name])
		count := 0
		for _, w := range groupOf(c) {
			if impl.IsInvolution(c, w) {
				count++
			}
		}
		if count != want {
			t.Errorf("%s has %d involutions, want %d", name, count, want)
		}
	}
}

func expectNoProducts(t *testing.T, c [][]int, w []int) {
	t.Helper()
	none := func(what string, got []int, ok bool) {
		t.Helper()
		if ok || len(got) != 0 {
			t.Errorf("%s(%v) of %v = %v, %t, want none", what, c, w, got, ok)
		}
	}
	got, ok := impl.InverseElement(c, w)
	none("InverseElement", got, ok)
	for _, k := range []int{-1, 0, 1, 2, 60, 61} {
		got, ok = impl.PowerElement(c, w, k)
		none("PowerElement", got, ok)
	}
	for _, other := range [][]int{nil, {0}, impl.ReverseWord(w), w} {
		got, ok = impl.MultiplyElements(c, w, other)
		none("MultiplyElements", got, ok)
		got, ok = impl.MultiplyElements(c, other, w)
		none("MultiplyElements", got, ok)
		got, ok = impl.ConjugateElement(c, w, other)
		none("ConjugateElement", got, ok)
		got, ok = impl.ConjugateElement(c, other, w)
		none("ConjugateElement", got, ok)
		if impl.DoCommute(c, w, other) || impl.DoCommute(c, other, w) {
			t.Errorf("DoCommute(%v) of %v and %v = true", c, w, other)
		}
	}
	if impl.IsElement(c, w) || impl.IsInvolution(c, w) {
		t.Errorf("%v: %v is an element or an involution", c, w)
	}
}

func TestElementsOfNoWords(t *testing.T) {
	eachNoWord(func(c [][]int, w []int) { expectNoProducts(t, c, w) })
}

func TestElementResultsAreFresh(t *testing.T) {
	for name, s := range namedCartans {
		c := roomyRows(mustParseCartan(t, s))
		for _, list := range append(append(wordsUpTo(pointsOf(c), 2), longWords(c)...), noWords(len(c))...) {
			w, whole := roomyList(list)
			by, wholeBy := roomyList([]int{0, len(c) - 1})
			impl.IsElement(c, w)
			impl.DoCommute(c, w, by)
			impl.IsInvolution(c, w)
			var results [][]int
			for range 2 {
				inverse, _ := impl.InverseElement(c, w)
				none, _ := impl.PowerElement(c, w, 0)
				one, _ := impl.PowerElement(c, w, 1)
				cube, _ := impl.PowerElement(c, w, 3)
				results = append(results, inverse, none, one, cube)
				for _, other := range [][]int{by, nil} {
					behind, _ := impl.MultiplyElements(c, w, other)
					front, _ := impl.MultiplyElements(c, other, w)
					conjugate, _ := impl.ConjugateElement(c, w, other)
					turned, _ := impl.ConjugateElement(c, other, w)
					results = append(results, behind, front, conjugate, turned)
				}
			}
			if !sameRow(whole, append(copyList(list), 77, 77, 77)) || !sameRow(wholeBy, []int{0, len(c) - 1, 77, 77, 77}) || impl.FormatCartan(c) != s {
				t.Errorf("%s: the arguments are now %v, %v and %v", name, c, whole, wholeBy)
			}
			rows := [][]int{whole, wholeBy}
			for _, row := range c {
				rows = append(rows, row[:cap(row)])
			}
			expectFresh(t, "the results for "+name, results, rows)
		}
	}
}
