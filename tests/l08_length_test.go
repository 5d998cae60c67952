package tests

import (
	"math"
	"testing"

	"loop.example/g02076/impl"
)

// An elementKey has the images of the simple roots under an element, which tell it from all others.
type elementKey [4][4]int

func identityKey() elementKey {
	var m elementKey
	for i := range m {
		m[i][i] = 1
	}
	return m
}

// withLetter is the key of the element followed by a letter.
func withLetter(c [][]int, m elementKey, letter int) elementKey {
	out := m
	for j := range c {
		for k := range c {
			out[j][k] = m[j][k] - c[letter][j]*m[letter][k]
		}
	}
	return out
}

func keyOf(c [][]int, letters []int) elementKey {
	m := identityKey()
	for _, letter := range letters {
		m = withLetter(c, m, letter)
	}
	return m
}

// inversionCount returns the number of roots, up to their signs, that an odd number of letters crosses.
func inversionCount(c [][]int, letters []int) int {
	crossed := map[[4]int]bool{}
	m := identityKey()
	for _, letter := range letters {
		root := m[letter]
		if heightOf(root[:]) < 0 {
			root = [4]int(negated(root[:]))
		}
		if crossed[root] {
			delete(crossed, root)
		} else {
			crossed[root] = true
		}
		m = withLetter(c, m, letter)
	}
	return len(crossed)
}

// firstWords returns the first of all words of at most n letters for each of their elements.
func firstWords(c [][]int, n int) map[elementKey][]int {
	out := map[elementKey][]int{}
	for _, w := range wordsUpTo(pointsOf(c), n) {
		key := keyOf(c, w)
		if _, found := out[key]; !found {
			out[key] = w
		}
	}
	return out
}

// groupOf returns the first words of all elements of a finite group, in order; they begin with such words.
func groupOf(c [][]int) [][]int {
	words := [][]int{nil}
	found := map[elementKey]bool{identityKey(): true}
	for at := 0; at < len(words); at++ {
		for i := range c {
			w := append(copyList(words[at]), i)
			if key := keyOf(c, w); !found[key] {
				found[key] = true
				words = append(words, w)
			}
		}
	}
	return words
}

// longWords are words of 9 to 15 letters that go round the points in several ways.
func longWords(c [][]int) [][]int {
	var out [][]int
	for n := 9; n <= 15; n += 3 {
		for shift := range 4 {
			w := make([]int, n)
			for k := range w {
				w[k] = (k + k*shift/3) % len(c)
			}
			out = append(out, w, impl.ReverseWord(w), impl.AlternatingWord(shift%len(c), 0, n))
		}
		out = append(out, repeated(len(c)-1, n))
	}
	return out
}

// noWords are lists that are no words of n points.
func noWords(n int) [][]int {
	return [][]int{
		{n}, {-1}, {0, n}, {n, 0}, {0, -1}, {-1, 0}, {n, n}, {-1, -1}, repeated(0, 16), repeated(0, 17), repeated(n-1, 1000), append(repeated(0, 14), n), append(repeated(0, 15), n), {math.MinInt}, {math.MaxInt}, {0, 1 << 32, 0},
	}
}

// eachNoWord calls f with valid matrices and lists that are no words for them, and with invalid matrices, for which no list is a word.
func eachNoWord(f func(c [][]int, w []int)) {
	manyCartans(func(c [][]int) {
		for _, w := range noWords(len(c)) {
			f(c, w)
		}
	})
	for _, c := range invalidCartans() {
		for _, w := range append(noWords(max(len(c), 1)), nil, []int{}, []int{0}, []int{1}, []int{0, 0}, []int{0, 1, 0}) {
			f(c, w)
		}
	}
}

func expectNormalForm(t *testing.T, c [][]int, w []int, want []int) {
	t.Helper()
	if got, ok := impl.NormalForm(c, w); !ok || !sameRow(got, want) {
		t.Errorf("NormalForm(%v, %v) = %v, %t, want %v", c, w, got, ok, want)
	}
	if got := impl.LengthOf(c, w); got != len(want) {
		t.Errorf("LengthOf(%v, %v) = %d, want %d", c, w, got, len(want))
	}
	if got := impl.IsReduced(c, w); got != (len(w) == len(want)) {
		t.Errorf("IsReduced(%v, %v) = %t", c, w, got)
	}
}

func TestLengths(t *testing.T) {
	cases := []struct {
		name, word, first, left, right string
	}{
		{"A1", "e", "e", "e", "e"},
		{"A1", "1", "1", "1", "1"},
		{"A1", "11", "e", "e", "e"},
		{"A1", "111111111111111", "1", "1", "1"},
		{"A2", "12", "12", "1", "2"},
		{"A2", "21", "21", "2", "1"},
		{"A2", "121", "121", "12", "12"},
		{"A2", "212", "121", "12", "12"},
		{"A2", "2121", "12", "1", "2"},
		{"A2", "1221", "e", "e", "e"},
		{"A3", "31", "13", "13", "13"},
		{"A3", "3212", "1321", "13", "12"},
		{"A3", "2132", "2132", "2", "2"},
		{"A3", "323121", "2132", "2", "2"},
		{"A3", "321323", "121321", "123", "123"},
		{"B2", "2121", "1212", "12", "12"},
		{"B2", "21212", "121", "1", "1"},
		{"B3", "323", "323", "3", "3"},
		{"B3", "3232", "2323", "23", "23"},
		{"C3", "3232", "2323", "23", "23"},
		{"D4", "4321", "3421", "34", "1"},
		{"D4", "431", "134", "134", "134"},
		{"D4", "2431342", "121", "12", "12"},
		{"G2", "212121", "121212", "12", "12"},
		{"G2", "2121212", "12121", "1", "1"},
		{"A1~", "121212", "121212", "1", "2"},
		{"A1~", "212121212121212", "212121212121212", "2", "2"},
		{"A1~", "212112121212121", "1212121", "1", "1"},
		{"A2~", "323123", "231213", "23", "3"},
		{"A2~", "123123123123123", "123123123123123", "1", "3"},
		{"F4", "432343234", "3234323", "3", "3"},
	}
	for _, x := range cases {
		c := mustParseCartan(t, namedCartans[x.name])
		w, ok := impl.ParseWord(c, x.word)
		if !ok {
			t.Fatalf("%s is no word of %s", x.word, x.name)
		}
		first, ok := impl.NormalForm(c, w)
		if !ok || digitsOf(first) != x.first {
			t.Errorf("%s: NormalForm of %s = %s, want %s", x.name, x.word, digitsOf(first), x.first)
		}
		if left := digitsOf(impl.LeftDescents(c, w)); left != x.left {
			t.Errorf("%s: LeftDescents of %s = %s, want %s", x.name, x.word, left, x.left)
		}
		if right := digitsOf(impl.RightDescents(c, w)); right != x.right {
			t.Errorf("%s: RightDescents of %s = %s, want %s", x.name, x.word, right, x.right)
		}
	}
}

func TestNormalFormIsTheFirstWord(t *testing.T) {
	check := func(c [][]int, n int) {
		first := firstWords(c, n)
		for _, w := range wordsUpTo(pointsOf(c), n) {
			expectNormalForm(t, c, w, first[keyOf(c, w)])
		}
	}
	manyCartans(func(c [][]int) { check(c, 3) })
	for _, s := range namedCartans {
		check(mustParseCartan(t, s), 6)
	}
	eachCartan(2, 1, func(c [][]int) { check(c, 10) })
}

func TestNormalFormsOfFiniteGroups(t *testing.T) {
	for name, size := range partSizes {
		c := mustParseCartan(t, namedCartans[name])
		words := groupOf(c)
		if len(words) != size {
			t.Fatalf("%s: %d elements were found", name, len(words))
		}
		first := map[elementKey][]int{}
		for _, w := range words {
			first[keyOf(c, w)] = w
		}
		for _, w := range words {
			if len(w) > 15 {
				if _, ok := impl.NormalForm(c, w); ok || impl.LengthOf(c, w) != -1 || impl.IsReduced(c, w) {
					t.Errorf("%s: %v is too long, but has a length", name, w)
				}
				continue
			}
			expectNormalForm(t, c, w, w)
			back := impl.ReverseWord(w)
			expectNormalForm(t, c, back, first[keyOf(c, back)])
			for i := range c {
				if len(w) < 15 {
					more := append([]int{i}, w...)
					expectNormalForm(t, c, more, first[keyOf(c, more)])
				}
			}
		}
	}
}

func TestNormalFormsOfLongWords(t *testing.T) {
	manyCartans(func(c [][]int) {
		for _, w := range longWords(c) {
			short, ok := impl.NormalForm(c, w)
			if !ok || keyOf(c, short) != keyOf(c, w) || len(short) != inversionCount(c, w) {
				t.Errorf("NormalForm(%v, %v) = %v, %t", c, w, short, ok)
			}
			// The first word begins with the least letter that leaves a shorter element, and so does what is left.
			for at := range short {
				rest := short[at:]
				for i := range rest[0] {
					if inversionCount(c, append([]int{i}, rest...)) < len(rest) {
						t.Errorf("NormalForm(%v, %v) = %v, but %v can begin with %d", c, w, short, rest, i)
					}
				}
			}
		}
	})
}

func TestLengthCountsInversions(t *testing.T) {
	check := func(c [][]int) {
		positive, finite := impl.PositiveRoots(c)
		for _, w := range append(wordsUpTo(pointsOf(c), 4), longWords(c)...) {
			length := impl.LengthOf(c, w)
			if want := inversionCount(c, w); length != want {
				t.Errorf("LengthOf(%v, %v) = %d, want %d", c, w, length, want)
			}
			if !finite {
				continue
			}
			negative := 0
			for _, r := range positive {
				if impl.RootSign(impl.ActOnRoot(c, impl.ReverseWord(w), r)) == -1 {
					negative++
				}
			}
			if length != negative {
				t.Errorf("LengthOf(%v, %v) = %d, but the inverse makes %d positive roots negative", c, w, length, negative)
			}
		}
	}
	manyCartans(check)
	for _, s := range namedCartans {
		check(mustParseCartan(t, s))
	}
}

func TestLengthsOfAllWordsOfManyLetters(t *testing.T) {
	// All words of 15 letters of two points, whose roots grow fastest in the last matrix.
	for _, s := range []string{"2,0;0,2", "2,-1;-3,2", "2,-2;-2,2", "2,-3;-3,2"} {
		c := mustParseCartan(t, s)
		w := make([]int, 15)
		for code := range 1 << 15 {
			for k := range w {
				w[k] = code >> k & 1
			}
			if got, want := impl.LengthOf(c, w), inversionCount(c, w); got != want {
				t.Fatalf("LengthOf(%s, %v) = %d, want %d", s, w, got, want)
			}
		}
	}
}

func TestReducedWords(t *testing.T) {
	manyCartans(func(c [][]int) {
		for _, w := range append(wordsUpTo(pointsOf(c), 4), longWords(c)...) {
			reduced := impl.IsReduced(c, w)
			if reduced != (inversionCount(c, w) == len(w)) {
				t.Errorf("IsReduced(%v, %v) = %t", c, w, reduced)
			}
			for n := range len(w) {
				if reduced && !impl.IsReduced(c, w[:n]) {
					t.Errorf("%v: %v is reduced, but its first %d letters are not", c, w, n)
				}
			}
			if reduced != impl.IsReduced(c, impl.ReverseWord(w)) {
				t.Errorf("%v: only one of %v and its reverse is reduced", c, w)
			}
		}
	})
}

func TestDescents(t *testing.T) {
	check := func(c [][]int) {
		for _, w := range append(wordsUpTo(pointsOf(c), 3), longWords(c)...) {
			length := inversionCount(c, w)
			var left, right []int
			for i := range c {
				if inversionCount(c, append([]int{i}, w...)) < length {
					left = append(left, i)
				}
				if inversionCount(c, append(copyList(w), i)) < length {
					right = append(right, i)
				}
			}
			expectWord(t, "LeftDescents", impl.LeftDescents(c, w), left)
			expectWord(t, "RightDescents", impl.RightDescents(c, w), right)
		}
	}
	manyCartans(check)
	for _, s := range namedCartans {
		check(mustParseCartan(t, s))
	}
}

func TestDescentsBeginReducedWords(t *testing.T) {
	for _, s := range namedCartans {
		c := mustParseCartan(t, s)
		first := firstWords(c, 5)
		begins, ends := map[elementKey][4]bool{}, map[elementKey][4]bool{}
		words := wordsUpTo(pointsOf(c), 5)
		for _, w := range words {
			key := keyOf(c, w)
			if n := len(w); n > 0 && len(first[key]) == n {
				letters := begins[key]
				letters[w[0]] = true
				begins[key] = letters
				letters = ends[key]
				letters[w[n-1]] = true
				ends[key] = letters
			}
		}
		for _, w := range words {
			key := keyOf(c, w)
			var left, right []int
			for i := range c {
				if begins[key][i] {
					left = append(left, i)
				}
				if ends[key][i] {
					right = append(right, i)
				}
			}
			expectWord(t, "LeftDescents", impl.LeftDescents(c, w), left)
			expectWord(t, "RightDescents", impl.RightDescents(c, w), right)
		}
	}
}

func TestDescentsOfTheLongestElement(t *testing.T) {
	for name := range partSizes {
		c := mustParseCartan(t, namedCartans[name])
		words := groupOf(c)
		longest := words[len(words)-1]
		if len(longest) != positiveRootCounts[name] {
			t.Errorf("%s: the longest element is %v", name, longest)
		}
		if len(longest) <= 15 {
			expectWord(t, "LeftDescents of the longest element", impl.LeftDescents(c, longest), pointsOf(c))
			expectWord(t, "RightDescents of the longest element", impl.RightDescents(c, longest), pointsOf(c))
		}
	}
}

func TestAreSame(t *testing.T) {
	check := func(c [][]int, n int) {
		words := wordsUpTo(pointsOf(c), n)
		keys := make([]elementKey, len(words))
		for k, w := range words {
			keys[k] = keyOf(c, w)
		}
		for i, a := range words {
			for j, b := range words {
				if got := impl.AreSame(c, a, b); got != (keys[i] == keys[j]) {
					t.Errorf("AreSame(%v, %v, %v) = %t", c, a, b, got)
				}
			}
		}
	}
	manyCartans(func(c [][]int) { check(c, 2) })
	for _, s := range namedCartans {
		check(mustParseCartan(t, s), 3)
	}
}

func TestAreSameOfBraids(t *testing.T) {
	manyCartans(func(c [][]int) {
		for i := range c {
			for j := range c {
				for n := range 16 {
					m := impl.BondOf(c, i, j)
					a, b := impl.AlternatingWord(i, j, n), impl.AlternatingWord(j, i, n)
					if want := n == 0 || m > 0 && n%m == 0; impl.AreSame(c, a, b) != want {
						t.Errorf("AreSame(%v, %v, %v) = %t", c, a, b, !want)
					}
					// The empty word is the product of twice as many as the bond.
					if want := n == 0 || i == j && n%2 == 0 || m > 0 && n%(2*m) == 0; impl.AreSame(c, a, nil) != want {
						t.Errorf("AreSame(%v, %v, e) = %t", c, a, !want)
					}
				}
			}
		}
	})
}

func TestAreSameOfLongWords(t *testing.T) {
	manyCartans(func(c [][]int) {
		for _, w := range longWords(c) {
			short, _ := impl.NormalForm(c, w)
			if !impl.AreSame(c, w, short) || !impl.AreSame(c, short, w) || !impl.AreSame(c, w, w) {
				t.Errorf("%v: %v and its normal form %v are different elements", c, w, short)
			}
			if impl.AreSame(c, w, w[1:]) || impl.AreSame(c, w[:len(w)-1], w) {
				t.Errorf("%v: %v is the same element as without its first or last letter", c, w)
			}
		}
	})
}

// squaresOf returns words of at most 14 letters that consist of squares only, side by side or one within another.
func squaresOf(c [][]int) [][]int {
	out := [][]int{nil}
	last := len(c) - 1
	for _, w := range append(wordsUpTo(pointsOf(c), 2), append(pointsOf(c), 0, last, 0), impl.AlternatingWord(0, last, 7), impl.AlternatingWord(last, last/2, 7)) {
		var doubled []int
		for _, letter := range w {
			doubled = append(doubled, letter, letter)
		}
		nested := append(copyList(w), impl.ReverseWord(w)...)
		out = append(out, doubled, nested)
		if len(w) < 4 {
			out = append(out, append(copyList(nested), nested...), append(append([]int{0, 0}, nested...), doubled...))
		}
	}
	return out
}

func TestWordsOfSquaresOnly(t *testing.T) {
	check := func(c [][]int) {
		for _, w := range squaresOf(c) {
			expectNormalForm(t, c, w, nil)
			expectWord(t, "LeftDescents of squares", impl.LeftDescents(c, w), nil)
			expectWord(t, "RightDescents of squares", impl.RightDescents(c, w), nil)
			if !impl.AreSame(c, w, nil) || !impl.AreSame(c, nil, w) || !impl.AreSame(c, w, []int{0, 0}) {
				t.Errorf("%v: %v is not the identity", c, w)
			}
			if order := impl.OrderOfElement(c, w); order != 1 {
				t.Errorf("OrderOfElement(%v, %v) = %d, want 1", c, w, order)
			}
			if sign := impl.SignOf(w); sign != 1 {
				t.Errorf("SignOf(%v) = %d, want 1", w, sign)
			}
			for i := range c {
				one := append(copyList(w), i)
				expectNormalForm(t, c, one, []int{i})
				if impl.AreSame(c, one, nil) || impl.OrderOfElement(c, one) != 2 || impl.SignOf(one) != -1 {
					t.Errorf("%v: %v is not the point %d", c, one, i)
				}
			}
		}
	}
	manyCartans(check)
	for _, s := range namedCartans {
		check(mustParseCartan(t, s))
	}
}

func TestSignOf(t *testing.T) {
	for n := range 40 {
		want := 1 - n%2*2
		for _, letter := range []int{0, 3, 4, -1, math.MaxInt, math.MinInt} {
			if got := impl.SignOf(repeated(letter, n)); got != want {
				t.Errorf("SignOf %d letters = %d, want %d", n, got, want)
			}
		}
	}
	if impl.SignOf(nil) != 1 || impl.SignOf([]int{}) != 1 {
		t.Error("SignOf the empty word is not 1")
	}
	manyCartans(func(c [][]int) {
		for _, w := range append(wordsUpTo(pointsOf(c), 3), longWords(c)...) {
			// All words of an element have the same sign, that of the determinant.
			short, _ := impl.NormalForm(c, w)
			if impl.SignOf(w) != impl.SignOf(short) || impl.SignOf(w) != 1-impl.LengthOf(c, w)%2*2 {
				t.Errorf("%v: %v has the sign %d, and its normal form %v has %d", c, w, impl.SignOf(w), short, impl.SignOf(short))
			}
		}
	})
}

// orderOf multiplies as often as the document allows, and stops where it says so.
func orderOf(c [][]int, w []int) int {
	if !impl.IsFinite(c) && inversionCount(c, w) > 7 {
		return 0
	}
	var power []int
	for k := 1; k <= 60; k++ {
		power = append(power, w...)
		if keyOf(c, power) == identityKey() {
			return k
		}
		if inversionCount(c, power) > 15 {
			return 0
		}
	}
	return 0
}

func TestOrderOfElement(t *testing.T) {
	cases := []struct {
		c, word string
		want    int
	}{
		{"2", "e", 1},
		{"2", "1", 2},
		{"2", "11", 1},
		{"2", "111111111111111", 2},
		{namedCartans["A2"], "12", 3},
		{namedCartans["A2"], "1212", 3},
		{namedCartans["A2"], "212", 2},
		{namedCartans["A3"], "123", 4},
		{namedCartans["A3"], "13", 2},
		{namedCartans["A3"], "121321", 2},
		{namedCartans["B2"], "12", 4},
		{namedCartans["B3"], "123", 6},
		{namedCartans["G2"], "21", 6},
		{namedCartans["G2"], "1212", 3},
		{namedCartans["G2"], "121212", 2},
		{namedCartans["D4"], "1234", 6},
		{namedCartans["A4"], "124", 6},
		// The powers have at most 8 letters, though the repeated word has more than 15.
		{namedCartans["A4"], "1234", 5},
		{"2,-1,0,0;-1,2,0,0;0,0,2,-1;0,0,-2,2", "1234", 12},
		{"2,-1,0,0;-1,2,0,0;0,0,2,-1;0,0,-3,2", "1234", 6},
		// The longest power has 15 letters.
		{namedCartans["B4"], "12343", 6},
		{namedCartans["F4"], "1213234", 6},
		// The longest power has 16 letters, and the order would be 8, 8 and 4.
		{namedCartans["B4"], "1234", 0},
		{namedCartans["C4"], "4321", 0},
		{namedCartans["F4"], "1321323432", 0},
		{namedCartans["F4"], "1234", 0},
		{namedCartans["B4"], "123", 4},
		{namedCartans["F4"], "123", 6},
		{namedCartans["F4"], "232", 2},
		{namedCartans["A1~"], "12", 0},
		{namedCartans["A1~"], "1", 2},
		{namedCartans["A1~"], "1212121", 2},
		{namedCartans["A1~"], "112121212", 2},
		{namedCartans["A1~"], "111111112121212", 2},
		// Reflections of an infinite group that are longer than 7.
		{namedCartans["A1~"], "121212121", 0},
		{namedCartans["A1~"], "121212121212121", 0},
		{namedCartans["A2~"], "12", 3},
		{namedCartans["A2~"], "3123", 3},
		{namedCartans["A2~"], "231232", 3},
		{namedCartans["A2~"], "123", 0},
		{namedCartans["C2~"], "12", 4},
		{namedCartans["G2~"], "23", 6},
		{"2,-3;-3,2", "12", 0},
		{"2,-3;-3,2", "2121212", 2},
		// The part that is infinite counts, also for words of the other one.
		{"2,-2,0;-2,2,0;0,0,2", "3", 2},
		{"2,-2,0;-2,2,0;0,0,2", "13", 2},
		{"2,-2,0;-2,2,0;0,0,2", "1212123", 0},
		{"2,-2,0;-2,2,0;0,0,2", "12121213", 0},
		{"2,-2,0;-2,2,0;0,0,2", "123121", 2},
	}
	for _, x := range cases {
		c := mustParseCartan(t, x.c)
		w, ok := impl.ParseWord(c, x.word)
		if !ok {
			t.Fatalf("%s is no word of %s", x.word, x.c)
		}
		if got := impl.OrderOfElement(c, w); got != x.want {
			t.Errorf("OrderOfElement(%s, %s) = %d, want %d", x.c, x.word, got, x.want)
		}
		if got := impl.OrderOfElement(c, impl.ReverseWord(w)); got != x.want {
			t.Errorf("OrderOfElement(%s) of the inverse of %s = %d, want %d", x.c, x.word, got, x.want)
		}
	}
}

func TestOrdersByMultiplication(t *testing.T) {
	check := func(c [][]int, words [][]int) {
		for _, w := range words {
			if got, want := impl.OrderOfElement(c, w), orderOf(c, w); got != want {
				t.Errorf("OrderOfElement(%v, %v) = %d, want %d", c, w, got, want)
			}
		}
	}
	manyCartans(func(c [][]int) { check(c, wordsUpTo(pointsOf(c), 3)) })
	for _, s := range namedCartans {
		c := mustParseCartan(t, s)
		check(c, append(wordsUpTo(pointsOf(c), 5), longWords(c)...))
	}
	for name, size := range partSizes {
		c := mustParseCartan(t, namedCartans[name])
		if size < 1000 {
			var words [][]int
			for _, w := range groupOf(c) {
				if len(w) <= 15 {
					words = append(words, w)
				}
			}
			check(c, words)
		}
	}
}

func TestOrdersOfConjugates(t *testing.T) {
	// The elements by . w . by^-1 of infinite groups have the order of w as long as they have at most 7 letters.
	atLimit := map[int]int{}
	for _, name := range []string{"A2~", "A3~", "C2~", "G2~"} {
		c := mustParseCartan(t, namedCartans[name])
		for _, w := range wordsUpTo(pointsOf(c), 2) {
			for _, by := range wordsUpTo(pointsOf(c), 4) {
				conjugate := append(append(copyList(by), w...), impl.ReverseWord(by)...)
				length := inversionCount(c, conjugate)
				want := impl.OrderOfElement(c, w)
				if length > 7 {
					want = 0
				}
				if got := impl.OrderOfElement(c, conjugate); got != want {
					t.Errorf("OrderOfElement(%s, %v) = %d, want %d", name, conjugate, got, want)
				}
				atLimit[length]++
			}
		}
	}
	if atLimit[6] == 0 || atLimit[7] == 0 || atLimit[8] == 0 || atLimit[9] == 0 {
		t.Errorf("no conjugates of 6, 7, 8 or 9 letters: %v", atLimit)
	}
}

func expectNoElement(t *testing.T, c [][]int, w []int) {
	t.Helper()
	if got := impl.LengthOf(c, w); got != -1 {
		t.Errorf("LengthOf(%v, %v) = %d, want -1", c, w, got)
	}
	if got, ok := impl.NormalForm(c, w); ok || len(got) != 0 {
		t.Errorf("NormalForm(%v, %v) = %v, %t, want none", c, w, got, ok)
	}
	if impl.IsReduced(c, w) {
		t.Errorf("IsReduced(%v, %v) = true", c, w)
	}
	expectWord(t, "LeftDescents of no word", impl.LeftDescents(c, w), nil)
	expectWord(t, "RightDescents of no word", impl.RightDescents(c, w), nil)
	for _, other := range [][]int{nil, {0}, w} {
		if impl.AreSame(c, w, other) || impl.AreSame(c, other, w) {
			t.Errorf("AreSame(%v) of %v and %v = true", c, w, other)
		}
	}
	if got := impl.OrderOfElement(c, w); got != 0 {
		t.Errorf("OrderOfElement(%v, %v) = %d, want 0", c, w, got)
	}
}

func TestLengthsOfNoWords(t *testing.T) {
	eachNoWord(func(c [][]int, w []int) { expectNoElement(t, c, w) })
}

func TestLengthResultsAreFresh(t *testing.T) {
	for name, s := range namedCartans {
		c := roomyRows(mustParseCartan(t, s))
		for _, list := range append(append(wordsUpTo(pointsOf(c), 2), longWords(c)...), noWords(len(c))...) {
			w, whole := roomyList(list)
			impl.LengthOf(c, w)
			impl.IsReduced(c, w)
			impl.AreSame(c, w, w)
			impl.SignOf(w)
			impl.OrderOfElement(c, w)
			var results [][]int
			for range 2 {
				first, _ := impl.NormalForm(c, w)
				results = append(results, first, impl.LeftDescents(c, w), impl.RightDescents(c, w))
			}
			if !sameRow(whole, append(copyList(list), 77, 77, 77)) || impl.FormatCartan(c) != s {
				t.Errorf("%s: the arguments are now %v and %v", name, c, whole)
			}
			rows := [][]int{whole}
			for _, row := range c {
				rows = append(rows, row[:cap(row)])
			}
			expectFresh(t, "the results for "+name, results, rows)
		}
	}
}
