package tests

import (
	"math"
	"testing"

	"loop.example/g02076/impl"
)

// twoCircles has two infinite groups of two points each, whose letters commute with those of the other one.
const twoCircles = "2,-2,0,0;-2,2,0,0;0,0,2,-2;0,0,-2,2"

// orderOfProduct is the order of the product of two points, by its powers; 0 if it has none up to 6.
func orderOfProduct(c [][]int, i int, j int) int {
	m := identityKey()
	for n := 1; n <= 6; n++ {
		m = withLetter(c, withLetter(c, m, i), j)
		if m == identityKey() {
			return n
		}
	}
	return 0
}

// movedAt returns what a braid move at a place makes of a word, and whether it is possible.
func movedAt(c [][]int, w []int, at int) ([]int, bool) {
	if at < 0 || at > len(w)-2 || w[at] == w[at+1] {
		return w, false
	}
	pair := []int{w[at], w[at+1]}
	m := orderOfProduct(c, pair[0], pair[1])
	if m == 0 || at+m > len(w) {
		return w, false
	}
	out := copyList(w)
	for k := range m {
		if w[at+k] != pair[k%2] {
			return w, false
		}
		out[at+k] = pair[1-k%2]
	}
	return out, true
}

func placesOf(c [][]int, w []int) []int {
	var out []int
	for at := range w {
		if _, ok := movedAt(c, w, at); ok {
			out = append(out, at)
		}
	}
	return out
}

// reducedWordsOf returns the reduced words of the element of a word in order, but none behind the first 130 of them: each begins with a letter whose root the inverse makes negative.
func reducedWordsOf(c [][]int, w []int) [][]int {
	var out [][]int
	var extend func(front []int, inverse elementKey)
	extend = func(front []int, inverse elementKey) {
		if inverse == identityKey() {
			out = append(out, front)
		}
		for i := range c {
			if heightOf(inverse[i][:]) < 0 && len(out) < 130 {
				extend(joined(front, []int{i}), withLetter(c, inverse, i))
			}
		}
	}
	extend(nil, keyOf(c, impl.ReverseWord(w)))
	return out
}

// foundFrom returns the words that a search by breadth finds, at most 120 of them, and the places of the moves that lead to each.
func foundFrom(c [][]int, a []int) ([][]int, [][]int) {
	words, paths := [][]int{a}, [][]int{nil}
	for k := 0; k < len(words); k++ {
		for _, at := range placesOf(c, words[k]) {
			next, _ := movedAt(c, words[k], at)
			if len(words) < 120 && !isOneOf(words, next) {
				words = append(words, next)
				paths = append(paths, joined(paths[k], []int{at}))
			}
		}
	}
	return words, paths
}

func TestLimitOfReducedWords(t *testing.T) {
	if impl.MaxReduced != 120 {
		t.Errorf("MaxReduced = %d", impl.MaxReduced)
	}
}

func TestBraidAt(t *testing.T) {
	cases := []struct {
		c, word string
		at      int
		want    string
	}{
		{"2", "e", 0, ""},
		{"2", "1", 0, ""},
		{"2", "11", 0, ""},
		{"2", "111", 0, ""},
		{"2,0;0,2", "12", 0, "21"},
		{"2,0;0,2", "21", 0, "12"},
		{"2,0;0,2", "12", 1, ""},
		{"2,0;0,2", "121", 0, "211"},
		{"2,0;0,2", "121", 1, "112"},
		{"2,0;0,2", "11", 0, ""},
		{namedCartans["A2"], "e", 0, ""},
		{namedCartans["A2"], "1", 0, ""},
		{namedCartans["A2"], "12", 0, ""},
		{namedCartans["A2"], "121", 0, "212"},
		{namedCartans["A2"], "212", 0, "121"},
		{namedCartans["A2"], "121", 1, ""},
		{namedCartans["A2"], "121", 2, ""},
		{namedCartans["A2"], "121", 3, ""},
		{namedCartans["A2"], "121", -1, ""},
		{namedCartans["A2"], "111", 0, ""},
		{namedCartans["A2"], "122", 0, ""},
		{namedCartans["A2"], "112", 0, ""},
		{namedCartans["A2"], "211", 0, ""},
		// Words that are not reduced can be changed too.
		{namedCartans["A2"], "1212", 0, "2122"},
		{namedCartans["A2"], "1212", 1, "1121"},
		{namedCartans["A2"], "1212", 2, ""},
		{namedCartans["A2"], "1121", 1, "1212"},
		{namedCartans["A2"], "121212121212121", 12, "121212121212212"},
		{namedCartans["A2"], "121212121212121", 13, ""},
		{namedCartans["A3"], "13", 0, "31"},
		{namedCartans["A3"], "313", 0, "133"},
		{namedCartans["A3"], "123", 0, ""},
		{namedCartans["A3"], "123", 1, ""},
		{namedCartans["A3"], "3212", 1, "3121"},
		{namedCartans["A3"], "323123", 0, "232123"},
		{namedCartans["A3"], "323123", 2, "321323"},
		{namedCartans["A3"], "123123", 2, "121323"},
		{namedCartans["B2"], "121", 0, ""},
		{namedCartans["B2"], "1212", 0, "2121"},
		{namedCartans["B2"], "2121", 0, "1212"},
		{namedCartans["B2"], "1211", 0, ""},
		{namedCartans["B2"], "12121", 1, "11212"},
		{namedCartans["B3"], "232", 0, ""},
		{namedCartans["B3"], "12323", 1, "13232"},
		{namedCartans["B3"], "12323", 0, ""},
		{namedCartans["G2"], "1212", 0, ""},
		{namedCartans["G2"], "12121", 0, ""},
		{namedCartans["G2"], "121212", 0, "212121"},
		{namedCartans["G2"], "121212", 1, ""},
		{namedCartans["G2"], "2121212", 1, "2212121"},
		{namedCartans["G2"], "121211", 0, ""},
		{namedCartans["D4"], "1342", 1, "1432"},
		// A bond without an order has no move, however many letters there are.
		{namedCartans["A1~"], "e", 0, ""},
		{namedCartans["A1~"], "12", 0, ""},
		{namedCartans["A1~"], "12", 1, ""},
		{namedCartans["A1~"], "1212", 0, ""},
		{namedCartans["A1~"], "121212121212121", 0, ""},
		{namedCartans["A1~"], "212121212121212", 7, ""},
		{namedCartans["A1~"], "11", 0, ""},
		{"2,-3;-2,2", "121212121212", 0, ""},
		{"2,-3;-3,2", "212121212121", 0, ""},
		{"2,-1;-1,2", "121212121212", 0, "212212121212"},
		{"2,-3;-1,2", "121212121212", 0, "212121121212"},
		{twoCircles, "13", 0, "31"},
		{twoCircles, "1213", 0, ""},
		{twoCircles, "1213", 1, ""},
		{twoCircles, "1213", 2, "1231"},
	}
	for _, x := range cases {
		c := mustParseCartan(t, x.c)
		w := mustParseWord(t, c, x.word)
		want, valid := x.want, x.want != ""
		if !valid {
			want = x.word
		}
		if got, ok := impl.BraidAt(c, w, x.at); ok != valid || digitsOf(got) != want {
			t.Errorf("BraidAt(%s, %s, %d) = %s, %t, want %s, %t", x.c, x.word, x.at, digitsOf(got), ok, want, valid)
		}
	}
}

func TestBraidPlaces(t *testing.T) {
	cases := []struct {
		c, word string
		want    []int
	}{
		{"2", "e", nil},
		{"2", "1", nil},
		{"2", "11", nil},
		{"2,0;0,2", "121", []int{0, 1}},
		{"2,0;0,2", "1121", []int{1, 2}},
		{"2,0;0,2", "121212121212121", []int{0, 1, 2, 3, 4, 5, 6, 7, 8, 9, 10, 11, 12, 13}},
		{namedCartans["A2"], "12", nil},
		{namedCartans["A2"], "121", []int{0}},
		{namedCartans["A2"], "12121", []int{0, 1, 2}},
		{namedCartans["A2"], "12112", []int{0}},
		{namedCartans["A2"], "12211", nil},
		{namedCartans["A3"], "12321", []int{1}},
		{namedCartans["A3"], "13213", []int{0, 3}},
		{namedCartans["A3"], "1323", []int{0, 1}},
		{namedCartans["A3"], "323121", []int{0, 2, 3}},
		{namedCartans["B2"], "121", nil},
		{namedCartans["B2"], "12121", []int{0, 1}},
		{namedCartans["G2"], "12121", nil},
		{namedCartans["G2"], "1212121", []int{0, 1}},
		{namedCartans["D4"], "134", []int{0, 1}},
		{namedCartans["A1~"], "121212121212121", nil},
		{"2,-3;-2,2", "121212121212121", nil},
		{twoCircles, "121343", []int{2}},
		{twoCircles, "1323", []int{0, 1, 2}},
	}
	for _, x := range cases {
		c := mustParseCartan(t, x.c)
		if got := impl.BraidPlaces(c, mustParseWord(t, c, x.word)); !sameRow(got, x.want) {
			t.Errorf("BraidPlaces(%s, %s) = %v, want %v", x.c, x.word, got, x.want)
		}
	}
}

// expectMoves checks all places of a word: which moves are possible, and that each keeps the element and leads back. It returns the numbers of letters that they change.
func expectMoves(t *testing.T, c [][]int, w []int) []int {
	t.Helper()
	var possible, sizes []int
	for at := -2; at <= len(w)+1; at++ {
		want, valid := movedAt(c, w, at)
		got, ok := impl.BraidAt(c, w, at)
		if ok != valid || !sameRow(got, want) {
			t.Errorf("BraidAt(%v, %v, %d) = %v, %t, want %v, %t", c, w, at, got, ok, want, valid)
		}
		if !ok {
			continue
		}
		possible = append(possible, at)
		sizes = append(sizes, impl.BondOf(c, w[at], w[at+1]))
		if keyOf(c, got) != keyOf(c, w) {
			t.Errorf("BraidAt(%v, %v, %d) = %v, which is another element", c, w, at, got)
		}
		if back, ok := impl.BraidAt(c, got, at); !ok || !sameRow(back, w) {
			t.Errorf("%v: the moves at %d change %v to %v and then to %v, %t", c, at, w, got, back, ok)
		}
	}
	if got := impl.BraidPlaces(c, w); !sameRow(got, possible) {
		t.Errorf("BraidPlaces(%v, %v) = %v, want %v", c, w, got, possible)
	}
	for _, at := range []int{math.MinInt, math.MaxInt, math.MaxInt - 1, 1 << 32, -1 << 32} {
		if got, ok := impl.BraidAt(c, w, at); ok || !sameRow(got, w) {
			t.Errorf("BraidAt(%v, %v, %d) = %v, %t", c, w, at, got, ok)
		}
	}
	return sizes
}

func TestBraidMovesKeepTheElement(t *testing.T) {
	count := map[int]int{}
	check := func(c [][]int, words [][]int) {
		for _, w := range words {
			for _, size := range expectMoves(t, c, w) {
				count[size]++
			}
		}
	}
	manyCartans(func(c [][]int) {
		check(c, append(append(wordsUpTo(pointsOf(c), 3), longWords(c)...), longMixes(c)...))
	})
	for _, s := range namedCartans {
		c := mustParseCartan(t, s)
		check(c, wordsUpTo(pointsOf(c), 5))
	}
	eachCartan(2, 1, func(c [][]int) { check(c, wordsUpTo(pointsOf(c), 8)) })
	if count[2] == 0 || count[3] == 0 || count[4] == 0 || count[6] == 0 || len(count) != 4 {
		t.Errorf("the moves change so many letters: %v", count)
	}
}

func TestBraidMovesOfFiniteGroups(t *testing.T) {
	for name := range partSizes {
		c := mustParseCartan(t, namedCartans[name])
		for _, w := range groupOf(c) {
			if len(w) <= 15 {
				expectMoves(t, c, w)
				expectMoves(t, c, impl.ReverseWord(w))
			}
		}
	}
}

func TestMovesOfDihedralGroups(t *testing.T) {
	eachCartan(2, 1, func(c [][]int) {
		m := impl.BondOf(c, 0, 1)
		for n := range 16 {
			w := impl.AlternatingWord(1, 0, n)
			var want []int
			for at := 0; m > 0 && at+m <= n; at++ {
				want = append(want, at)
			}
			if got := impl.BraidPlaces(c, w); !sameRow(got, want) {
				t.Errorf("BraidPlaces(%v, %v) = %v, want %v", c, w, got, want)
			}
			if m > 0 && n > m {
				continue
			}
			words := [][]int{w}
			if n > 0 && n == m {
				words = [][]int{impl.AlternatingWord(0, 1, n), w}
			}
			if got, ok := impl.ReducedWords(c, w); !ok || !sameRows(got, words) {
				t.Errorf("ReducedWords(%v, %v) = %v, %t, want %v", c, w, got, ok, words)
			}
		}
	})
}

func TestReducedWordsOfElements(t *testing.T) {
	cases := []struct {
		c, word string
		want    []string
	}{
		{"2", "e", []string{"e"}},
		{"2", "1", []string{"1"}},
		{"2", "11", []string{"e"}},
		{"2", "111111111111111", []string{"1"}},
		{"2,0;0,2", "21", []string{"12", "21"}},
		{namedCartans["A2"], "21", []string{"21"}},
		{namedCartans["A2"], "2121", []string{"12"}},
		{namedCartans["A2"], "212", []string{"121", "212"}},
		{namedCartans["A3"], "2132", []string{"2132", "2312"}},
		{namedCartans["A3"], "13213", []string{"12321", "13213", "13231", "31213", "31231", "32123"}},
		{namedCartans["A3"], "1321", []string{"1321", "3121", "3212"}},
		{namedCartans["A3"], "321323", []string{"121321", "123121", "123212", "132132", "132312", "212321", "213213", "213231", "231213", "231231", "232123", "312132", "312312", "321232", "321323", "323123"}},
		{namedCartans["A3"], "1323213", []string{"121", "212"}},
		{namedCartans["D4"], "431", []string{"134", "143", "314", "341", "413", "431"}},
		{namedCartans["B2"], "2121", []string{"1212", "2121"}},
		{namedCartans["B3"], "3232", []string{"2323", "3232"}},
		{namedCartans["B3"], "323", []string{"323"}},
		{namedCartans["G2"], "212121", []string{"121212", "212121"}},
		{namedCartans["G2"], "2121212", []string{"12121"}},
		{namedCartans["A1~"], "121212121212121", []string{"121212121212121"}},
		{namedCartans["A1~"], "121212112121212", []string{"2"}},
		{"2,-3;-2,2", "212121212121", []string{"212121212121"}},
		{namedCartans["A2~"], "123123123123123", []string{"123123123123123"}},
		{namedCartans["A2~"], "1213", []string{"1213", "2123"}},
		{twoCircles, "1213", []string{"1213", "1231", "1321", "3121"}},
	}
	for _, x := range cases {
		c := mustParseCartan(t, x.c)
		words, ok := impl.ReducedWords(c, mustParseWord(t, c, x.word))
		var got []string
		for _, w := range words {
			got = append(got, digitsOf(w))
		}
		if !ok || len(got) != len(x.want) {
			t.Errorf("ReducedWords(%s, %s) = %v, %t, want %v", x.c, x.word, got, ok, x.want)
			continue
		}
		for k, want := range x.want {
			if got[k] != want {
				t.Errorf("ReducedWords(%s, %s) = %v, want %v", x.c, x.word, got, x.want)
				break
			}
		}
	}
}

// expectReducedWords returns whether there are more than 120.
func expectReducedWords(t *testing.T, c [][]int, w []int) bool {
	t.Helper()
	want := reducedWordsOf(c, w)
	tooMany := len(want) > 120
	if tooMany {
		want = nil
	}
	if got, ok := impl.ReducedWords(c, w); ok == tooMany || !sameRows(got, want) {
		t.Errorf("ReducedWords(%v, %v) = %v, %t, want %v", c, w, got, ok, want)
	}
	return tooMany
}

func TestAllReducedWordsAreReturned(t *testing.T) {
	tooMany := 0
	check := func(c [][]int, words [][]int) {
		for _, w := range words {
			if expectReducedWords(t, c, w) {
				tooMany++
			}
		}
	}
	manyCartans(func(c [][]int) {
		check(c, append(wordsUpTo(pointsOf(c), 2), longWords(c)...))
		check(c, longMixes(c))
	})
	for _, s := range namedCartans {
		c := mustParseCartan(t, s)
		check(c, wordsUpTo(pointsOf(c), 4))
	}
	if tooMany == 0 {
		t.Error("no word is an element with too many reduced words")
	}
}

func TestReducedWordsOfFiniteGroups(t *testing.T) {
	// So many elements of up to 15 letters have more than 120 reduced words.
	want := map[string]int{"A4": 5, "B4": 82, "C4": 82, "D4": 14, "F4": 327}
	for name, size := range partSizes {
		c := mustParseCartan(t, namedCartans[name])
		tooMany := 0
		for k, w := range groupOf(c) {
			if len(w) > 15 {
				continue
			}
			if expectReducedWords(t, c, w) {
				tooMany++
			}
			if size < 200 && k%3 == 0 {
				expectReducedWords(t, c, impl.ReverseWord(w))
			}
		}
		if tooMany != want[name] {
			t.Errorf("%s: %d elements have too many reduced words, want %d", name, tooMany, want[name])
		}
	}
}

func TestNumbersOfReducedWords(t *testing.T) {
	cases := []struct {
		c, word string
		want    int
	}{
		{namedCartans["A2"], "121", 2},
		{namedCartans["A3"], "121321", 16},
		{namedCartans["B2"], "1212", 2},
		{namedCartans["B3"], "123123123", 42},
		{namedCartans["C3"], "123123123", 42},
		{namedCartans["F4"], "121343213234", 118},
		{namedCartans["F4"], "1213234321323", 119},
		{namedCartans["F4"], "1214321324", 0},
		{namedCartans["A3~"], "12132412324123", 120},
		{namedCartans["A3~"], "1213412321413", 0},
		{namedCartans["A4"], "1213214321", 0},
		{namedCartans["D4"], "123412341234", 0},
		// Letters that commute: as many as choices of the places of the fewer ones.
		{twoCircles, "1213434343", 120},
		{twoCircles, "1213434343434", 0},
		{twoCircles, "121212121212134", 105},
		{twoCircles, "121234343", 0},
		{twoCircles, "121343434", 84},
		{"2,-2,-2,-1;-1,2,0,0;-1,0,2,-1;-1,0,-1,2", "2343123413123", 0},
		{"2,0,-3,-1;0,2,0,-1;-1,0,2,-1;-1,-1,-1,2", "12341234231343", 0},
		{"2,-3,-3,-1;-2,2,0,0;-3,0,2,0;-2,0,0,2", "123141341234134", 120},
		{"2,0,0,-3;0,2,-3,-2;0,-3,2,0;-1,-2,0,2", "123412323412", 120},
	}
	for _, x := range cases {
		c := mustParseCartan(t, x.c)
		got, ok := impl.ReducedWords(c, mustParseWord(t, c, x.word))
		if ok != (x.want > 0) || len(got) != x.want {
			t.Errorf("ReducedWords(%s, %s) are %d, %t, want %d", x.c, x.word, len(got), ok, x.want)
		}
	}
}

func TestOneReducedWordTooMany(t *testing.T) {
	for _, x := range [][2]string{
		{"2,-1,-1,-2;-1,2,0,0;-1,0,2,-1;-1,0,-1,2", "234314123141431"},
		{"2,-1,0,-3;-1,2,-2,0;0,-1,2,-1;-1,0,-1,2", "24123413213413"},
		{"2,-2,-2,-1;-1,2,0,0;-1,0,2,-1;-1,0,-1,2", "2343123413123"},
		{"2,0,-3,-1;0,2,0,-1;-1,0,2,-1;-1,-1,-1,2", "12341234231343"},
	} {
		c := mustParseCartan(t, x[0])
		w := mustParseWord(t, c, x[1])
		all := reducedWordsOf(c, w)
		if len(all) != 121 {
			t.Fatalf("%s has %d reduced words", x[1], len(all))
		}
		if got, ok := impl.ReducedWords(c, w); ok || len(got) != 0 {
			t.Errorf("ReducedWords(%s, %s) = %v, %t, want none", x[0], x[1], got, ok)
		}
		notFound := 0
		for _, b := range all {
			if _, ok := impl.BraidPath(c, w, b); !ok {
				notFound++
			}
		}
		if notFound != 1 {
			t.Errorf("%s: %d of the 121 words are not found from %s, want 1", x[0], notFound, x[1])
		}
	}
}

func TestBraidPath(t *testing.T) {
	cases := []struct {
		c, a, b string
		want    []int
		ok      bool
	}{
		{"2", "e", "e", nil, true},
		{"2", "1", "1", nil, true},
		{"2", "1", "e", nil, false},
		{"2", "e", "1", nil, false},
		{"2", "11", "11", nil, false},
		{"2", "11", "e", nil, false},
		{"2", "e", "11", nil, false},
		{"2", "111", "1", nil, false},
		{"2,0;0,2", "12", "21", []int{0}, true},
		{"2,0;0,2", "121", "2", nil, false},
		{"2,0;0,2", "121", "211", nil, false},
		{namedCartans["A2"], "12", "12", nil, true},
		{namedCartans["A2"], "12", "21", nil, false},
		{namedCartans["A2"], "121", "212", []int{0}, true},
		{namedCartans["A2"], "212", "121", []int{0}, true},
		{namedCartans["A2"], "121", "12", nil, false},
		// The same element, and there are moves between these words, but they are not reduced.
		{namedCartans["A2"], "1212", "2122", nil, false},
		{namedCartans["A2"], "2121", "12", nil, false},
		{namedCartans["A2"], "12", "2121", nil, false},
		{namedCartans["A3"], "3212", "1321", []int{1, 0}, true},
		{namedCartans["A3"], "2132", "2312", []int{1}, true},
		{namedCartans["A3"], "12321", "32123", []int{1, 0, 3, 1}, true},
		{namedCartans["A3"], "13231", "31213", []int{0, 3}, true},
		{namedCartans["D4"], "134", "431", []int{0, 1, 0}, true},
		{namedCartans["D4"], "134", "341", []int{0, 1}, true},
		{namedCartans["B2"], "1212", "2121", []int{0}, true},
		{namedCartans["B2"], "121", "212", nil, false},
		{namedCartans["G2"], "212121", "121212", []int{0}, true},
		{namedCartans["G2"], "12121", "21212", nil, false},
		{namedCartans["A1~"], "121212121212121", "121212121212121", nil, true},
		{namedCartans["A1~"], "121212", "212121", nil, false},
		{"2,-3;-2,2", "12", "21", nil, false},
		{twoCircles, "13", "31", []int{0}, true},
		{twoCircles, "1234", "3412", []int{1, 0, 2, 1}, true},
		{twoCircles, "1234", "4312", nil, false},
	}
	for _, x := range cases {
		c := mustParseCartan(t, x.c)
		got, ok := impl.BraidPath(c, mustParseWord(t, c, x.a), mustParseWord(t, c, x.b))
		if ok != x.ok || !sameRow(got, x.want) {
			t.Errorf("BraidPath(%s, %s, %s) = %v, %t, want %v, %t", x.c, x.a, x.b, got, ok, x.want, x.ok)
		}
	}
}

// expectPaths checks the paths from a reduced word to the words that are found, and to others, which are not. It returns how many are found.
func expectPaths(t *testing.T, c [][]int, a []int) int {
	t.Helper()
	words, paths := foundFrom(c, a)
	for k, b := range words {
		got, ok := impl.BraidPath(c, a, b)
		if !ok || !sameRow(got, paths[k]) {
			t.Errorf("BraidPath(%v, %v, %v) = %v, %t, want %v", c, a, b, got, ok, paths[k])
		}
		if end, ok := impl.ApplyBraids(c, a, got); !ok || !sameRow(end, b) {
			t.Errorf("ApplyBraids(%v, %v, %v) = %v, %t, want %v", c, a, got, end, ok, b)
		}
	}
	for _, b := range reducedWordsOf(c, a) {
		if isOneOf(words, b) {
			continue
		}
		if len(words) < 120 {
			t.Errorf("%v: no moves lead from %v to %v", c, a, b)
		}
		if got, ok := impl.BraidPath(c, a, b); ok || len(got) != 0 {
			t.Errorf("BraidPath(%v, %v, %v) = %v, %t, want none", c, a, b, got, ok)
		}
	}
	return len(words)
}

func expectNoPath(t *testing.T, c [][]int, a []int, b []int) {
	t.Helper()
	if got, ok := impl.BraidPath(c, a, b); ok || len(got) != 0 {
		t.Errorf("BraidPath(%v, %v, %v) = %v, %t, want none", c, a, b, got, ok)
	}
}

func TestBraidMovesLeadToEachReducedWord(t *testing.T) {
	manyCartans(func(c [][]int) {
		for _, a := range append(append(wordsUpTo(pointsOf(c), 2), longWords(c)...), longMixes(c)...) {
			if words, ok := impl.ReducedWords(c, a); ok && len(words) < 15 {
				expectPaths(t, c, words[len(words)/2])
			}
		}
	})
	for name := range partSizes {
		c := mustParseCartan(t, namedCartans[name])
		for k, w := range groupOf(c) {
			words, ok := impl.ReducedWords(c, w)
			if !ok || len(words) > 15 && k%15 > 0 {
				continue
			}
			expectPaths(t, c, words[len(words)-1])
			for _, a := range words[:min(len(words), 6)] {
				expectPaths(t, c, a)
			}
		}
	}
}

func TestSearchEndsAtTheLimit(t *testing.T) {
	for _, x := range []struct {
		c, word string
		found   int
	}{
		{namedCartans["F4"], "121343213234", 118},
		{namedCartans["F4"], "1213234321323", 119},
		{namedCartans["A3~"], "12132412324123", 120},
		{twoCircles, "1213434343", 120},
		{twoCircles, "3434343121", 120},
		{twoCircles, "3413241343", 120},
		{twoCircles, "1213434343434", 120},
		{twoCircles, "3431421343434", 120},
		{namedCartans["A4"], "1213214321", 120},
		{namedCartans["A4"], "4342341234", 120},
		{namedCartans["F4"], "1214321324", 120},
		{namedCartans["D4"], "123412341234", 120},
		{namedCartans["B4"], "123412341234123", 120},
		{namedCartans["A3~"], "132413241324132", 120},
		{"2,-2,-2,-1;-1,2,0,0;-1,0,2,-1;-1,0,-1,2", "2343123413123", 120},
	} {
		c := mustParseCartan(t, x.c)
		if got := expectPaths(t, c, mustParseWord(t, c, x.word)); got != x.found {
			t.Errorf("%d words are found from %s of %s, want %d", got, x.word, x.c, x.found)
		}
	}
}

func TestNoPathsBetweenElements(t *testing.T) {
	for _, s := range []string{"2", "2,0;0,2", namedCartans["A2"], namedCartans["A3"], namedCartans["G2"], namedCartans["A1~"], namedCartans["A2~"]} {
		c := mustParseCartan(t, s)
		words := wordsUpTo(pointsOf(c), 4)
		for _, a := range words {
			reduced := inversionCount(c, a) == len(a)
			for _, b := range words {
				// Words of one element that are both reduced are of one length; of these there are few enough to find each.
				want := reduced && len(a) == len(b) && keyOf(c, a) == keyOf(c, b)
				got, ok := impl.BraidPath(c, a, b)
				if ok != want || !ok && len(got) != 0 {
					t.Errorf("BraidPath(%s, %v, %v) = %v, %t", s, a, b, got, ok)
				}
				if end, valid := impl.ApplyBraids(c, a, got); ok && (!valid || !sameRow(end, b)) {
					t.Errorf("ApplyBraids(%s, %v, %v) = %v, %t", s, a, got, end, valid)
				}
			}
		}
	}
}

func TestApplyBraids(t *testing.T) {
	cases := []struct {
		c, word string
		places  []int
		want    string
	}{
		{"2", "e", nil, "e"},
		{"2", "e", []int{0}, ""},
		{"2", "11", nil, "11"},
		{"2", "11", []int{0}, ""},
		{"2,0;0,2", "12", []int{0}, "21"},
		{"2,0;0,2", "12", []int{0, 0}, "12"},
		{"2,0;0,2", "12", []int{0, 0, 0}, "21"},
		{"2,0;0,2", "12", []int{0, 1}, ""},
		{"2,0;0,2", "1122", []int{1, 0, 2, 1}, "2211"},
		{namedCartans["A2"], "121", nil, "121"},
		{namedCartans["A2"], "121", []int{}, "121"},
		{namedCartans["A2"], "121", []int{0}, "212"},
		{namedCartans["A2"], "121", []int{0, 0}, "121"},
		{namedCartans["A2"], "121", []int{1}, ""},
		{namedCartans["A2"], "121", []int{0, 1}, ""},
		{namedCartans["A2"], "121", []int{0, 0, 0, 1}, ""},
		{namedCartans["A2"], "121", []int{1, 0}, ""},
		{namedCartans["A2"], "121", []int{-1}, ""},
		{namedCartans["A2"], "121", []int{0, -1}, ""},
		{namedCartans["A2"], "121", []int{0, 3}, ""},
		{namedCartans["A2"], "121", []int{0, math.MaxInt}, ""},
		{namedCartans["A2"], "121", []int{0, math.MinInt}, ""},
		// Also words that are not reduced are changed.
		{namedCartans["A2"], "1212", []int{1}, "1121"},
		{namedCartans["A2"], "1212", []int{1, 1}, "1212"},
		{namedCartans["A3"], "1321", []int{0, 1}, "3212"},
		{namedCartans["A3"], "1321", []int{1, 0}, ""},
		{namedCartans["A3"], "321323", []int{3, 1, 0}, "132132"},
		{namedCartans["B2"], "12121", []int{0, 1}, ""},
		{namedCartans["B2"], "12121", []int{0}, "21211"},
		{namedCartans["G2"], "121212", []int{0, 0, 0}, "212121"},
		{namedCartans["A1~"], "121212121212121", nil, "121212121212121"},
		{namedCartans["A1~"], "121212121212121", []int{0}, ""},
		{namedCartans["A1~"], "12", []int{0}, ""},
		{twoCircles, "1234", []int{1, 0, 2, 1}, "3412"},
		{twoCircles, "1234", []int{1, 0, 2, 1, 0}, ""},
	}
	for _, x := range cases {
		c := mustParseCartan(t, x.c)
		want, valid := x.want, x.want != ""
		if !valid {
			want = x.word
		}
		if got, ok := impl.ApplyBraids(c, mustParseWord(t, c, x.word), x.places); ok != valid || digitsOf(got) != want {
			t.Errorf("ApplyBraids(%s, %s, %v) = %s, %t, want %s, %t", x.c, x.word, x.places, digitsOf(got), ok, want, valid)
		}
	}
}

func TestApplyBraidsByAllShortLists(t *testing.T) {
	lists := wordsUpTo([]int{-1, 0, 1, 2, 3, 4}, 4)
	for _, x := range []string{"e", "1", "11", "12", "121", "1321", "31213", "12123", "32123"} {
		c := mustParseCartan(t, namedCartans["A3"])
		w := mustParseWord(t, c, x)
		for _, places := range lists {
			want, valid := w, true
			for _, at := range places {
				if want, valid = movedAt(c, want, at); !valid {
					want = w
					break
				}
			}
			if got, ok := impl.ApplyBraids(c, w, places); ok != valid || !sameRow(got, want) {
				t.Errorf("ApplyBraids(A3, %v, %v) = %v, %t, want %v, %t", w, places, got, ok, want, valid)
			}
		}
	}
}

func TestApplyManyBraids(t *testing.T) {
	// There is no limit of the moves.
	c := mustParseCartan(t, namedCartans["G2"])
	w := impl.AlternatingWord(0, 1, 15)
	turned := joined(impl.AlternatingWord(0, 1, 9), impl.AlternatingWord(0, 1, 6))
	if got, ok := impl.ApplyBraids(c, w, repeated(9, 10001)); !ok || !sameRow(got, turned) {
		t.Errorf("10001 moves at 9 change %v to %v, %t", w, got, ok)
	}
	if got, ok := impl.ApplyBraids(c, w, repeated(9, 10000)); !ok || !sameRow(got, w) {
		t.Errorf("10000 moves at 9 change %v to %v, %t", w, got, ok)
	}
	if got, ok := impl.ApplyBraids(c, w, append(repeated(9, 10001), 10)); ok || !sameRow(got, w) {
		t.Errorf("the last one of the moves is not possible, but they change %v to %v, %t", w, got, ok)
	}
}

func TestSquareFree(t *testing.T) {
	cases := []struct {
		w    []int
		want bool
	}{
		{nil, true},
		{[]int{}, true},
		{[]int{0}, true},
		{[]int{0, 0}, false},
		{[]int{0, 1}, true},
		{[]int{0, 1, 0}, true},
		{[]int{0, 1, 0, 1}, true},
		{[]int{0, 0, 1}, false},
		{[]int{0, 1, 1}, false},
		{[]int{0, 1, 1, 0}, false},
		{[]int{0, 1, 2, 0, 1, 2}, true},
		// It gets no matrix: the letters can be any numbers, and more than a word has.
		{[]int{-1, -1}, false},
		{[]int{-1, 1}, true},
		{[]int{9, 7, 9}, true},
		{[]int{math.MinInt, math.MaxInt}, true},
		{[]int{math.MinInt, 0, math.MinInt}, true},
		{[]int{math.MaxInt, math.MaxInt}, false},
		{[]int{0, 1 << 32}, true},
		{repeated(5, 1000), false},
	}
	for _, x := range cases {
		if got := impl.SquareFree(x.w); got != x.want {
			t.Errorf("SquareFree(%v) = %t", x.w, got)
		}
	}
	for n := 1; n < 40; n++ {
		w := make([]int, n)
		for k := range w {
			w[k] = 1000 - 70*k
		}
		if !impl.SquareFree(w) {
			t.Errorf("SquareFree(%v) = false", w)
		}
		for at := 1; at < n; at++ {
			square := copyList(w)
			square[at] = square[at-1]
			if impl.SquareFree(square) {
				t.Errorf("SquareFree(%v) = true", square)
			}
		}
	}
}

func TestReducedWordsAreSquareFree(t *testing.T) {
	for _, s := range namedCartans {
		c := mustParseCartan(t, s)
		for _, w := range wordsUpTo(pointsOf(c), 4) {
			words, ok := impl.ReducedWords(c, w)
			if !ok || len(words) == 0 {
				t.Fatalf("ReducedWords(%s, %v) = %v, %t", s, w, words, ok)
			}
			for _, x := range words {
				if !impl.SquareFree(x) || !impl.IsReduced(c, x) || !impl.AreSame(c, x, w) {
					t.Errorf("ReducedWords(%s, %v) has %v", s, w, x)
				}
			}
		}
	}
}

func TestBraidMovesOfNoWords(t *testing.T) {
	eachNoWord(func(c [][]int, w []int) {
		for _, at := range []int{-1, 0, 1, 2, len(w) - 2, len(w) - 1, len(w), math.MinInt, math.MaxInt} {
			if got, ok := impl.BraidAt(c, w, at); ok || !sameRow(got, w) {
				t.Errorf("BraidAt(%v, %v, %d) = %v, %t", c, w, at, got, ok)
			}
		}
		if got := impl.BraidPlaces(c, w); len(got) != 0 {
			t.Errorf("BraidPlaces(%v, %v) = %v, want none", c, w, got)
		}
		if got, ok := impl.ReducedWords(c, w); ok || len(got) != 0 {
			t.Errorf("ReducedWords(%v, %v) = %v, %t, want none", c, w, got, ok)
		}
		for _, other := range [][]int{nil, w, {0}} {
			expectNoPath(t, c, w, other)
			expectNoPath(t, c, other, w)
		}
		for _, places := range [][]int{nil, {}, {0}, {0, 0}, {-1}} {
			if got, ok := impl.ApplyBraids(c, w, places); ok || !sameRow(got, w) {
				t.Errorf("ApplyBraids(%v, %v, %v) = %v, %t", c, w, places, got, ok)
			}
		}
	})
}

func TestMovesOfListsThatAreNoWords(t *testing.T) {
	// Here a move would be possible, but another letter is no point, or there are too many letters.
	for _, s := range []string{"2,0;0,2", namedCartans["A2"], namedCartans["G2"], namedCartans["A3"], namedCartans["D4"]} {
		c := mustParseCartan(t, s)
		m := impl.BondOf(c, 0, 1)
		lists := [][]int{impl.AlternatingWord(0, 1, 15)}
		lists[0] = append(lists[0], 1)
		for _, letter := range []int{-1, len(c), 4, math.MinInt, math.MaxInt} {
			lists = append(lists, append(impl.AlternatingWord(0, 1, m), letter), append([]int{letter}, impl.AlternatingWord(0, 1, m)...))
		}
		for _, w := range lists {
			for at := -1; at <= len(w); at++ {
				if got, ok := impl.BraidAt(c, w, at); ok || !sameRow(got, w) {
					t.Errorf("BraidAt(%s, %v, %d) = %v, %t", s, w, at, got, ok)
				}
				if got, ok := impl.ApplyBraids(c, w, []int{at}); ok || !sameRow(got, w) {
					t.Errorf("ApplyBraids(%s, %v, [%d]) = %v, %t", s, w, at, got, ok)
				}
			}
			if got := impl.BraidPlaces(c, w); len(got) != 0 {
				t.Errorf("BraidPlaces(%s, %v) = %v, want none", s, w, got)
			}
		}
	}
}

func TestBraidResultsAreFresh(t *testing.T) {
	for name, s := range namedCartans {
		c := roomyRows(mustParseCartan(t, s))
		lists := append(append(wordsUpTo(pointsOf(c), 3), longWords(c)...), noWords(len(c))...)
		for _, list := range append(lists, longMixes(c)...) {
			w, whole := roomyList(list)
			rows := [][]int{whole}
			for _, row := range c {
				rows = append(rows, row[:cap(row)])
			}
			var results [][]int
			for range 2 {
				words, _ := impl.ReducedWords(c, w)
				results = append(append(results, words...), impl.BraidPlaces(c, w))
				for _, at := range []int{-1, 0, 1, len(w) / 2, len(w) - 2} {
					moved, _ := impl.BraidAt(c, w, at)
					results = append(results, moved)
				}
				for _, l := range [][]int{nil, {0}, {0, 0}, {0, -1}, {-1}} {
					places, wholePlaces := roomyList(l)
					moved, _ := impl.ApplyBraids(c, w, places)
					results = append(results, moved)
					expectWord(t, "the places", wholePlaces, append(copyList(l), 77, 77, 77))
				}
				for k := 0; k < len(words); k += 1 + len(words)/2 {
					b, wholeOther := roomyList(words[k])
					path, _ := impl.BraidPath(c, w, b)
					results = append(results, path)
					expectWord(t, "the other word", wholeOther, append(copyList(words[k]), 77, 77, 77))
				}
			}
			if impl.SquareFree(w); !sameRow(whole, append(copyList(list), 77, 77, 77)) || impl.FormatCartan(c) != s {
				t.Errorf("%s: the arguments are now %v and %v", name, c, whole)
			}
			expectFresh(t, "the results for "+name, results, rows)
		}
	}
}

func TestSearchIsRepeatable(t *testing.T) {
	c := mustParseCartan(t, namedCartans["D4"])
	a := mustParseWord(t, c, "123412341234")
	words, paths := foundFrom(c, a)
	last := len(words) - 1
	for range 20 {
		if got, ok := impl.BraidPath(c, a, words[last]); !ok || !sameRow(got, paths[last]) {
			t.Errorf("BraidPath(D4, %v, %v) = %v, %t, want %v", a, words[last], got, ok, paths[last])
		}
	}
}
