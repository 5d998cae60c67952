package tests

import (
	"math"
	"testing"

	"loop.example/g02076/impl"
)

// leftOut returns the letters whose indices are not among some.
func leftOut(w []int, indices ...int) []int {
	var out []int
	for k, letter := range w {
		if !contains(indices, k) {
			out = append(out, letter)
		}
	}
	return out
}

// exchangesOf returns all indices at which a letter can be left out so that the element is that of i followed by the word.
func exchangesOf(c [][]int, w []int, i int) []int {
	var out []int
	goal := keyOf(c, joined([]int{i}, w))
	for at := range w {
		if keyOf(c, leftOut(w, at)) == goal {
			out = append(out, at)
		}
	}
	return out
}

// firstDeletion returns the first two indices at which letters can be left out, or -1 and -1.
func firstDeletion(c [][]int, w []int) (int, int) {
	goal := keyOf(c, w)
	for i := range w {
		for j := i + 1; j < len(w); j++ {
			if keyOf(c, leftOut(w, i, j)) == goal {
				return i, j
			}
		}
	}
	return -1, -1
}

func replayed(w []int, l []int) ([]int, bool) {
	out := copyList(w)
	for ; len(l) > 1; l = l[2:] {
		if l[0] < 0 || l[1] >= len(out) || l[0] >= l[1] {
			return w, false
		}
		out = leftOut(out, l[0], l[1])
	}
	return out, len(l) == 0
}

// longMixes are words of 13 to 15 letters with reduced parts of many lengths.
func longMixes(c [][]int) [][]int {
	last := len(c) - 1
	zigzag := impl.AlternatingWord(0, last, 14)
	return [][]int{
		append(repeated(last, 1), zigzag...),
		append(copyList(zigzag), last),
		append(copyList(zigzag), 0),
		append(append([]int{last / 2}, zigzag[:13]...), last/2),
		append(append([]int{last}, impl.AlternatingWord(0, last/2, 13)...), last),
		append(copyList(zigzag[:7]), impl.ReverseWord(zigzag[:7])...),
		append(copyList(zigzag[:6]), zigzag[1:8]...),
	}
}

// lettersThenLast is a word of 15 letters that has a descent at the last one if the last point has no neighbours among the first two, and these have an infinite bond.
func lettersThenLast(c [][]int) []int {
	return append(impl.AlternatingWord(0, 1, 14), len(c)-1)
}

func TestExchangeIndex(t *testing.T) {
	cases := []struct {
		c, word string
		letter  int
		want    int
	}{
		{"2", "e", 0, -1},
		{"2", "1", 0, 0},
		{"2", "1", 1, -1},
		{"2", "11", 0, -1},
		{"2", "111", 0, -1},
		{namedCartans["A2"], "e", 0, -1},
		{namedCartans["A2"], "2", 1, 0},
		{namedCartans["A2"], "2", 0, -1},
		{namedCartans["A2"], "12", 0, 0},
		{namedCartans["A2"], "12", 1, -1},
		{namedCartans["A2"], "121", 0, 0},
		// A descent at the last letter: 2 followed by 121 is 12.
		{namedCartans["A2"], "121", 1, 2},
		{namedCartans["A2"], "212", 0, 2},
		{namedCartans["A2"], "212", 1, 0},
		// These are not reduced, though one letter could be exchanged.
		{namedCartans["A2"], "2121", 0, -1},
		{namedCartans["A2"], "2121", 1, -1},
		{namedCartans["A2"], "1212", 0, -1},
		{namedCartans["A3"], "13", 2, 1},
		{namedCartans["A3"], "31", 0, 1},
		{namedCartans["A3"], "1321", 2, 1},
		{namedCartans["A3"], "3121", 1, -1},
		{namedCartans["A3"], "2132", 1, 0},
		{namedCartans["A3"], "121321", 0, 0},
		{namedCartans["A3"], "121321", 1, 2},
		{namedCartans["A3"], "121321", 2, 5},
		{namedCartans["A4"], "134", 3, -1},
		{namedCartans["A4"], "1243", 3, 2},
		{namedCartans["D4"], "134", 0, 0},
		{namedCartans["D4"], "134", 2, 1},
		{namedCartans["D4"], "134", 3, 2},
		{namedCartans["B2"], "1212", 1, 3},
		{namedCartans["B2"], "212", 0, -1},
		{namedCartans["G2"], "121212", 1, 5},
		{namedCartans["G2"], "12121", 1, -1},
		{namedCartans["A1~"], "121212121212121", 0, 0},
		{namedCartans["A1~"], "121212121212121", 1, -1},
		{namedCartans["A2~"], "123123123123123", 0, 0},
		// With the letter in front, these have 16 letters.
		{"2,-2,0;-2,2,0;0,0,2", "121212121212123", 2, 14},
		{"2,-2,0;-2,2,0;0,0,2", "121212121212132", 2, 13},
		{"2,-3,0,0;-3,2,0,0;0,0,2,-1;0,0,-1,2", "121212121212343", 3, 14},
		{"2,-3,0,0;-3,2,0,0;0,0,2,-1;0,0,-1,2", "342121212121213", 3, 14},
		{"2,-3,0,0;-3,2,0,0;0,0,2,-1;0,0,-1,2", "342121212121213", 1, 2},
	}
	for _, x := range cases {
		c := mustParseCartan(t, x.c)
		if got := impl.ExchangeIndex(c, mustParseWord(t, c, x.word), x.letter); got != x.want {
			t.Errorf("ExchangeIndex(%s, %s, %d) = %d, want %d", x.c, x.word, x.letter, got, x.want)
		}
	}
}

// expectExchanges checks that exactly the descents of a reduced word can be exchanged, each for exactly one letter. It returns how many are exchanged for the last one.
func expectExchanges(t *testing.T, c [][]int, w []int) int {
	t.Helper()
	length := inversionCount(c, w)
	atLast := 0
	for i := range c {
		got := impl.ExchangeIndex(c, w, i)
		want := -1
		if length == len(w) && inversionCount(c, joined([]int{i}, w)) < length {
			all := exchangesOf(c, w, i)
			if len(all) != 1 {
				t.Fatalf("%v: the descent %d of %v can be exchanged at %v", c, i, w, all)
			}
			want = all[0]
		}
		if got != want {
			t.Errorf("ExchangeIndex(%v, %v, %d) = %d, want %d", c, w, i, got, want)
		}
		if got >= 0 && got == len(w)-1 {
			atLast++
		}
	}
	for _, i := range []int{-2, -1, len(c), len(c) + 1, 4, 5, 1 << 32, math.MinInt, math.MaxInt} {
		if got := impl.ExchangeIndex(c, w, i); got != -1 {
			t.Errorf("ExchangeIndex(%v, %v, %d) = %d, want -1", c, w, i, got)
		}
	}
	return atLast
}

func TestEachDescentIsExchanged(t *testing.T) {
	atLast := map[int]int{}
	check := func(c [][]int, words [][]int) {
		for _, w := range words {
			atLast[len(w)] += expectExchanges(t, c, w)
		}
	}
	manyCartans(func(c [][]int) {
		check(c, append(append(wordsUpTo(pointsOf(c), 3), longWords(c)...), longMixes(c)...))
		if len(c) > 1 {
			check(c, [][]int{lettersThenLast(c)})
		}
	})
	for _, s := range namedCartans {
		c := mustParseCartan(t, s)
		check(c, wordsUpTo(pointsOf(c), 5))
	}
	if atLast[1] == 0 || atLast[2] == 0 || atLast[3] == 0 || atLast[4] == 0 || atLast[15] == 0 {
		t.Errorf("these numbers of letters have a descent at the last one: %v", atLast)
	}
}

func TestExchangesOfFiniteGroups(t *testing.T) {
	for name, size := range partSizes {
		c := mustParseCartan(t, namedCartans[name])
		atLast := 0
		for _, w := range groupOf(c) {
			if len(w) <= 15 {
				atLast += expectExchanges(t, c, w)
			}
			back := impl.ReverseWord(w)
			if size < 200 {
				atLast += expectExchanges(t, c, back)
			}
		}
		if atLast == 0 {
			t.Errorf("%s: no descent is at a last letter", name)
		}
	}
}

func TestExchangesOfDihedralGroups(t *testing.T) {
	eachCartan(2, 1, func(c [][]int) {
		m := impl.BondOf(c, 0, 1)
		for n := range 16 {
			w := impl.AlternatingWord(0, 1, n)
			first, second := -1, -1
			if n > 0 && (m == 0 || n <= m) {
				first = 0
			}
			// Only the longest element has the other letter as a descent too, and that is exchanged for the last one.
			if n == m {
				second = n - 1
			}
			if a, b := impl.ExchangeIndex(c, w, 0), impl.ExchangeIndex(c, w, 1); a != first || b != second {
				t.Errorf("%v: the letters are exchanged at %d and %d of %v, want %d and %d", c, a, b, w, first, second)
			}
		}
	})
}

func TestDeleteAt(t *testing.T) {
	cases := []struct {
		w    []int
		at   int
		want []int
	}{
		{nil, 0, nil},
		{nil, -1, nil},
		{[]int{}, 0, nil},
		{[]int{3}, 0, nil},
		{[]int{3}, 1, []int{3}},
		{[]int{3}, -1, []int{3}},
		{[]int{0, 1, 2}, 0, []int{1, 2}},
		{[]int{0, 1, 2}, 1, []int{0, 2}},
		{[]int{0, 1, 2}, 2, []int{0, 1}},
		{[]int{0, 1, 2}, 3, []int{0, 1, 2}},
		{[]int{0, 1, 2}, -1, []int{0, 1, 2}},
		{[]int{0, 1, 2}, math.MaxInt, []int{0, 1, 2}},
		{[]int{0, 1, 2}, math.MinInt, []int{0, 1, 2}},
		{[]int{0, 1, 2}, 1 << 32, []int{0, 1, 2}},
		{[]int{1, 1, 1}, 1, []int{1, 1}},
		{[]int{math.MinInt, 9, math.MaxInt}, 1, []int{math.MinInt, math.MaxInt}},
	}
	for _, x := range cases {
		if got := impl.DeleteAt(x.w, x.at); !sameRow(got, x.want) {
			t.Errorf("DeleteAt(%v, %d) = %v, want %v", x.w, x.at, got, x.want)
		}
	}
	// It gets no matrix: the list can be longer than a word and have any letters.
	for n := range 40 {
		w := make([]int, n)
		for k := range w {
			w[k] = 1000 - 70*k
		}
		for at := -2; at <= n+2; at++ {
			if got := impl.DeleteAt(w, at); !sameRow(got, leftOut(w, at)) {
				t.Errorf("DeleteAt(%v, %d) = %v", w, at, got)
			}
		}
	}
}

func TestDeletionPair(t *testing.T) {
	cases := []struct {
		c, word string
		i, j    int
	}{
		{"2", "e", -1, -1},
		{"2", "1", -1, -1},
		{"2", "11", 0, 1},
		{"2", "111111111111111", 0, 1},
		{namedCartans["A2"], "121", -1, -1},
		{namedCartans["A2"], "212", -1, -1},
		{namedCartans["A2"], "1221", 0, 3},
		{namedCartans["A2"], "1211", 2, 3},
		{namedCartans["A2"], "1121", 0, 1},
		{namedCartans["A2"], "2121", 0, 3},
		{namedCartans["A2"], "1212", 0, 3},
		{namedCartans["A2"], "122", 1, 2},
		// Also 2 and 3, which are nearer to one another, but come later.
		{namedCartans["A2"], "12112", 1, 4},
		{namedCartans["A3"], "131", 0, 2},
		{namedCartans["A3"], "2133", 2, 3},
		{namedCartans["A3"], "21313", 1, 3},
		{namedCartans["A3"], "121321", -1, -1},
		{namedCartans["A3"], "1213212", 2, 6},
		{namedCartans["A3"], "3121321", 0, 6},
		{namedCartans["B2"], "1212", -1, -1},
		{namedCartans["B2"], "12121", 0, 4},
		{namedCartans["G2"], "121212", -1, -1},
		{namedCartans["G2"], "2121212", 0, 6},
		{namedCartans["A1~"], "121212121212121", -1, -1},
		{namedCartans["A1~"], "121212121212122", 13, 14},
		{namedCartans["A1~"], "112121212121212", 0, 1},
		{namedCartans["A1~"], "121212112121212", 0, 13},
		{"2,-2,0;-2,2,0;0,0,2", "312121212121213", 0, 14},
		{"2,-2,0;-2,2,0;0,0,2", "132121212121213", 1, 14},
		{"2,-2,0;-2,2,0;0,0,2", "121212312121213", 6, 14},
	}
	for _, x := range cases {
		c := mustParseCartan(t, x.c)
		i, j, ok := impl.DeletionPair(c, mustParseWord(t, c, x.word))
		if i != x.i || j != x.j || ok != (x.i >= 0) {
			t.Errorf("DeletionPair(%s, %s) = %d, %d, %t, want %d, %d", x.c, x.word, i, j, ok, x.i, x.j)
		}
	}
}

// expectDeletions checks the first pair, and the way to the reduced word by first pairs.
func expectDeletions(t *testing.T, c [][]int, w []int) {
	t.Helper()
	length := inversionCount(c, w)
	left, indices := copyList(w), []int(nil)
	for {
		i, j := firstDeletion(c, left)
		if (i >= 0) != (len(left) > length) {
			t.Fatalf("%v: %v has the length %d, but letters of it can be left out at %d and %d", c, left, length, i, j)
		}
		if a, b, ok := impl.DeletionPair(c, left); a != i || b != j || ok != (i >= 0) {
			t.Errorf("DeletionPair(%v, %v) = %d, %d, %t, want %d, %d", c, left, a, b, ok, i, j)
		}
		if i < 0 {
			break
		}
		left = leftOut(left, i, j)
		indices = append(indices, i, j)
	}
	short, l := impl.ReduceByDeletion(c, w)
	if !sameRow(short, left) || !sameRow(l, indices) {
		t.Errorf("ReduceByDeletion(%v, %v) = %v, %v, want %v, %v", c, w, short, l, left, indices)
	}
	if again, ok := impl.ReplayDeletions(w, l); !ok || !sameRow(again, short) {
		t.Errorf("ReplayDeletions(%v, %v) = %v, %t, want %v", w, l, again, ok, short)
	}
	if keyOf(c, short) != keyOf(c, w) || !impl.IsReduced(c, short) {
		t.Errorf("ReduceByDeletion(%v, %v) = %v, which is another element or not reduced", c, w, short)
	}
}

func TestWordsLoseTwoLettersUntilTheyAreReduced(t *testing.T) {
	check := func(c [][]int, words [][]int) {
		for _, w := range words {
			expectDeletions(t, c, w)
		}
	}
	manyCartans(func(c [][]int) {
		check(c, append(append(wordsUpTo(pointsOf(c), 3), longWords(c)...), longMixes(c)...))
	})
	for _, s := range namedCartans {
		c := mustParseCartan(t, s)
		check(c, append(wordsUpTo(pointsOf(c), 5), squaresOf(c)...))
	}
	eachCartan(2, 1, func(c [][]int) { check(c, wordsUpTo(pointsOf(c), 9)) })
}

func TestDeletionsOfFiniteGroups(t *testing.T) {
	for name, size := range partSizes {
		if size > 400 {
			continue
		}
		c := mustParseCartan(t, namedCartans[name])
		for k, w := range groupOf(c) {
			if len(w) > 14 || size > 50 && k%7 != 0 {
				continue
			}
			expectDeletions(t, c, w)
			for i := range c {
				expectDeletions(t, c, joined([]int{i}, w))
				expectDeletions(t, c, joined(w, []int{i}))
			}
		}
	}
}

func TestDescentsAreExchangedByDeletion(t *testing.T) {
	// A descent in front of a reduced word: it goes together with the letter that it is exchanged for.
	manyCartans(func(c [][]int) {
		for _, w := range append(wordsUpTo(pointsOf(c), 3), longWords(c)...) {
			if len(w) > 14 || !impl.IsReduced(c, w) {
				continue
			}
			for i := range c {
				at := impl.ExchangeIndex(c, w, i)
				a, b, ok := impl.DeletionPair(c, joined([]int{i}, w))
				if at >= 0 && (!ok || a != 0 || b != at+1) || at < 0 && ok {
					t.Errorf("%v: %d is exchanged at %d of %v, but the deletion pair is %d and %d", c, i, at, w, a, b)
				}
				if at >= 0 && !impl.AreSame(c, joined([]int{i}, w), impl.DeleteAt(w, at)) {
					t.Errorf("%v: %v without the letter at %d is not %d followed by it", c, w, at, i)
				}
			}
		}
	})
}

func TestReduceByDeletion(t *testing.T) {
	cases := []struct {
		c, word, want string
		l             []int
	}{
		{"2", "e", "e", nil},
		{"2", "1", "1", nil},
		{"2", "11", "e", []int{0, 1}},
		{"2", "111111111111111", "1", []int{0, 1, 0, 1, 0, 1, 0, 1, 0, 1, 0, 1, 0, 1}},
		{namedCartans["A2"], "212", "212", nil},
		{namedCartans["A2"], "2121", "12", []int{0, 3}},
		{namedCartans["A2"], "112212", "12", []int{0, 1, 0, 1}},
		{namedCartans["A2"], "12122", "212", []int{0, 3}},
		{namedCartans["A2"], "122112", "12", []int{0, 3, 0, 1}},
		{namedCartans["A3"], "3213", "3213", nil},
		{namedCartans["A3"], "32133", "321", []int{3, 4}},
		{namedCartans["A3"], "21313", "2", []int{1, 3, 1, 2}},
		{namedCartans["G2"], "21212121", "1212", []int{0, 6, 4, 5}},
		{namedCartans["A1~"], "121212121212122", "1212121212121", []int{13, 14}},
		{namedCartans["A1~"], "121212112121212", "2", []int{0, 13, 0, 11, 0, 9, 0, 7, 0, 5, 0, 3, 0, 1}},
		{"2,-2,0;-2,2,0;0,0,2", "312121212121213", "1212121212121", []int{0, 14}},
	}
	for _, x := range cases {
		c := mustParseCartan(t, x.c)
		short, l := impl.ReduceByDeletion(c, mustParseWord(t, c, x.word))
		if digitsOf(short) != x.want || !sameRow(l, x.l) {
			t.Errorf("ReduceByDeletion(%s, %s) = %s, %v, want %s, %v", x.c, x.word, digitsOf(short), l, x.want, x.l)
		}
	}
}

func TestReplayDeletions(t *testing.T) {
	w := []int{10, 20, 30, 40}
	cases := []struct {
		l, want []int
		ok      bool
	}{
		{nil, w, true},
		{[]int{}, w, true},
		{[]int{0, 1}, []int{30, 40}, true},
		{[]int{0, 3}, []int{20, 30}, true},
		{[]int{1, 2}, []int{10, 40}, true},
		{[]int{2, 3}, []int{10, 20}, true},
		// The indices of a pair are those of the letters that the pairs before have left.
		{[]int{0, 1, 0, 1}, nil, true},
		{[]int{1, 3, 0, 1}, nil, true},
		{[]int{0, 1, 2, 3}, w, false},
		{[]int{0, 1, 1, 2}, w, false},
		{[]int{0, 1, 0, 1, 0, 1}, w, false},
		{[]int{1, 0}, w, false},
		{[]int{0, 0}, w, false},
		{[]int{3, 3}, w, false},
		{[]int{-1, 0}, w, false},
		{[]int{-2, -1}, w, false},
		{[]int{0, 4}, w, false},
		{[]int{3, 4}, w, false},
		{[]int{4, 5}, w, false},
		{[]int{0, 1, 1, 0}, w, false},
		{[]int{0, 1, 0, 0}, w, false},
		{[]int{math.MinInt, 0}, w, false},
		{[]int{0, math.MaxInt}, w, false},
		{[]int{0, 1 << 32}, w, false},
		{[]int{0, math.MinInt}, w, false},
		{[]int{math.MaxInt, math.MinInt}, w, false},
		// The last one of an odd number is ignored, whatever it is.
		{[]int{0}, w, false},
		{[]int{-1}, w, false},
		{[]int{7}, w, false},
		{[]int{0, 1, 0}, []int{30, 40}, false},
		{[]int{0, 1, math.MaxInt}, []int{30, 40}, false},
		{[]int{2, 3, -1}, []int{10, 20}, false},
		{[]int{0, 1, 0, 1, 0}, nil, false},
		{[]int{1, 0, 0}, w, false},
		{[]int{0, 1, 1, 2, 0}, w, false},
	}
	for _, x := range cases {
		if got, ok := impl.ReplayDeletions(w, x.l); ok != x.ok || !sameRow(got, x.want) {
			t.Errorf("ReplayDeletions(%v, %v) = %v, %t, want %v, %t", w, x.l, got, ok, x.want, x.ok)
		}
	}
}

func TestReplayOfAllShortLists(t *testing.T) {
	for n := range 6 {
		w := []int{math.MinInt, 9, 2, 2, -3}[:n]
		for _, l := range wordsUpTo([]int{-1, 0, 1, 2, 3, 4, 5}, 5) {
			want, valid := replayed(w, l)
			if got, ok := impl.ReplayDeletions(w, l); ok != valid || !sameRow(got, want) {
				t.Errorf("ReplayDeletions(%v, %v) = %v, %t, want %v, %t", w, l, got, ok, want, valid)
			}
		}
	}
}

func TestReplayOfLongLists(t *testing.T) {
	// It gets no matrix: there is no limit of the letters.
	var w, front, back, outer []int
	for k := range 300 {
		w = append(w, 7*k-50)
	}
	for k := range 100 {
		front = append(front, 0, 1)
		back = append(back, 298-2*k, 299-2*k)
		outer = append(outer, 0, 299-2*k)
	}
	for _, x := range []struct{ l, want []int }{{front, w[200:]}, {back, w[:100]}, {outer, w[100:200]}} {
		if got, ok := impl.ReplayDeletions(w, x.l); !ok || !sameRow(got, x.want) {
			t.Errorf("ReplayDeletions of 200 of 300 letters = %v, %t", got, ok)
		}
		if got, ok := impl.ReplayDeletions(w, append(copyList(x.l), 5)); ok || !sameRow(got, x.want) {
			t.Errorf("ReplayDeletions by 201 indices = %v, %t", got, ok)
		}
		if got, ok := impl.ReplayDeletions(w, append(copyList(x.l), 0, 100)); ok || !sameRow(got, w) {
			t.Errorf("ReplayDeletions with an index behind the last letter = %v, %t", got, ok)
		}
	}
}

func expectNoExchange(t *testing.T, c [][]int, w []int) {
	t.Helper()
	for _, i := range []int{-1, 0, 1, 2, 3, 4, math.MinInt, math.MaxInt} {
		if got := impl.ExchangeIndex(c, w, i); got != -1 {
			t.Errorf("ExchangeIndex(%v, %v, %d) = %d, want -1", c, w, i, got)
		}
	}
	if i, j, ok := impl.DeletionPair(c, w); ok || i != -1 || j != -1 {
		t.Errorf("DeletionPair(%v, %v) = %d, %d, %t, want none", c, w, i, j, ok)
	}
	if same, l := impl.ReduceByDeletion(c, w); !sameRow(same, w) || len(l) != 0 {
		t.Errorf("ReduceByDeletion(%v, %v) = %v, %v", c, w, same, l)
	}
}

func TestExchangesOfNoWords(t *testing.T) {
	eachNoWord(func(c [][]int, w []int) { expectNoExchange(t, c, w) })
}

func TestExchangeResultsAreFresh(t *testing.T) {
	for name, s := range namedCartans {
		c := roomyRows(mustParseCartan(t, s))
		lists := append(append(wordsUpTo(pointsOf(c), 2), longWords(c)...), noWords(len(c))...)
		for _, list := range append(lists, longMixes(c)...) {
			w, whole := roomyList(list)
			for i := range c {
				impl.ExchangeIndex(c, w, i)
			}
			impl.DeletionPair(c, w)
			var results [][]int
			for range 2 {
				short, indices := impl.ReduceByDeletion(c, w)
				results = append(results, short, indices)
				for _, at := range []int{-1, 0, len(w) / 2, len(w) - 1, len(w)} {
					results = append(results, impl.DeleteAt(w, at))
				}
				for _, l := range [][]int{nil, {0}, {0, 1}, {len(w) - 2, len(w) - 1}, {0, len(w) - 1}, {0, 1, 0}, {len(w) - 2, len(w) - 1, 0}, {1, 0}, {0, 1, 1, 0}} {
					l, wholeList := roomyList(l)
					left, _ := impl.ReplayDeletions(w, l)
					results = append(results, left)
					expectWord(t, "the indices", wholeList, append(copyList(l), 77, 77, 77))
				}
			}
			if !sameRow(whole, append(copyList(list), 77, 77, 77)) || impl.FormatCartan(c) != s {
				t.Errorf("%s: the arguments are now %v and %v", name, c, whole)
			}
			rows := [][]int{whole}
			for _, row := range c {
				rows = append(rows, row[:cap(row)])
			}
			expectFresh(t, "the results for "+name, results, rows)
		}
	}
}
