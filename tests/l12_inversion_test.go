package tests

import (
	"strings"
	"testing"

	"loop.example/g02076/impl"
)

func TestFormatRoots(t *testing.T) {
	cases := []struct {
		l    [][]int
		want string
	}{
		{nil, "none"},
		{[][]int{}, "none"},
		{[][]int{{0}}, "0"},
		{[][]int{{1, 0}}, "1,0"},
		{[][]int{{1, 0}, {0, 1}, {1, 1}}, "1,0 0,1 1,1"},
		{[][]int{{-1, -2, -3, -4}, {10, -1000, 1000, 0}}, "-1,-2,-3,-4 10,-1000,1000,0"},
		// Equal roots, another order, and lists of other lengths are all formatted as they are.
		{[][]int{{1, 1}, {0, 1}, {1, 1}}, "1,1 0,1 1,1"},
		{[][]int{{1}, {2, 3}, {4, 5, 6, 7, 8}}, "1 2,3 4,5,6,7,8"},
		{[][]int{nil}, ""},
		{[][]int{{1}, {}, {2}}, "1  2"},
	}
	for _, x := range cases {
		if got := impl.FormatRoots(x.l); got != x.want {
			t.Errorf("FormatRoots(%v) = %q, want %q", x.l, got, x.want)
		}
	}
	many := make([][]int, 300)
	for k := range many {
		many[k] = []int{k, -k}
	}
	if got := impl.FormatRoots(many); got != spaceSeparated(many) || strings.Count(got, " ") != 299 {
		t.Errorf("FormatRoots of 300 roots = %q", got)
	}
}

func TestFormatRootsKeepsItsArgument(t *testing.T) {
	l := roomyRows([][]int{{1, 2}, {3, 4}})
	if got := impl.FormatRoots(l); got != "1,2 3,4" {
		t.Errorf("FormatRoots of a part of a longer list = %q", got)
	}
	if last := l[1][:5]; !sameRows(l, [][]int{{1, 2}, {3, 4}}) || !sameRow(last, []int{3, 4, 77, 77, 77}) {
		t.Errorf("the argument is now %v, with %v behind it", l, last)
	}
}
