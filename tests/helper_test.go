package tests

import (
	"reflect"
	"slices"
	"strconv"
	"strings"
	"testing"

	"loop.example/g01114/impl"
)

// The functions below are written another way than those of impl, to hold them against each other.

// knownCounts are the numbers of partitions of 0, 1, .., 28.
var knownCounts = []int{1, 1, 2, 3, 5, 7, 11, 15, 22, 30, 42, 56, 77, 101, 135, 176, 231, 297, 385, 490, 627, 792, 1002, 1255, 1575, 1958, 2436, 3010, 3718}

// pilesOf returns, for each number of cards up to MaxCards, all piles in order:
// those of one card more come of all ways to put it on a pile or beside them.
func pilesOf() [][][]int {
	all := [][][]int{{{}}}
	for n := 1; n <= impl.MaxCards; n++ {
		met := map[string][]int{}
		for _, a := range all[n-1] {
			for i := 0; i <= len(a); i++ {
				b := append(slices.Clone(a), 0)
				b[i]++
				b = falling(b)
				met[key(b)] = b
			}
		}
		var next [][]int
		for _, b := range met {
			next = append(next, b)
		}
		slices.SortFunc(next, func(a, b []int) int { return slices.Compare(b, a) })
		all = append(all, next)
	}
	return all
}

// falling returns the numbers other than 0, the greatest first.
func falling(a []int) []int {
	b := slices.DeleteFunc(slices.Clone(a), func(x int) bool { return x == 0 })
	slices.Sort(b)
	slices.Reverse(b)
	return b
}

func key(a []int) string {
	words := []string{}
	for _, x := range a {
		words = append(words, strconv.Itoa(x))
	}
	return strings.Join(words, "+")
}

func plainStep(a []int) []int {
	b := []int{len(a)}
	for _, x := range a {
		b = append(b, x-1)
	}
	return falling(b)
}

func plainSide(a []int) []int {
	var b []int
	for i := 0; i < impl.MaxCards; i++ {
		higher := 0
		for _, x := range a {
			if x > i {
				higher++
			}
		}
		b = append(b, higher)
	}
	return falling(b)
}

func total(a []int) int {
	sum := 0
	for _, x := range a {
		sum += x
	}
	return sum
}

func ones(n int) []int { return slices.Repeat([]int{1}, n) }

// sameLists reports whether lists of lists are alike, where nil and empty are one value.
func sameLists(a, b [][]int) bool { return slices.EqualFunc(a, b, slices.Equal[[]int]) }

// wantList checks a call that returns a list.
func wantList(t *testing.T, what string, want []int) func([]int, bool) {
	return func(got []int, ok bool) {
		t.Helper()
		if !ok || !slices.Equal(got, want) {
			t.Errorf("%s: %v %v, want %v", what, got, ok, want)
		}
	}
}

// wantLists checks a call that returns lists.
func wantLists(t *testing.T, what string, want [][]int) func([][]int, bool) {
	return func(got [][]int, ok bool) {
		t.Helper()
		if !ok || !sameLists(got, want) {
			t.Errorf("%s: %v %v, want %v", what, got, ok, want)
		}
	}
}

// wantInt checks a call that returns a number.
func wantInt(t *testing.T, what string, want int) func(int, bool) {
	return func(got int, ok bool) {
		t.Helper()
		if !ok || got != want {
			t.Errorf("%s: %v %v, want %v", what, got, ok, want)
		}
	}
}

// wantFail checks that a call fails and that every result is zero.
func wantFail(t *testing.T, what string) func(...any) {
	return func(results ...any) {
		t.Helper()
		for _, r := range results {
			if !isZero(reflect.ValueOf(r)) {
				t.Errorf("%s: %v, want a failure", what, results)
				return
			}
		}
	}
}

// isZero reports whether a value is zero, where an empty slice is nil.
func isZero(v reflect.Value) bool {
	if v.Kind() == reflect.Slice {
		return v.Len() == 0
	}
	return v.IsZero()
}
