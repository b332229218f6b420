package tests

import (
	"fmt"
	"math"
	"slices"
	"testing"

	"loop.example/g01114/impl"
)

// badBack are numbers that are not in 0..MaxBack.
var badBack = []int{-1, 61, 1000, 1 << 32, 1<<32 + 1, math.MaxInt, math.MinInt}

// A branch is piles of a tree, and in how many steps their play comes to its root.
type branch struct {
	piles []int
	steps int
}

// plainTrees returns the trees of all piles of some cards, in order: each play, up to the first cyclic piles,
// puts the piles where it begins into the trees of all that it comes to.
func plainTrees(all [][]int) map[string][]branch {
	trees := map[string][]branch{}
	for _, start := range all {
		a := start
		for steps := range plainOrbit(start).tail + 1 {
			trees[key(a)] = append(trees[key(a)], branch{start, steps})
			a = plainStep(a)
		}
	}
	return trees
}

func pilesIn(tree []branch) [][]int {
	var lists [][]int
	for _, b := range tree {
		lists = append(lists, b.piles)
	}
	return lists
}

// farthestOf returns the first one of the branches that are farthest from the root.
func farthestOf(tree []branch) branch {
	farthest := tree[0]
	for _, b := range tree {
		if b.steps > farthest.steps {
			farthest = b
		}
	}
	return farthest
}

// plainLine returns a and first pasts in the trees.
func plainLine(trees map[string][]branch, a []int) [][]int {
	line := [][]int{a}
	for {
		tree := trees[key(line[len(line)-1])]
		i := slices.IndexFunc(tree, func(b branch) bool { return b.steps == 1 })
		if i < 0 {
			return line
		}
		line = append(line, tree[i].piles)
	}
}

// plainPastsAt returns the pasts at k of all piles that have some, in order, where all of as many cards are given.
func plainPastsAt(all [][]int, k int) map[string][][]int {
	pasts := map[string][][]int{}
	for _, start := range all {
		a := start
		for range k {
			a = plainStep(a)
		}
		pasts[key(a)] = append(pasts[key(a)], start)
	}
	return pasts
}

// plainPastOf returns in how many steps a comes to b, or -1: 200 steps are more than any play takes round its cycle.
func plainPastOf(a, b []int) int {
	for k := range 200 {
		if slices.Equal(a, b) {
			return k
		}
		a = plainStep(a)
	}
	return -1
}

// countsOf returns how many of the numbers are 0, 1, .., up to the greatest one.
func countsOf(numbers []int) []int {
	counts := make([]int, slices.Max(numbers)+1)
	for _, x := range numbers {
		counts[x]++
	}
	return counts
}

// wantBool checks a call that reports something.
func wantBool(t *testing.T, what string, want bool) func(bool, bool) {
	return func(got, ok bool) {
		t.Helper()
		if got != want || !ok {
			t.Errorf("%s: %v %v, want %v", what, got, ok, want)
		}
	}
}

func TestExampleOfPasts(t *testing.T) {
	wantBool(t, "1 1 1 are a garden", true)(impl.IsGarden([]int{1, 1, 1}))
	wantBool(t, "3 is a garden", false)(impl.IsGarden([]int{3}))
	wantLists(t, "gardens of 3", [][]int{{1, 1, 1}})(impl.GardensOf(3))
	wantLists(t, "tree of 2 1", [][]int{{3}, {2, 1}, {1, 1, 1}})(impl.TreeOf([]int{2, 1}))
	wantInt(t, "tree size of 2 1", 3)(impl.TreeSize([]int{2, 1}))
	wantInt(t, "depth of 2 1", 2)(impl.DepthOf([]int{2, 1}))
	wantList(t, "farthest past of 2 1", []int{1, 1, 1})(impl.FarthestPast([]int{2, 1}))
	wantList(t, "first past of 2 1", []int{3})(impl.FirstPast([]int{2, 1}))
	wantLists(t, "line back of 2 1", [][]int{{2, 1}, {3}, {1, 1, 1}})(impl.LineBack([]int{2, 1}))
	wantList(t, "depths of 3", []int{1, 1, 1})(impl.DepthTable(3))
	wantList(t, "pasts of 3", []int{1, 1, 1})(impl.PastTable(3))
	wantInt(t, "steps from 1 1 1 to 2 1", 2)(impl.IsPastOf([]int{1, 1, 1}, []int{2, 1}))
}

// Each function of piles on all piles there are, the empty ones and those of MaxCards cards among them.
func TestAllTreesOneByOne(t *testing.T) {
	for _, all := range pilesOf() {
		trees, pasts := plainTrees(all), plainPastsAt(all, 1)
		for _, a := range all {
			what, tree := fmt.Sprint("piles ", a), trees[key(a)]
			wantBool(t, what+" are a garden", len(pasts[key(a)]) == 0)(impl.IsGarden(a))
			wantLists(t, what+" tree", pilesIn(tree))(impl.TreeOf(a))
			wantInt(t, what+" tree size", len(tree))(impl.TreeSize(a))
			wantInt(t, what+" depth", farthestOf(tree).steps)(impl.DepthOf(a))
			wantList(t, what+" farthest past", farthestOf(tree).piles)(impl.FarthestPast(a))
			line := plainLine(trees, a)
			wantLists(t, what+" line back", line)(impl.LineBack(a))
			first, ok := impl.FirstPast(a)
			if len(line) == 1 {
				wantFail(t, what+" first past")(first, ok)
			} else {
				wantList(t, what+" first past", line[1])(first, ok)
			}
		}
	}
}

// Pasts at each k in 0..MaxBack for few cards, and at some of them, the greatest too, for all piles there are.
func TestPastsAtOneByOne(t *testing.T) {
	for n, all := range pilesOf() {
		for k := range impl.MaxBack + 1 {
			if n > 13 && !slices.Contains([]int{0, 1, 2, 3, 7, 41, 42, 43, impl.MaxBack}, k) {
				continue
			}
			pasts := plainPastsAt(all, k)
			for _, a := range all {
				what, want := fmt.Sprint("pasts of ", a, " at ", k), pasts[key(a)]
				wantLists(t, what, want)(impl.PastsAt(a, k))
				wantInt(t, what+" counted", len(want))(impl.CountAt(a, k))
			}
		}
	}
}

func TestPastsAtTheBounds(t *testing.T) {
	stairs := []int{7, 6, 5, 4, 3, 2, 1}
	for k, want := range []int{1, 2, 5} {
		wantInt(t, fmt.Sprint("pasts of the staircase at ", k), want)(impl.CountAt(stairs, k))
	}
	depths, _ := impl.DepthTable(28)
	wantInt(t, "pasts of the staircase at 41", knownCounts[28]-depths[42])(impl.CountAt(stairs, 41))
	wantInt(t, "pasts of the staircase at 42", knownCounts[28])(impl.CountAt(stairs, 42))
	wantInt(t, "pasts of the staircase at MaxBack", knownCounts[28])(impl.CountAt(stairs, impl.MaxBack))
	wantInt(t, "pasts of one pile at MaxBack", 0)(impl.CountAt([]int{28}, impl.MaxBack))
	for _, a := range [][]int{nil, {1}, {3, 1}, {1, 1, 1}, stairs, ones(28)} {
		for _, k := range badBack {
			pasts, ok := impl.PastsAt(a, k)
			wantFail(t, fmt.Sprint("pasts of ", a, " at ", k))(pasts, ok)
			count, ok := impl.CountAt(a, k)
			wantFail(t, fmt.Sprint("count of pasts of ", a, " at ", k))(count, ok)
		}
	}
}

// Each function of a number of cards, held against all piles of as many cards.
func TestTablesOfAllPiles(t *testing.T) {
	for n, all := range pilesOf() {
		pasts := plainPastsAt(all, 1)
		var gardens [][]int
		var tails, counts []int
		for _, a := range all {
			tails = append(tails, plainOrbit(a).tail)
			counts = append(counts, len(pasts[key(a)]))
			if len(pasts[key(a)]) == 0 {
				gardens = append(gardens, a)
			}
		}
		what := fmt.Sprint(n, " cards: ")
		wantLists(t, what+"gardens", gardens)(impl.GardensOf(n))
		wantInt(t, what+"count of gardens", len(gardens))(impl.CountGardens(n))
		wantList(t, what+"depths", countsOf(tails))(impl.DepthTable(n))
		wantList(t, what+"numbers of pasts", countsOf(counts))(impl.PastTable(n))
	}
	for n, want := range []int{0, 0, 0, 1, 1, 2, 3} {
		wantInt(t, fmt.Sprint("gardens of ", n), want)(impl.CountGardens(n))
	}
}

// The promise itself: gardens have no past, and no others are without one.
func TestGardensHaveNoPast(t *testing.T) {
	for n := range impl.MaxCards + 1 {
		all, _ := impl.AllPiles(n)
		gardens := 0
		for _, a := range all {
			pasts, _ := impl.PastsOf(a)
			wantBool(t, fmt.Sprint(a, " are a garden"), len(pasts) == 0)(impl.IsGarden(a))
			if len(pasts) == 0 {
				gardens++
				wantLists(t, fmt.Sprint("tree of the garden ", a), [][]int{a})(impl.TreeOf(a))
			}
		}
		wantInt(t, fmt.Sprint("gardens of ", n), gardens)(impl.CountGardens(n))
		table, _ := impl.PastTable(n)
		if table[0] != gardens || total(table) != knownCounts[n] {
			t.Error("numbers of pasts", n, table, gardens)
		}
	}
}

// The promise itself: each piles are in the tree of one of the cyclic piles, the first ones that they come to.
func TestTreesShareAllPiles(t *testing.T) {
	for n := range impl.MaxCards + 1 {
		roots, _ := impl.CyclicPiles(n)
		met := map[string]bool{}
		deepest := 0
		for _, root := range roots {
			tree, _ := impl.TreeOf(root)
			for _, a := range tree {
				if met[key(a)] {
					t.Error("two trees have", a)
				}
				met[key(a)] = true
				tail, _ := impl.TailOf(a)
				wantInt(t, fmt.Sprint("steps from ", a, " to its root ", root), tail)(impl.IsPastOf(a, root))
			}
			depth, _ := impl.DepthOf(root)
			deepest = max(deepest, depth)
		}
		if len(met) != knownCounts[n] {
			t.Errorf("the trees of %d cards have %d piles, want %d", n, len(met), knownCounts[n])
		}
		wantInt(t, fmt.Sprint("longest tail of ", n), deepest)(impl.LongestTail(n))
		depths, _ := impl.DepthTable(n)
		if depths[0] != len(roots) || len(depths) != deepest+1 || total(depths) != knownCounts[n] {
			t.Error("depths", n, depths, len(roots), deepest)
		}
	}
}

// All pairs of few cards, the same piles and piles of other numbers of cards among them.
func TestPastOfEachOther(t *testing.T) {
	few := slices.Concat(pilesOf()[:9]...)
	for _, a := range few {
		for _, b := range few {
			what := fmt.Sprint("steps from ", a, " to ", b)
			k, ok := impl.IsPastOf(a, b)
			if want := plainPastOf(a, b); want >= 0 {
				wantInt(t, what, want)(k, ok)
			} else {
				wantFail(t, what)(k, ok)
			}
		}
	}
}

// Where the play begins, the first and the last piles of its cycle, and others that it does not come to.
func TestPastOfLongPlays(t *testing.T) {
	for _, all := range pilesOf() {
		for i, a := range all {
			what, known := fmt.Sprint("steps from ", a, " to "), plainOrbit(a)
			wantInt(t, what+"itself", 0)(impl.IsPastOf(a, a))
			wantInt(t, what+"its cycle", known.tail)(impl.IsPastOf(a, known.cycle[0]))
			last := len(known.cycle) - 1
			wantInt(t, what+"the last ones", known.tail+last)(impl.IsPastOf(a, known.cycle[last]))
			other := all[(i*7+3)%len(all)]
			k, ok := impl.IsPastOf(a, other)
			if want := plainPastOf(a, other); want >= 0 {
				wantInt(t, what+key(other), want)(k, ok)
			} else {
				wantFail(t, what+key(other))(k, ok)
			}
		}
	}
	start, _ := impl.FarthestStart(impl.MaxCards)
	wantInt(t, "steps to the staircase", 42)(impl.IsPastOf(start, []int{7, 6, 5, 4, 3, 2, 1}))
}

// No piles are their own only past, and cyclic.
func TestTreeOfNoPiles(t *testing.T) {
	for _, none := range [][]int{nil, {}} {
		wantBool(t, "no piles are a garden", false)(impl.IsGarden(none))
		for _, k := range []int{0, 1, impl.MaxBack} {
			wantLists(t, "pasts", [][]int{{}})(impl.PastsAt(none, k))
			wantInt(t, "count of pasts", 1)(impl.CountAt(none, k))
		}
		wantLists(t, "tree", [][]int{{}})(impl.TreeOf(none))
		wantInt(t, "tree size", 1)(impl.TreeSize(none))
		wantInt(t, "depth", 0)(impl.DepthOf(none))
		wantList(t, "farthest past", nil)(impl.FarthestPast(none))
		first, ok := impl.FirstPast(none)
		wantFail(t, "first past")(first, ok)
		wantLists(t, "line back", [][]int{{}})(impl.LineBack(none))
		wantInt(t, "steps", 0)(impl.IsPastOf(none, none))
		for _, a := range [][]int{{1}, {2, 1}} {
			k, ok := impl.IsPastOf(none, a)
			wantFail(t, "steps from no piles")(k, ok)
			k, ok = impl.IsPastOf(a, none)
			wantFail(t, "steps to no piles")(k, ok)
		}
	}
	wantLists(t, "gardens", nil)(impl.GardensOf(0))
	wantInt(t, "count of gardens", 0)(impl.CountGardens(0))
	wantList(t, "depths", []int{1})(impl.DepthTable(0))
	wantList(t, "numbers of pasts", []int{0, 1})(impl.PastTable(0))
}

// Gardens, and cyclic piles that have no past, or none but themselves, outside their cycle.
func TestTreesWithOneState(t *testing.T) {
	for _, a := range [][]int{{1}, {2}, {1, 1}, {2, 1, 1}, {1, 1, 1}, ones(28)} {
		what := fmt.Sprint("piles ", a)
		wantLists(t, what+" tree", [][]int{a})(impl.TreeOf(a))
		wantInt(t, what+" tree size", 1)(impl.TreeSize(a))
		wantInt(t, what+" depth", 0)(impl.DepthOf(a))
		wantList(t, what+" farthest past", a)(impl.FarthestPast(a))
		first, ok := impl.FirstPast(a)
		wantFail(t, what+" first past")(first, ok)
		wantLists(t, what+" line back", [][]int{a})(impl.LineBack(a))
	}
}

// The tree of cyclic piles has none of the others of their cycle, though pasts at k go round it.
func TestTreesInOneCycle(t *testing.T) {
	wantLists(t, "tree of 3 1", [][]int{{4}, {3, 1}, {1, 1, 1, 1}})(impl.TreeOf([]int{3, 1}))
	wantLists(t, "tree of 2 2", [][]int{{2, 2}})(impl.TreeOf([]int{2, 2}))
	wantList(t, "first past of 3 1", []int{4})(impl.FirstPast([]int{3, 1}))
	wantLists(t, "pasts of 3 1", [][]int{{4}, {2, 1, 1}})(impl.PastsAt([]int{3, 1}, 1))
	wantLists(t, "pasts of 3 1 at 3", [][]int{{3, 1}})(impl.PastsAt([]int{3, 1}, 3))
	wantLists(t, "pasts of 2 2 at MaxBack", [][]int{{2, 2}, {1, 1, 1, 1}})(impl.PastsAt([]int{2, 2}, impl.MaxBack))
	wantInt(t, "steps from 2 2 to 3 1", 2)(impl.IsPastOf([]int{2, 2}, []int{3, 1}))
	wantInt(t, "tree size of the staircase", knownCounts[28])(impl.TreeSize([]int{7, 6, 5, 4, 3, 2, 1}))
}

func TestNoTreeOfWhatIsNoPiles(t *testing.T) {
	good := []int{2, 1}
	for _, bad := range badPiles {
		what := func(name string) func(...any) { return wantFail(t, fmt.Sprint(name, " ", bad)) }
		garden, ok := impl.IsGarden(bad)
		what("is garden")(garden, ok)
		for _, k := range []int{-1, 0, 1, impl.MaxBack} {
			pasts, ok := impl.PastsAt(bad, k)
			what("pasts")(pasts, ok)
			count, ok := impl.CountAt(bad, k)
			what("count of pasts")(count, ok)
		}
		tree, ok := impl.TreeOf(bad)
		what("tree")(tree, ok)
		size, ok := impl.TreeSize(bad)
		what("tree size")(size, ok)
		depth, ok := impl.DepthOf(bad)
		what("depth")(depth, ok)
		farthest, ok := impl.FarthestPast(bad)
		what("farthest past")(farthest, ok)
		first, ok := impl.FirstPast(bad)
		what("first past")(first, ok)
		line, ok := impl.LineBack(bad)
		what("line back")(line, ok)
		for _, pair := range [][2][]int{{bad, good}, {good, bad}, {bad, bad}} {
			k, ok := impl.IsPastOf(pair[0], pair[1])
			what("steps")(k, ok)
		}
	}
}

func TestNoTablesOfOtherNumbers(t *testing.T) {
	for _, n := range badCards {
		what := func(name string) func(...any) { return wantFail(t, fmt.Sprint(name, " ", n)) }
		gardens, ok := impl.GardensOf(n)
		what("gardens")(gardens, ok)
		count, ok := impl.CountGardens(n)
		what("count of gardens")(count, ok)
		depths, ok := impl.DepthTable(n)
		what("depths")(depths, ok)
		pasts, ok := impl.PastTable(n)
		what("numbers of pasts")(pasts, ok)
	}
}
