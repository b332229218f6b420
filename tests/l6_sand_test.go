package tests

import (
	"fmt"
	"math"
	"slices"
	"testing"

	"loop.example/g01114/impl"
)

// twelveTwos is the only sand with a fall that makes more than MaxColumns columns.
var twelveTwos = slices.Repeat([]int{2}, 12)

// badSands are lists that are no sand; some of them are piles.
var badSands = [][]int{
	{25}, {28}, {29}, {24, 1}, {13, 12}, {12, 12, 1}, {14, 14}, {26, 1, 1}, {7, 6, 5, 4, 3, 2, 1}, ones(13), ones(24), ones(28),
	append(slices.Repeat([]int{2}, 11), 1, 1), append(slices.Repeat([]int{2}, 11), 3), {12, 1, 1, 1, 1, 1, 1, 1, 1, 1, 1, 1, 1},
	{0}, {1, 0}, {0, 1}, {4, 0, 0}, {3, 0, 1}, {-1}, {3, -1}, {5, -1, -2}, {1, 2}, {3, 1, 2}, {2, 1, 1, 2}, {1, 23}, {1, 24},
	{math.MaxInt}, {math.MinInt}, {math.MaxInt, 1}, {math.MaxInt, math.MaxInt}, {math.MaxInt, math.MaxInt, 2}, {4, math.MinInt}, {1 << 32}, {1 << 62, 1 << 62, 1 << 62, 1 << 62},
	slices.Repeat([]int{1}, 5000),
}

// badIndices are columns that no sand has.
var badIndices = []int{-1, -12, 13, 28, 300, math.MinInt, math.MaxInt, 1 << 32, math.MinInt + 1}

// allSands returns, for each number of grains, all sand in order.
func allSands() [][][]int {
	sands := pilesOf()[:impl.MaxGrains+1]
	for n := range sands {
		sands[n] = slices.DeleteFunc(sands[n], func(a []int) bool { return len(a) > impl.MaxColumns })
	}
	return sands
}

// columnOf returns the sand of n grains in one column.
func columnOf(n int) []int { return falling([]int{n}) }

// grainsIn returns the grains of a column, of which there is no end to the right.
func grainsIn(a []int, i int) int {
	if i >= 0 && i < len(a) {
		return a[i]
	}
	return 0
}

// plainFalls returns the columns that are steep.
func plainFalls(a []int) []int {
	var steep []int
	for i := range 40 {
		if grainsIn(a, i)-grainsIn(a, i+1) > 1 {
			steep = append(steep, i)
		}
	}
	return steep
}

// plainFall moves a grain.
func plainFall(a []int, i int) []int {
	b := append(slices.Clone(a), 0)
	b[i]--
	b[i+1]++
	return slices.DeleteFunc(b, func(x int) bool { return x == 0 })
}

// plainRun makes falls until none is left, each time the one that choose picks of those that can be made.
func plainRun(a []int, choose func(falls []int) int) (end []int, falls []int) {
	for steep := plainFalls(a); len(steep) > 0; steep = plainFalls(a) {
		i := choose(steep)
		a = plainFall(a, i)
		falls = append(falls, i)
	}
	return a, falls
}

// someRuns are ways to choose the next fall: the first, the last, by turns, and by numbers that look random.
func someRuns() []func([]int) int {
	turn, seed := 0, uint32(88172645)
	return []func([]int) int{
		func(falls []int) int { return falls[0] },
		func(falls []int) int { return falls[len(falls)-1] },
		func(falls []int) int { turn++; return falls[turn%len(falls)] },
		func(falls []int) int {
			seed ^= seed << 13
			seed ^= seed >> 17
			seed ^= seed << 5
			return falls[int(seed>>4)%len(falls)]
		},
	}
}

// eachCount returns how often each column is in a list of falls.
func eachCount(falls []int) []int {
	if len(falls) == 0 {
		return nil
	}
	counts := make([]int, slices.Max(falls)+1)
	for _, i := range falls {
		counts[i]++
	}
	return counts
}

func plainWeight(a []int) int {
	weight := 0
	for i := range a {
		weight += total(a[i+1:])
	}
	return weight
}

// fallsBook notes what can be reached, and in how many orders all falls can be made.
type fallsBook struct {
	reached map[string][][]int
	plays   map[string]int
}

func newFallsBook() fallsBook { return fallsBook{map[string][][]int{}, map[string]int{}} }

// reach returns all lists that can be reached, the greatest first.
func (b fallsBook) reach(a []int) [][]int {
	if known, ok := b.reached[key(a)]; ok {
		return known
	}
	all := map[string][]int{key(a): a}
	for _, i := range plainFalls(a) {
		for _, c := range b.reach(plainFall(a, i)) {
			all[key(c)] = c
		}
	}
	var sorted [][]int
	for _, c := range all {
		sorted = append(sorted, c)
	}
	slices.SortFunc(sorted, func(x, y []int) int { return slices.Compare(y, x) })
	b.reached[key(a)] = sorted
	return sorted
}

func (b fallsBook) reaches(a, c []int) bool {
	return slices.ContainsFunc(b.reach(a), func(x []int) bool { return slices.Equal(x, c) })
}

// orders returns in how many orders all falls can be made: for 24 grains they still fit into an int.
func (b fallsBook) orders(a []int) int {
	if known, ok := b.plays[key(a)]; ok {
		return known
	}
	count := 0
	for _, i := range plainFalls(a) {
		count += b.orders(plainFall(a, i))
	}
	b.plays[key(a)] = max(count, 1)
	return b.plays[key(a)]
}

func TestExampleOfSand(t *testing.T) {
	wantLists(t, "reach of 4", [][]int{{4}, {3, 1}, {2, 2}, {2, 1, 1}})(impl.ReachSand([]int{4}))
	wantBool(t, "2 1 1 is settled", true)(impl.IsSettled([]int{2, 1, 1}))
	wantBool(t, "2 2 is settled", false)(impl.IsSettled([]int{2, 2}))
	wantList(t, "counts of 4", []int{2, 1})(impl.FallCounts([]int{4}))
	wantList(t, "4 settled", []int{2, 1, 1})(impl.SettleSand([]int{4}))
	wantList(t, "falls of 4", []int{0})(impl.FallsOf([]int{4}))
	wantList(t, "4 behind falls", []int{2, 1, 1})(impl.PlayFalls([]int{4}, []int{0, 0, 1}))
}

func TestIsSand(t *testing.T) {
	for n, sands := range allSands() {
		for _, a := range sands {
			if !impl.IsSand(a) {
				t.Errorf("%v with %d grains is sand", a, n)
			}
		}
	}
	for _, a := range [][]int{nil, {}, {1}, {24}, {23, 1}, {12, 12}, ones(12), twelveTwos, {13, 1, 1, 1, 1, 1, 1, 1, 1, 1, 1, 1}} {
		if !impl.IsSand(a) {
			t.Errorf("%v is sand", a)
		}
	}
	for _, a := range badSands {
		if impl.IsSand(a) {
			t.Errorf("%v is no sand", a)
		}
	}
}

// Each function of one sand on all sand, that without grains among it.
func TestAllSandOneByOne(t *testing.T) {
	book := newFallsBook()
	for _, sands := range allSands() {
		for _, a := range sands {
			checkSingleFalls(t, a)
			checkWholeSlides(t, a)
			wantInt(t, fmt.Sprint("weight of ", a), plainWeight(a))(impl.WeightOf(a))
			if slices.Equal(a, twelveTwos) {
				continue // Its falls are looked at below.
			}
			reached := book.reach(a)
			wantLists(t, fmt.Sprint("reach of ", a), reached)(impl.ReachSand(a))
			wantInt(t, fmt.Sprint("reach count of ", a), len(reached))(impl.CountReach(a))
			if count, ok := impl.CountFallPlays(a); book.orders(a) > 1000000000 {
				wantFail(t, fmt.Sprint("plays of ", a))(count, ok)
			} else {
				wantInt(t, fmt.Sprint("plays of ", a), book.orders(a))(count, ok)
			}
		}
	}
}

// checkSingleFalls checks which falls can be made, and what each of them makes.
func checkSingleFalls(t *testing.T, a []int) {
	t.Helper()
	steep := plainFalls(a)
	wantList(t, fmt.Sprint("falls of ", a), steep)(impl.FallsOf(a))
	wantBool(t, fmt.Sprint(a, " is settled"), len(steep) == 0)(impl.IsSettled(a))
	for i := -1; i <= len(a)+1; i++ {
		what := fmt.Sprint("fall ", i, " of ", a)
		got, ok := impl.FallGrain(a, i)
		if !slices.Contains(steep, i) || len(plainFall(a, i)) > impl.MaxColumns {
			wantFail(t, what)(got, ok)
			continue
		}
		wantList(t, what, plainFall(a, i))(got, ok)
		weight, _ := impl.WeightOf(a)
		wantInt(t, what+": weight", weight+1)(impl.WeightOf(got))
	}
}

// checkWholeSlides checks where falls end in different orders, and how often each column falls.
func checkWholeSlides(t *testing.T, a []int) {
	t.Helper()
	for _, choose := range someRuns() {
		end, falls := plainRun(a, choose)
		wantList(t, fmt.Sprint("counts of ", a), eachCount(falls))(impl.FallCounts(a))
		settled, settles := impl.SettleSand(a)
		behind, plays := impl.PlayFalls(a, falls)
		if len(end) > impl.MaxColumns {
			wantFail(t, fmt.Sprint(a, " settled"))(settled, settles)
			wantFail(t, fmt.Sprint(a, " behind ", falls))(behind, plays)
			continue
		}
		wantList(t, fmt.Sprint(a, " settled"), end)(settled, settles)
		wantList(t, fmt.Sprint(a, " behind ", falls), end)(behind, plays)
		wantBool(t, fmt.Sprint(end, " is settled"), true)(impl.IsSettled(end))
		if len(falls) > 0 {
			again, ok := impl.PlayFalls(a, append(slices.Clone(falls), falls[0]))
			wantFail(t, fmt.Sprint("one fall too many of ", a))(again, ok)
		}
	}
}

// What is reached from one sand, held against all others: of few grains all pairs, of more some of them.
func TestPairsOfSand(t *testing.T) {
	book := newFallsBook()
	sands := allSands()
	for n, some := range sands {
		stepA, stepB := 1, 1
		if n > 9 {
			stepA, stepB = len(some)/9, len(some)/40+1
		}
		for i := 0; i < len(some); i += stepA {
			for j := i % stepB; j < len(some); j += stepB {
				checkPair(t, book, some[i], some[j])
			}
			for _, b := range [][]int{some[0], some[i], some[len(some)-1], {5, 1}, {24}, {}} {
				checkPair(t, book, some[i], b)
			}
			reached := book.reach(some[i])
			for j := i % (len(reached)/20 + 1); j < len(reached); j += len(reached)/20 + 1 {
				checkPair(t, book, some[i], reached[j])
			}
		}
	}
}

// checkPair checks what is told of the way from a to b.
func checkPair(t *testing.T, book fallsBook, a, b []int) {
	t.Helper()
	what := fmt.Sprint(a, " to ", b)
	can, answers := impl.CanReach(a, b)
	falls, leads := impl.FallsBetween(a, b)
	vector, counts := impl.FallVector(a, b)
	tooWide := slices.Equal(a, twelveTwos) // Even on the way to itself.
	if tooWide {
		wantFail(t, what+": can reach")(can, answers)
	} else {
		wantBool(t, what+": can reach", book.reaches(a, b))(can, answers)
	}
	if tooWide || !book.reaches(a, b) {
		wantFail(t, what+": falls between")(falls, leads)
		wantFail(t, what+": fall vector")(vector, counts)
		return
	}
	way := plainWay(book, a, b)
	wantInt(t, what+": falls between", len(way))(falls, leads)
	wantInt(t, what+": difference of weights", plainWeight(b)-plainWeight(a))(falls, leads)
	wantList(t, what+": fall vector", eachCount(way))(vector, counts)
	wantList(t, what+": played", b)(impl.PlayFalls(a, way))
}

// plainWay returns falls that lead from a to b, which can be reached.
func plainWay(book fallsBook, a, b []int) []int {
	var way []int
	for !slices.Equal(a, b) {
		steep := plainFalls(a)
		i := slices.IndexFunc(steep, func(i int) bool { return book.reaches(plainFall(a, i), b) })
		way = append(way, steep[i])
		a = plainFall(a, steep[i])
	}
	return way
}

func TestKnownWaysOfSand(t *testing.T) {
	wantInt(t, "4 to 2 2", 2)(impl.FallsBetween([]int{4}, []int{2, 2}))
	wantList(t, "4 to 2 2", []int{2})(impl.FallVector([]int{4}, []int{2, 2}))
	wantList(t, "2 2 to 2 1 1", []int{0, 1})(impl.FallVector([]int{2, 2}, []int{2, 1, 1}))
	wantInt(t, "2 2 to itself", 0)(impl.FallsBetween([]int{2, 2}, []int{2, 2}))
	wantList(t, "2 2 to itself", nil)(impl.FallVector([]int{2, 2}, []int{2, 2}))
	// Numbers 0 stand in front of others, but not in the end.
	wantList(t, "4 2 2 1 to 3 3 2 1", []int{1})(impl.FallVector([]int{4, 2, 2, 1}, []int{3, 3, 2, 1}))
	wantList(t, "4 2 2 to 3 3 1 1", []int{1, 0, 1})(impl.FallVector([]int{4, 2, 2}, []int{3, 3, 1, 1}))
	for _, back := range [][2][]int{{{3, 1}, {4}}, {{2, 1, 1}, {2, 2}}, {{2, 2}, {3, 1}}, {{4}, {1, 1, 1, 1}}, {{4}, {5}}, {{4}, {3}}, {{}, {1}}, {{1}, {}}} {
		wantBool(t, fmt.Sprint("can reach ", back), false)(impl.CanReach(back[0], back[1]))
		falls, ok := impl.FallsBetween(back[0], back[1])
		wantFail(t, fmt.Sprint("falls between ", back))(falls, ok)
		vector, ok := impl.FallVector(back[0], back[1])
		wantFail(t, fmt.Sprint("fall vector ", back))(vector, ok)
	}
}

// A fall may make more columns than sand has: it is made, but what it makes is no sand.
func TestFallsThatMakeTooManyColumns(t *testing.T) {
	a := twelveTwos
	wantList(t, "falls", []int{11})(impl.FallsOf(a))
	wantBool(t, "is settled", false)(impl.IsSettled(a))
	wantList(t, "counts", append(make([]int, 11), 1))(impl.FallCounts(a))
	wantList(t, "no falls", a)(impl.PlayFalls(a, nil))
	wantInt(t, "weight", 132)(impl.WeightOf(a))
	fallen, ok := impl.FallGrain(a, 11)
	wantFail(t, "fall 11")(fallen, ok)
	played, ok := impl.PlayFalls(a, []int{11})
	wantFail(t, "falls 11")(played, ok)
	settled, ok := impl.SettleSand(a)
	wantFail(t, "settled")(settled, ok)
	plays, ok := impl.CountFallPlays(a)
	wantFail(t, "plays")(plays, ok)
	reached, ok := impl.ReachSand(a)
	wantFail(t, "reach")(reached, ok)
	count, ok := impl.CountReach(a)
	wantFail(t, "reach count")(count, ok)
	for _, b := range [][]int{a, {24}, {}, append(slices.Repeat([]int{2}, 10), 1, 1)} {
		can, ok := impl.CanReach(a, b)
		wantFail(t, fmt.Sprint("can reach ", b))(can, ok)
		falls, ok := impl.FallsBetween(a, b)
		wantFail(t, fmt.Sprint("falls between ", b))(falls, ok)
		vector, ok := impl.FallVector(a, b)
		wantFail(t, fmt.Sprint("vector ", b))(vector, ok)
	}
	wantBool(t, "24 cannot reach it", false)(impl.CanReach([]int{24}, a))
	wantBool(t, "12 ones cannot reach it", false)(impl.CanReach(ones(12), a))
}

// The greatest numbers of grains and columns.
func TestSandAtTheBounds(t *testing.T) {
	wantList(t, "24 settled", []int{6, 5, 4, 3, 3, 2, 1})(impl.SettleSand([]int{24}))
	wantInt(t, "reach of 24", 374)(impl.CountReach([]int{24}))
	wantInt(t, "falls of 24", 50)(impl.FallsBetween([]int{24}, []int{6, 5, 4, 3, 3, 2, 1}))
	wantList(t, "12 ones settled", ones(12))(impl.SettleSand(ones(12)))
	wantLists(t, "reach of 12 ones", [][]int{ones(12)})(impl.ReachSand(ones(12)))
	// The last column falls, and makes the twelfth one.
	eleven := append([]int{3}, slices.Repeat([]int{2}, 10)...)
	made := append(slices.Clone(eleven[:10]), 1, 1)
	wantList(t, "fall of the eleventh column", made)(impl.FallGrain(eleven, 10))
	wantList(t, "23 settled", made)(impl.SettleSand(eleven))
	wide := append([]int{13}, ones(11)...)
	end, falls := plainRun(wide, func(falls []int) int { return falls[0] })
	wantList(t, "13 1 .. settled", end)(impl.SettleSand(wide))
	wantList(t, "13 1 .. counts", eachCount(falls))(impl.FallCounts(wide))
}

func TestPlayFalls(t *testing.T) {
	for _, a := range [][]int{nil, {}, {1}, {4}, {24}, ones(12)} {
		wantList(t, fmt.Sprint("no falls of ", a), a)(impl.PlayFalls(a, nil))
		wantList(t, fmt.Sprint("no falls of ", a), a)(impl.PlayFalls(a, []int{}))
	}
	for _, bad := range [][]int{{0, 0, 0}, {1}, {0, 1}, {0, 0, 1, 0}, {0, 0, 1, 1}, {0, 0, 1, 2}, {0, 0, 2}, {0, -1}, {0, 0, math.MaxInt}, {math.MinInt}, {0, 0, 1, -1}} {
		got, ok := impl.PlayFalls([]int{4}, bad)
		wantFail(t, fmt.Sprint("4 behind ", bad))(got, ok)
	}
	// No sand has as many falls as may be given: the longest plays are those of all grains in one column.
	_, falls := plainRun([]int{24}, func(falls []int) int { return falls[0] })
	wantList(t, "longest play", []int{6, 5, 4, 3, 3, 2, 1})(impl.PlayFalls([]int{24}, falls))
	for _, count := range []int{51, 299, 300, 301, 5000} {
		many := append(slices.Clone(falls), make([]int, count-len(falls))...)
		got, ok := impl.PlayFalls([]int{24}, many)
		wantFail(t, fmt.Sprint(count, " falls"))(got, ok)
		got, ok = impl.PlayFalls(nil, make([]int, count))
		wantFail(t, fmt.Sprint(count, " falls without grains"))(got, ok)
	}
}

func TestFallGrainFails(t *testing.T) {
	for _, a := range [][]int{nil, {1}, {2}, {4}, {2, 2}, {24}, {12, 12}, ones(12), twelveTwos} {
		for _, i := range badIndices {
			got, ok := impl.FallGrain(a, i)
			wantFail(t, fmt.Sprint("fall ", i, " of ", a))(got, ok)
			got, ok = impl.PlayFalls(a, []int{i})
			wantFail(t, fmt.Sprint("falls ", i, " of ", a))(got, ok)
		}
	}
}

func TestSettledShape(t *testing.T) {
	for n := range impl.MaxGrains + 1 {
		height, more, _ := impl.HeightFor(n)
		stairs, _ := impl.Staircase(height)
		want := falling(append(stairs, more))
		wantList(t, fmt.Sprint("settled shape of ", n), want)(impl.SettledShape(n))
		wantList(t, fmt.Sprint("settled column of ", n), want)(impl.SettleSand(columnOf(n)))
	}
	wantList(t, "settled shape of 0", nil)(impl.SettledShape(0))
	wantList(t, "settled shape of 8", []int{3, 2, 2, 1})(impl.SettledShape(8))
	wantList(t, "settled shape of 21", []int{6, 5, 4, 3, 2, 1})(impl.SettledShape(21))
	for _, n := range append([]int{25, 28}, badCards...) {
		got, ok := impl.SettledShape(n)
		wantFail(t, fmt.Sprint("settled shape of ", n))(got, ok)
	}
}

// No sand has exactly 1000000000 orders: these have the next numbers below and above.
func TestFallPlaysAtTheBound(t *testing.T) {
	wantInt(t, "plays of 10 8 4 2", 997947132)(impl.CountFallPlays([]int{10, 8, 4, 2}))
	wantInt(t, "plays of 19", 574994915)(impl.CountFallPlays([]int{19}))
	for _, a := range [][]int{{11, 6, 5, 2}, {20}, {24}, {23, 1}} {
		count, ok := impl.CountFallPlays(a)
		wantFail(t, fmt.Sprint("plays of ", a))(count, ok)
	}
	for _, settled := range [][]int{nil, {1}, {1, 1}, {3, 2, 1}, {6, 5, 4, 3, 3, 2, 1}, ones(12)} {
		wantInt(t, fmt.Sprint("plays of ", settled), 1)(impl.CountFallPlays(settled))
	}
	wantInt(t, "plays of 6", 2)(impl.CountFallPlays([]int{6}))
}

// The promise itself: what a single column reaches is a lattice.
func TestLowestOfIsTheLowest(t *testing.T) {
	book := newFallsBook()
	for n := 1; n <= 15; n++ {
		all := book.reach(columnOf(n))
		for i, a := range all {
			for j := 0; j < len(all); j += 1 + n/8 {
				b := all[(i+j)%len(all)]
				var above [][]int
				for _, c := range all {
					if book.reaches(c, a) && book.reaches(c, b) {
						above = append(above, c)
					}
				}
				lowest := above[len(above)-1]
				wantList(t, fmt.Sprint("lowest of ", a, b), lowest)(impl.LowestOf(a, b))
				for _, c := range above {
					if !book.reaches(c, lowest) {
						t.Error(c, "is above", a, b, "but not", lowest)
					}
				}
			}
			wantList(t, fmt.Sprint("lowest of twice ", a), a)(impl.LowestOf(a, a))
			wantList(t, fmt.Sprint("lowest of the column and ", a), columnOf(n))(impl.LowestOf(a, columnOf(n)))
		}
	}
}

func TestLowestOf(t *testing.T) {
	wantList(t, "lowest of 6", []int{4, 2})(impl.LowestOf([]int{4, 1, 1}, []int{3, 3}))
	wantList(t, "lowest of 1", []int{1})(impl.LowestOf([]int{1}, []int{1}))
	wantList(t, "lowest of 15", []int{5, 4, 3, 2, 1})(impl.LowestOf([]int{5, 4, 3, 2, 1}, []int{5, 4, 3, 2, 1}))
	for _, bad := range [][2][]int{
		{nil, nil}, {{}, {}}, {nil, {1}}, {{1}, nil}, {{4}, {5}}, {{5}, {4}}, {{3}, {3, 1}}, {{16}, {16}}, {{15}, {16}}, {{16}, {15, 1}}, {{16}, {15}},
		{{17}, {17}}, {{24}, {24}}, {{6, 5, 4, 3, 3, 2, 1}, {24}}, {twelveTwos, twelveTwos}, {twelveTwos, {24}},
		{{1, 1, 1}, {3}}, {{3}, {1, 1, 1}}, {{1, 1, 1}, {1, 1, 1}}, {{2, 2, 2}, {2, 2, 2}}, {{1, 1, 1, 1}, {2, 2}}, {ones(12), {12}}, {ones(12), ones(12)},
	} {
		got, ok := impl.LowestOf(bad[0], bad[1])
		wantFail(t, fmt.Sprint("lowest of ", bad))(got, ok)
	}
	book := newFallsBook()
	sands := allSands()
	for n := 1; n <= 10; n++ {
		for _, a := range sands[n] {
			if book.reaches(columnOf(n), a) {
				continue
			}
			for _, b := range sands[n] {
				got, ok := impl.LowestOf(a, b)
				wantFail(t, fmt.Sprint("lowest of ", a, b))(got, ok)
				got, ok = impl.LowestOf(b, a)
				wantFail(t, fmt.Sprint("lowest of ", b, a))(got, ok)
			}
		}
	}
}

func TestSandWithoutGrains(t *testing.T) {
	for _, none := range [][]int{nil, {}} {
		wantList(t, "falls", nil)(impl.FallsOf(none))
		wantBool(t, "is settled", true)(impl.IsSettled(none))
		wantList(t, "settled", nil)(impl.SettleSand(none))
		wantList(t, "counts", nil)(impl.FallCounts(none))
		wantInt(t, "weight", 0)(impl.WeightOf(none))
		wantLists(t, "reach", [][]int{{}})(impl.ReachSand(none))
		wantInt(t, "reach count", 1)(impl.CountReach(none))
		wantBool(t, "reaches itself", true)(impl.CanReach(none, nil))
		wantInt(t, "falls between", 0)(impl.FallsBetween(none, nil))
		wantList(t, "vector", nil)(impl.FallVector(none, nil))
		wantInt(t, "plays", 1)(impl.CountFallPlays(none))
		fallen, ok := impl.FallGrain(none, 0)
		wantFail(t, "fall")(fallen, ok)
	}
}

func TestNoFunctionTakesWhatIsNoSand(t *testing.T) {
	for _, bad := range badSands {
		what := func(name string) func(...any) { return wantFail(t, fmt.Sprint(name, " ", bad)) }
		falls, ok := impl.FallsOf(bad)
		what("falls")(falls, ok)
		fallen, ok := impl.FallGrain(bad, 0)
		what("fall")(fallen, ok)
		is, ok := impl.IsSettled(bad)
		what("is settled")(is, ok)
		settled, ok := impl.SettleSand(bad)
		what("settled")(settled, ok)
		counts, ok := impl.FallCounts(bad)
		what("counts")(counts, ok)
		for _, play := range [][]int{nil, {0}, {1}, {0, 0}} {
			behind, ok := impl.PlayFalls(bad, play)
			what("behind falls")(behind, ok)
		}
		weight, ok := impl.WeightOf(bad)
		what("weight")(weight, ok)
		reached, ok := impl.ReachSand(bad)
		what("reach")(reached, ok)
		count, ok := impl.CountReach(bad)
		what("reach count")(count, ok)
		plays, ok := impl.CountFallPlays(bad)
		what("plays")(plays, ok)
		for _, pair := range [][2][]int{{bad, {4}}, {{4}, bad}, {bad, {24}}, {{24}, bad}, {bad, nil}, {nil, bad}, {bad, bad}} {
			can, ok := impl.CanReach(pair[0], pair[1])
			what("can reach")(can, ok)
			between, ok := impl.FallsBetween(pair[0], pair[1])
			what("falls between")(between, ok)
			vector, ok := impl.FallVector(pair[0], pair[1])
			what("vector")(vector, ok)
			lowest, ok := impl.LowestOf(pair[0], pair[1])
			what("lowest")(lowest, ok)
		}
	}
}
