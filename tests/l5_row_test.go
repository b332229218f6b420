package tests

import (
	"fmt"
	"math"
	"slices"
	"strings"
	"testing"

	"loop.example/g01114/impl"
)

// badRows are lists that are no rows.
var badRows = [][]int{
	{0}, {-1}, {29}, {1, 0}, {0, 1}, {3, 0, 1}, {3, -1, 2}, {-1, 3}, {1, 28}, {28, 1}, {14, 15}, {2, 27}, {1, 2, 26},
	ones(29), slices.Repeat([]int{1}, 5000), {math.MaxInt}, {math.MinInt}, {1, math.MaxInt}, {math.MaxInt, 1},
	{math.MaxInt, math.MaxInt}, {math.MaxInt, math.MaxInt, 2}, {2, math.MinInt}, {math.MinInt, math.MinInt},
	{1 << 32}, {1 << 62, 1 << 62, 1 << 62, 1 << 62},
}

// fewCards are the numbers of cards whose rows are all looked at one by one.
const fewCards = 13

// plainRows returns all rows of n cards, in order, by their first numbers.
func plainRows(n int) [][]int {
	if n == 0 {
		return [][]int{{}}
	}
	var rows [][]int
	for first := n; first >= 1; first-- {
		for _, rest := range plainRows(n - first) {
			rows = append(rows, slices.Concat([]int{first}, rest))
		}
	}
	return rows
}

func plainRowStep(a []int) []int {
	b := []int{len(a)}
	for _, x := range a {
		b = append(b, x-1)
	}
	return slices.DeleteFunc(b, func(x int) bool { return x == 0 })
}

// plainRowPlay returns a row and those behind k steps.
func plainRowPlay(a []int, k int) [][]int {
	play := [][]int{a}
	for range k {
		play = append(play, plainRowStep(play[len(play)-1]))
	}
	return play
}

// plainRowOrbit returns in how many steps a row comes to its cycle, and how long that is.
func plainRowOrbit(a []int) (int, int) {
	met := map[string]int{}
	for steps := 0; ; steps++ {
		if first, ok := met[key(a)]; ok {
			return first, steps - first
		}
		met[key(a)] = steps
		a = plainRowStep(a)
	}
}

// plainArrangements returns in how many orders numbers can be put, by the number that comes first. It notes what it finds.
func plainArrangements(a []int, noted map[string]int) int {
	if len(a) == 0 {
		return 1
	}
	if ways, ok := noted[key(a)]; ok {
		return ways
	}
	ways := 0
	for i, x := range a {
		if i == 0 || x != a[i-1] {
			ways += plainArrangements(slices.Delete(slices.Clone(a), i, i+1), noted)
		}
	}
	noted[key(a)] = ways
	return ways
}

// pascal returns in how many ways k of n places can be chosen.
func pascal(n, k int) int {
	line := make([]int, k+1)
	line[0] = 1
	for range n {
		for i := k; i > 0; i-- {
			line[i] += line[i-1]
		}
	}
	return line[k]
}

// someRows returns rows of all numbers of cards from 14 to MaxCards: the first and the last ones, and some between them.
func someRows() [][]int {
	var rows [][]int
	seed := uint32(2463534242)
	for n := fewCards + 1; n <= impl.MaxCards; n++ {
		rows = append(rows, []int{n}, []int{n - 1, 1}, []int{1, n - 1}, ones(n))
		for range 300 {
			var row []int
			for left := n; left > 0; left -= row[len(row)-1] {
				seed ^= seed << 13
				seed ^= seed >> 17
				seed ^= seed << 5
				row = append(row, 1+int(seed>>8)%min(left, 1+len(rows)%9))
			}
			rows = append(rows, row)
		}
	}
	return rows
}

func TestExampleOfRows(t *testing.T) {
	wantList(t, "step of 2 1 2", []int{3, 1, 1})(impl.StepRow([]int{2, 1, 2}))
	wantLists(t, "pasts of 3 1 1", [][]int{{2, 2, 1}, {2, 1, 2}, {1, 2, 2}})(impl.RowPasts([]int{3, 1, 1}))
	wantInt(t, "past count of 3 1 1", 3)(impl.RowPastCount([]int{3, 1, 1}))
	wantInt(t, "rows of 4", 8)(impl.CountRows(4))
}

func TestIsRow(t *testing.T) {
	for _, a := range [][]int{nil, {}, {1}, {28}, {27, 1}, {1, 27}, {1, 2}, {2, 1, 2}, {14, 14}, ones(28), {1, 2, 3, 4, 5, 6, 7}} {
		if !impl.IsRow(a) {
			t.Errorf("%v is a row", a)
		}
	}
	for _, a := range badRows {
		if impl.IsRow(a) {
			t.Errorf("%v is no row", a)
		}
	}
}

// Each function of a row on all rows of few cards, the one with no piles among them.
func TestAllRowsOneByOne(t *testing.T) {
	for n := range fewCards + 1 {
		all := plainRows(n)
		pasts := map[string][][]int{}
		for _, a := range all {
			to := key(plainRowStep(a))
			pasts[to] = append(pasts[to], a)
		}
		for rank, a := range all {
			what := fmt.Sprint("row ", a)
			wantInt(t, what+" rank", rank)(impl.RankRow(a))
			wantList(t, what+" with rank", a)(impl.RowWith(n, rank))
			wantInt(t, what+" past count", len(pasts[key(a)]))(impl.RowPastCount(a))
			if got, ok := impl.RowPasts(a); len(pasts[key(a)]) > impl.MaxRowPasts {
				wantFail(t, what+" pasts")(got, ok)
			} else {
				wantLists(t, what+" pasts", pasts[key(a)])(got, ok)
			}
			checkRow(t, a)
		}
	}
}

// checkRow checks what can be told of a row without all others.
func checkRow(t *testing.T, a []int) {
	t.Helper()
	what := fmt.Sprint("row ", a)
	if !impl.IsRow(a) {
		t.Error(what, "is a row")
	}
	wantList(t, what+" step", plainRowStep(a))(impl.StepRow(a))
	wantList(t, what+" sorted", falling(a))(impl.SortRow(a))
	tail, length := plainRowOrbit(a)
	gotTail, gotLength, ok := impl.RowOrbit(a)
	if gotTail != tail || gotLength != length || !ok {
		t.Error(what, "orbit", gotTail, gotLength, ok, "want", tail, length)
	}
	wantBool(t, what+" is cyclic", tail == 0)(impl.IsCyclicRow(a))
	want := strings.ReplaceAll(key(a), "+", ",")
	if len(a) == 0 {
		want = "-"
	}
	if s, ok := impl.RowText(a); s != want || !ok {
		t.Error(what, "text", s, ok)
	}
	wantList(t, "parse "+want, a)(impl.ParseRow(want))
}

// Rows of more cards, up to MaxCards.
func TestSomeRowsOneByOne(t *testing.T) {
	for _, a := range someRows() {
		checkRow(t, a)
		what, n := fmt.Sprint("row ", a), total(a)
		rank, ok := impl.RankRow(a)
		if !ok {
			t.Error(what, "has no rank")
		}
		wantList(t, what+" with rank", a)(impl.RowWith(n, rank))
		if after, ok := impl.RowWith(n, rank+1); ok && slices.Compare(a, after) <= 0 {
			t.Error(what, "comes before", after)
		}
		checkPastsOfRow(t, a)
	}
}

// checkPastsOfRow checks the pasts of a row with piles: as many different ones as there must be are all of them.
func checkPastsOfRow(t *testing.T, a []int) {
	t.Helper()
	what, count := fmt.Sprint("row ", a), pascal(a[0], len(a)-1)
	wantInt(t, what+" past count", count)(impl.RowPastCount(a))
	pasts, ok := impl.RowPasts(a)
	if count > impl.MaxRowPasts {
		wantFail(t, what+" pasts")(pasts, ok)
		return
	}
	if len(pasts) != count || !ok {
		t.Error(what, "has", len(pasts), "pasts", ok, "want", count)
	}
	for i, past := range pasts {
		if !slices.Equal(plainRowStep(past), a) || i > 0 && slices.Compare(pasts[i-1], past) <= 0 {
			t.Error(what, "past", i, past)
		}
	}
}

func TestPastsOfRowsAtTheBound(t *testing.T) {
	for _, a := range [][]int{{25, 1, 1}, {25, 2, 1}, {25, 1, 2}} {
		wantInt(t, fmt.Sprint("past count of ", a), impl.MaxRowPasts)(impl.RowPastCount(a))
		checkPastsOfRow(t, a)
	}
	many := append([]int{20}, ones(8)...)
	wantInt(t, "past count of 20 1 ..", 125970)(impl.RowPastCount(many))
	for _, a := range [][]int{{26, 1, 1}, {13, 1, 1, 1, 1}, {7, 1, 2, 1, 3}, {24, 1, 1}, {24, 2, 2}, {13, 5, 5, 5}, {27, 1}, {1, 27}, {28}, many} {
		checkPastsOfRow(t, a)
	}
}

// Rows whose first pile is too small for all others to have stayed.
func TestRowsWithoutPast(t *testing.T) {
	for _, a := range [][]int{{1, 1, 1}, {1, 2, 1}, {2, 9, 1, 1}, {1, 13, 14}, ones(28)} {
		wantInt(t, fmt.Sprint("past count of ", a), 0)(impl.RowPastCount(a))
		wantLists(t, fmt.Sprint("pasts of ", a), nil)(impl.RowPasts(a))
	}
}

func TestPlaysOfRows(t *testing.T) {
	rows := slices.Concat(plainRows(0), plainRows(1), plainRows(4), plainRows(6), [][]int{{28}, {1, 27}, {27, 1}, {1, 2, 3, 4, 5, 6, 7}, ones(28)})
	for _, a := range rows {
		for _, k := range []int{0, 1, 2, 7, 30, 999, impl.MaxSteps} {
			play := plainRowPlay(a, k)
			wantLists(t, fmt.Sprint("play ", a, k), play)(impl.PlayRow(a, k))
			wantList(t, fmt.Sprint("steps ", a, k), play[k])(impl.RowSteps(a, k))
		}
		for _, k := range badSteps {
			steps, ok := impl.RowSteps(a, k)
			wantFail(t, fmt.Sprint("steps ", a, k))(steps, ok)
			play, ok := impl.PlayRow(a, k)
			wantFail(t, fmt.Sprint("play ", a, k))(play, ok)
		}
	}
}

// The promise itself: a step of the piles of a row are those of its step.
func TestSortedStepsOfRowsAreStepsOfPiles(t *testing.T) {
	rows := someRows()
	for n := range fewCards + 1 {
		rows = append(rows, plainRows(n)...)
	}
	for _, a := range rows {
		piles, _ := impl.SortRow(a)
		for _, k := range []int{1, 2, 5, impl.MaxSteps} {
			if k > 5 && total(a)%7 != 0 {
				continue
			}
			want, _ := impl.StepsFrom(piles, k)
			behind, _ := impl.RowSteps(a, k)
			wantList(t, fmt.Sprint("sorted ", a, " behind ", k), want)(impl.SortRow(behind))
		}
	}
}

// The promise itself: orbits are told exactly, and no row before them is met again.
func TestOrbitsOfRows(t *testing.T) {
	for _, known := range []struct {
		row          []int
		tail, length int
	}{
		{nil, 0, 1}, {[]int{1}, 0, 1}, {[]int{2}, 0, 2}, {[]int{1, 1}, 0, 2}, {[]int{2, 1}, 0, 1}, {[]int{1, 2}, 1, 1}, {[]int{3}, 2, 1},
		{[]int{2, 2}, 0, 3}, {[]int{1, 2, 1}, 1, 3}, {[]int{7, 6, 5, 4, 3, 2, 1}, 0, 1}, {[]int{1, 2, 3, 4, 5, 6, 7}, 6, 1}, {[]int{28}, 27, 1}, {ones(28), 28, 1},
	} {
		tail, length := plainRowOrbit(known.row)
		if tail != known.tail || length != known.length {
			t.Error("known orbit", known, tail, length)
		}
		checkRow(t, known.row)
	}
	// No row of 28 cards takes longer, and none before this one takes as long.
	row, _ := impl.RowWith(28, 2131019)
	if tail, length, ok := impl.RowOrbit(row); tail != 48 || length != 1 || !ok {
		t.Error("longest orbit", row, tail, length, ok)
	}
}

// The cyclic rows of few cards are their cyclic piles, in this order.
func TestCyclicRowsAreCyclicPiles(t *testing.T) {
	for n := range fewCards + 1 {
		var cyclic [][]int
		for _, a := range plainRows(n) {
			if is, _ := impl.IsCyclicRow(a); is {
				cyclic = append(cyclic, a)
			}
		}
		wantLists(t, fmt.Sprint("cyclic piles of ", n), cyclic)(impl.CyclicPiles(n))
	}
	for n := range impl.MaxCards + 1 {
		piles, _ := impl.CyclicPiles(n)
		for _, a := range piles {
			wantBool(t, fmt.Sprint("row ", a, " is cyclic"), true)(impl.IsCyclicRow(a))
			if upward := slices.Sorted(slices.Values(a)); !slices.Equal(upward, a) {
				wantBool(t, fmt.Sprint("row ", upward, " is cyclic"), false)(impl.IsCyclicRow(upward))
			}
		}
	}
}

func TestCountsAndRanksOfRows(t *testing.T) {
	count := 1
	for n := range impl.MaxCards + 1 {
		if n > 1 {
			count *= 2
		}
		wantInt(t, fmt.Sprint("rows of ", n), count)(impl.CountRows(n))
		for _, rank := range []int{-1, count, count + 1, 1 << 28, 1 << 62, math.MaxInt, math.MinInt} {
			row, ok := impl.RowWith(n, rank)
			wantFail(t, fmt.Sprint("row with ", n, rank))(row, ok)
		}
		wantList(t, fmt.Sprint("last row of ", n), ones(n))(impl.RowWith(n, count-1))
		wantInt(t, fmt.Sprint("rank of the last row of ", n), count-1)(impl.RankRow(ones(n)))
	}
	wantInt(t, "rows of MaxCards", 134217728)(impl.CountRows(impl.MaxCards))
	for rank, row := range [][]int{{28}, {27, 1}, {26, 2}, {26, 1, 1}, {25, 3}, {25, 2, 1}, {25, 1, 2}} {
		wantInt(t, fmt.Sprint("rank of ", row), rank)(impl.RankRow(row))
		wantList(t, fmt.Sprint("row of 28 with ", rank), row)(impl.RowWith(28, rank))
	}
	wantInt(t, "rank of 1 27", 1<<26)(impl.RankRow([]int{1, 27}))
	wantList(t, "row before 1 27", append([]int{2}, ones(26)...))(impl.RowWith(28, 1<<26-1))
	for _, n := range badCards {
		count, ok := impl.CountRows(n)
		wantFail(t, fmt.Sprint("rows of ", n))(count, ok)
		row, ok := impl.RowWith(n, 0)
		wantFail(t, fmt.Sprint("row with ", n))(row, ok)
	}
}

func TestGardensOfRows(t *testing.T) {
	for n := range impl.MaxRowCards + 1 {
		all := plainRows(n)
		made := map[string]bool{}
		for _, a := range all {
			made[key(plainRowStep(a))] = true
		}
		wantInt(t, fmt.Sprint("gardens of ", n), len(all)-len(made))(impl.CountRowGardens(n))
	}
	for n, want := range []int{0, 0, 0, 1, 3} {
		wantInt(t, fmt.Sprint("gardens of ", n), want)(impl.CountRowGardens(n))
	}
	for _, n := range append([]int{13, 14, 28}, badCards...) {
		count, ok := impl.CountRowGardens(n)
		wantFail(t, fmt.Sprint("gardens of ", n))(count, ok)
	}
}

func TestLongestRows(t *testing.T) {
	for n := 1; n <= 10; n++ {
		var longest []int
		most := -1
		for _, a := range plainRows(n) {
			if tail, _ := plainRowOrbit(a); tail > most {
				longest, most = a, tail
			}
		}
		if row, tail, ok := impl.LongestRow(n); !slices.Equal(row, longest) || tail != most || !ok {
			t.Error("longest row of", n, row, tail, ok, "want", longest, most)
		}
	}
	if row, tail, ok := impl.LongestRow(1); !slices.Equal(row, []int{1}) || tail != 0 || !ok {
		t.Error("longest row of 1", row, tail, ok)
	}
	for _, n := range append([]int{0, 11, 12, 13, 28}, badCards...) {
		row, tail, ok := impl.LongestRow(n)
		wantFail(t, fmt.Sprint("longest row of ", n))(row, tail, ok)
	}
}

func TestRowsOfPiles(t *testing.T) {
	noted := map[string]int{}
	piles := pilesOf()
	for n, all := range piles {
		sum := 0
		for _, a := range all {
			want := plainArrangements(a, noted)
			sum += want
			wantInt(t, fmt.Sprint("rows of the piles ", a), want)(impl.RowsOfPiles(a))
		}
		wantInt(t, fmt.Sprint("rows of all piles of ", n), sum)(impl.CountRows(n))
	}
	for n := range fewCards + 1 {
		rows := map[string]int{}
		for _, a := range plainRows(n) {
			rows[key(falling(a))]++
		}
		for _, a := range piles[n] {
			wantInt(t, fmt.Sprint("rows of the piles ", a), rows[key(a)])(impl.RowsOfPiles(a))
		}
	}
	wantInt(t, "rows of no piles", 1)(impl.RowsOfPiles(nil))
	wantInt(t, "rows of 7 6 .. 1", 5040)(impl.RowsOfPiles([]int{7, 6, 5, 4, 3, 2, 1}))
	for _, bad := range slices.Concat(badPiles, badRows) {
		rows, ok := impl.RowsOfPiles(bad)
		wantFail(t, fmt.Sprint("rows of ", bad))(rows, ok)
	}
}

// A row with no piles is its own only past, and cyclic.
func TestRowWithNoPiles(t *testing.T) {
	for _, none := range [][]int{nil, {}} {
		wantList(t, "step", nil)(impl.StepRow(none))
		wantList(t, "steps", nil)(impl.RowSteps(none, impl.MaxSteps))
		wantLists(t, "play", [][]int{{}, {}, {}})(impl.PlayRow(none, 2))
		wantLists(t, "pasts", [][]int{{}})(impl.RowPasts(none))
		wantInt(t, "past count", 1)(impl.RowPastCount(none))
		wantInt(t, "rank", 0)(impl.RankRow(none))
		checkRow(t, none)
	}
	wantInt(t, "count", 1)(impl.CountRows(0))
	wantList(t, "row with rank", nil)(impl.RowWith(0, 0))
	wantInt(t, "gardens", 0)(impl.CountRowGardens(0))
}

func TestParseRowFails(t *testing.T) {
	for _, s := range []string{
		"", " ", ",", "--", "- ", " -", "-\n", "-,1", "1,-", "-,-", "0", "00", "0,0", "3,0", "0,3", "3,", ",3", "3,,2", "03", "3,02", "00,3",
		"29", "28,1", "1,28", "-1", "3,-1", "+3", "3,+1", "-0", "+0", "3 ,2", "3, 2", " 3", "3 ", "3,2 ", "3\n", "3,2\n", "3\t", "3+2", "3.2", "3;2", "3 2",
		"x", "3,x", "1e1", "0x1", "1_0", "3.0", "\x00", "3\x00", "\uff13", "3\uff0c2", "\xff", "99999999999999999999", "18446744073709551619", "4294967299",
		strings.Repeat("1,", 28) + "1", strings.Repeat("1,", 28),
	} {
		a, ok := impl.ParseRow(s)
		wantFail(t, "parse row "+s)(a, ok)
	}
	wantList(t, "parse 28 ones", ones(28))(impl.ParseRow(strings.Repeat("1,", 27) + "1"))
}

func TestNoFunctionTakesWhatIsNoRow(t *testing.T) {
	for _, bad := range badRows {
		what := func(name string) func(...any) { return wantFail(t, fmt.Sprint(name, " ", bad)) }
		step, ok := impl.StepRow(bad)
		what("step")(step, ok)
		for _, k := range []int{-1, 0, 1, impl.MaxSteps} {
			steps, ok := impl.RowSteps(bad, k)
			what("steps")(steps, ok)
			play, ok := impl.PlayRow(bad, k)
			what("play")(play, ok)
		}
		sorted, ok := impl.SortRow(bad)
		what("sorted")(sorted, ok)
		tail, length, ok := impl.RowOrbit(bad)
		what("orbit")(tail, length, ok)
		cyclic, ok := impl.IsCyclicRow(bad)
		what("is cyclic")(cyclic, ok)
		count, ok := impl.RowPastCount(bad)
		what("past count")(count, ok)
		pasts, ok := impl.RowPasts(bad)
		what("pasts")(pasts, ok)
		rank, ok := impl.RankRow(bad)
		what("rank")(rank, ok)
		text, ok := impl.RowText(bad)
		what("text")(text, ok)
	}
}
