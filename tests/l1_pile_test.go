package tests

import (
	"fmt"
	"math"
	"slices"
	"testing"

	"loop.example/g01114/impl"
)

// badPiles are lists that are no piles.
var badPiles = [][]int{
	{0}, {-1}, {29}, {1, 0}, {0, 1}, {1, 2}, {3, 1, 2}, {2, 2, 3}, {3, 0, 1}, {3, -1},
	{28, 1}, {14, 15}, {15, 14}, ones(29), slices.Repeat([]int{1}, 5000), {27, 2},
	{math.MaxInt}, {math.MinInt}, {math.MaxInt, 1}, {math.MaxInt, math.MaxInt}, {math.MaxInt, math.MaxInt, 2},
	{2, math.MinInt}, {1 << 32}, {1 << 62, 1 << 62, 1 << 62, 1 << 62},
}

// badCards are numbers that are not in 0..MaxCards.
var badCards = []int{-1, -28, 29, 30, 1000, math.MaxInt, math.MinInt}

// badSteps are numbers that are not in 0..MaxSteps.
var badSteps = []int{-1, 1001, 1 << 32, math.MaxInt, math.MinInt}

func TestIsPiles(t *testing.T) {
	for _, a := range [][]int{nil, {}, {1}, {28}, {27, 1}, {14, 14}, ones(28), {7, 6, 5, 4, 3, 2, 1}, {3, 3, 1, 1}} {
		if !impl.IsPiles(a) {
			t.Errorf("%v are piles", a)
		}
	}
	for _, a := range badPiles {
		if impl.IsPiles(a) {
			t.Errorf("%v are no piles", a)
		}
	}
}

func TestExampleOfPiles(t *testing.T) {
	wantList(t, "step of 3 2 1", []int{3, 2, 1})(impl.StepPiles([]int{3, 2, 1}))
	wantList(t, "step of 3 1 1 1", []int{4, 2})(impl.StepPiles([]int{3, 1, 1, 1}))
	wantLists(t, "pasts of 3 2 1", [][]int{{4, 2}, {3, 2, 1}})(impl.PastsOf([]int{3, 2, 1}))
	if k, more, ok := impl.HeightFor(8); k != 3 || more != 2 || !ok {
		t.Error("height for 8", k, more, ok)
	}
}

// Each function on all piles there are, the empty ones and those of MaxCards cards among them.
func TestAllPilesOneByOne(t *testing.T) {
	for n, all := range pilesOf() {
		pasts := map[string][][]int{}
		for _, a := range all {
			to := key(plainStep(a))
			pasts[to] = append(pasts[to], a)
		}
		for rank, a := range all {
			what := fmt.Sprint("piles ", a)
			if !impl.IsPiles(a) {
				t.Error(what, "are piles")
			}
			wantInt(t, what+" cards", n)(impl.CardsOf(a))
			wantList(t, what+" step", plainStep(a))(impl.StepPiles(a))
			wantList(t, what+" side", plainSide(a))(impl.SideOf(a))
			wantList(t, what+" side of the side", a)(impl.SideOf(plainSide(a)))
			wantList(t, what+" side step", plainSide(plainStep(plainSide(a))))(impl.SideStep(a))
			wantLists(t, what+" pasts", pasts[key(a)])(impl.PastsOf(a))
			wantInt(t, what+" past count", len(pasts[key(a)]))(impl.PastCount(a))
			checkPastsBy(t, a, pasts[key(a)])
			wantInt(t, what+" rank", rank)(impl.RankPiles(a))
			wantList(t, what+" with rank", a)(impl.PilesWith(n, rank))
			checkText(t, a)
		}
	}
}

// checkPastsBy checks PastBy for each number of cards: the past by a pile is the one that has as many piles.
func checkPastsBy(t *testing.T, a []int, pasts [][]int) {
	t.Helper()
	for pile := -1; pile <= impl.MaxCards+1; pile++ {
		what := fmt.Sprint("past of ", a, " by ", pile)
		at := slices.IndexFunc(pasts, func(past []int) bool { return len(past) == pile })
		if past, ok := impl.PastBy(a, pile); at < 0 || len(a) == 0 {
			wantFail(t, what)(past, ok)
		} else {
			wantList(t, what, pasts[at])(past, ok)
		}
	}
}

func checkText(t *testing.T, a []int) {
	t.Helper()
	want := key(a)
	if len(a) == 0 {
		want = "0"
	}
	if s, ok := impl.PilesText(a); s != want || !ok {
		t.Error("text of", a, s, ok)
	}
	wantList(t, "parse "+want, a)(impl.ParsePiles(want))
}

func TestNoPiles(t *testing.T) {
	for _, none := range [][]int{nil, {}} {
		wantInt(t, "cards", 0)(impl.CardsOf(none))
		wantList(t, "step", nil)(impl.StepPiles(none))
		wantList(t, "steps", nil)(impl.StepsFrom(none, impl.MaxSteps))
		wantLists(t, "play", [][]int{{}, {}, {}})(impl.PlayOf(none, 2))
		wantList(t, "side", nil)(impl.SideOf(none))
		wantList(t, "side step", nil)(impl.SideStep(none))
		wantLists(t, "pasts", [][]int{{}})(impl.PastsOf(none))
		wantInt(t, "past count", 1)(impl.PastCount(none))
		past, ok := impl.PastBy(none, 0)
		wantFail(t, "past by 0")(past, ok)
		wantInt(t, "rank", 0)(impl.RankPiles(none))
		wantList(t, "join", nil)(impl.JoinPiles(none, none))
		wantList(t, "join", []int{2, 1})(impl.JoinPiles(none, []int{2, 1}))
	}
	wantList(t, "staircase", nil)(impl.Staircase(0))
	wantLists(t, "all piles", [][]int{{}})(impl.AllPiles(0))
	wantList(t, "piles with rank", nil)(impl.PilesWith(0, 0))
}

func TestPlays(t *testing.T) {
	all := pilesOf()
	for _, a := range slices.Concat(all[0], all[1], all[4], all[9], all[28][:3], all[28][3715:]) {
		for _, k := range []int{0, 1, 2, 7, 30, 999, impl.MaxSteps} {
			play := [][]int{a}
			for len(play) <= k {
				play = append(play, plainStep(play[len(play)-1]))
			}
			wantLists(t, fmt.Sprint("play ", a, k), play)(impl.PlayOf(a, k))
			wantList(t, fmt.Sprint("steps ", a, k), play[k])(impl.StepsFrom(a, k))
		}
	}
	for _, k := range badSteps {
		steps, ok := impl.StepsFrom([]int{2, 1}, k)
		wantFail(t, fmt.Sprint("steps ", k))(steps, ok)
		play, ok := impl.PlayOf([]int{2, 1}, k)
		wantFail(t, fmt.Sprint("play ", k))(play, ok)
	}
}

func TestStaircases(t *testing.T) {
	stairs := [][]int{{}, {1}, {2, 1}, {3, 2, 1}, {4, 3, 2, 1}, {5, 4, 3, 2, 1}, {6, 5, 4, 3, 2, 1}, {7, 6, 5, 4, 3, 2, 1}}
	for k, want := range stairs {
		wantList(t, fmt.Sprint("staircase ", k), want)(impl.Staircase(k))
	}
	for _, k := range []int{-1, 8, 28, math.MaxInt, math.MinInt} {
		stair, ok := impl.Staircase(k)
		wantFail(t, fmt.Sprint("staircase ", k))(stair, ok)
	}
	for n := 0; n <= impl.MaxCards; n++ {
		want := 0
		for want < 7 && total(stairs[want+1]) <= n {
			want++
		}
		if k, more, ok := impl.HeightFor(n); k != want || more != n-total(stairs[want]) || !ok {
			t.Error("height for", n, k, more, ok)
		}
	}
	for _, n := range badCards {
		k, more, ok := impl.HeightFor(n)
		wantFail(t, fmt.Sprint("height for ", n))(k, more, ok)
	}
}

func TestAllPilesAndTheirCount(t *testing.T) {
	for n, all := range pilesOf() {
		wantInt(t, fmt.Sprint("count ", n), knownCounts[n])(impl.CountPiles(n))
		wantLists(t, fmt.Sprint("all ", n), all)(impl.AllPiles(n))
		for _, rank := range []int{-1, knownCounts[n], knownCounts[n] + 1, math.MaxInt, math.MinInt} {
			a, ok := impl.PilesWith(n, rank)
			wantFail(t, fmt.Sprint("piles with ", n, rank))(a, ok)
		}
	}
	for _, n := range badCards {
		count, ok := impl.CountPiles(n)
		wantFail(t, fmt.Sprint("count ", n))(count, ok)
		all, ok := impl.AllPiles(n)
		wantFail(t, fmt.Sprint("all ", n))(all, ok)
		a, ok := impl.PilesWith(n, 0)
		wantFail(t, fmt.Sprint("piles with ", n))(a, ok)
	}
}

func TestJoinPiles(t *testing.T) {
	all := pilesOf()
	var some [][]int
	for _, n := range []int{0, 1, 2, 3, 6, 7, 14, 21, 22, 27, 28} {
		some = append(some, all[n][:min(len(all[n]), 12)]...)
		some = append(some, all[n][len(all[n])/2], all[n][len(all[n])-1])
	}
	for _, a := range some {
		for _, b := range some {
			what := fmt.Sprint("join ", a, b)
			if joined, ok := impl.JoinPiles(a, b); total(a)+total(b) > impl.MaxCards {
				wantFail(t, what)(joined, ok)
			} else {
				wantList(t, what, falling(slices.Concat(a, b)))(joined, ok)
			}
		}
	}
	wantList(t, "join to MaxCards", []int{20, 5, 2, 1})(impl.JoinPiles([]int{5, 1}, []int{20, 2}))
	joined, ok := impl.JoinPiles([]int{20, 2}, []int{5, 1, 1})
	wantFail(t, "join to more than MaxCards")(joined, ok)
}

func TestParsePilesFails(t *testing.T) {
	for _, s := range []string{
		"", " ", "+", "-", "00", "0+0", "3+0", "0+3", "3+", "+3", "3++2", "03", "3+02", "1+2", "2+1+2", "29", "28+1", "-1", "3+-1",
		"3 2", "3, 2", "3,2", " 3", "3 ", "3\n", "3+ 2", "x", "3+x", "1e1", "0x1", "1_0", "3.0", "\x00", "3\x00", "\uff13", "\xff", "+0", "-0",
		"99999999999999999999", "18446744073709551619", "4294967299", "1+1+1+1+1+1+1+1+1+1+1+1+1+1+1+1+1+1+1+1+1+1+1+1+1+1+1+1+1",
	} {
		a, ok := impl.ParsePiles(s)
		wantFail(t, "parse "+s)(a, ok)
	}
}

func TestNoFunctionTakesWhatIsNoPiles(t *testing.T) {
	good := []int{2, 1}
	for _, bad := range badPiles {
		what := func(name string) func(...any) { return wantFail(t, fmt.Sprint(name, " ", bad)) }
		cards, ok := impl.CardsOf(bad)
		what("cards")(cards, ok)
		step, ok := impl.StepPiles(bad)
		what("step")(step, ok)
		for _, k := range []int{0, 1, impl.MaxSteps} {
			steps, ok := impl.StepsFrom(bad, k)
			what("steps")(steps, ok)
			play, ok := impl.PlayOf(bad, k)
			what("play")(play, ok)
		}
		side, ok := impl.SideOf(bad)
		what("side")(side, ok)
		sideStep, ok := impl.SideStep(bad)
		what("side step")(sideStep, ok)
		pasts, ok := impl.PastsOf(bad)
		what("pasts")(pasts, ok)
		for _, pile := range bad[:min(len(bad), 4)] {
			past, ok := impl.PastBy(bad, pile)
			what("past by")(past, ok)
		}
		count, ok := impl.PastCount(bad)
		what("past count")(count, ok)
		rank, ok := impl.RankPiles(bad)
		what("rank")(rank, ok)
		left, ok := impl.JoinPiles(bad, good)
		what("join")(left, ok)
		right, ok := impl.JoinPiles(good, bad)
		what("join")(right, ok)
		alone, ok := impl.JoinPiles(nil, bad)
		what("join")(alone, ok)
		text, ok := impl.PilesText(bad)
		what("text")(text, ok)
	}
}
