package tests

import (
	"fmt"
	"math"
	"slices"
	"strconv"
	"strings"
	"testing"

	"loop.example/g01114/impl"
)

// maxListed is how many cards the bank states have that can be listed.
const maxListed = 14

// badHeights are no heights of bank states.
var badHeights = []int{0, -1, -3, 11, 12, 28, 1000, 1 << 32, 1<<32 + 3, math.MaxInt, math.MinInt, math.MinInt + 1}

// badBanks are no bank states.
var badBanks = []impl.Bank{
	{}, {Piles: []int{}}, {Piles: []int{1}}, {Left: 1}, bank(-1, 0), bank(-1, -2), bank(-3, 1, 3, 3), bank(0, -1), bank(11, 0), bank(11, 1, 3), bank(11, 0, 11), bank(28, 0), bank(28, 0, 28),
	bank(3, 3), bank(3, 3, 3), bank(3, 4, 2), bank(3, -1), bank(3, -1, 2), bank(3, -3, 3), bank(1, 1), bank(1, 1, 1), bank(1, -1, 1), bank(10, 10), bank(10, 10, 10), bank(10, 28), bank(10, -1, 10, 10),
	bank(3, 1, 4), bank(3, 0, 4, 3), bank(1, 0, 2), bank(1, 0, 2, 1), bank(2, 1, 3, 1), bank(10, 0, 11), bank(10, 9, 11, 1), bank(9, 0, 10),
	bank(3, 0, 0), bank(3, 1, 2, 0), bank(3, 1, -1), bank(3, 1, 2, -1), bank(3, 1, 1, 2), bank(3, 1, 2, 3), bank(3, 1, 3, 1, 2), bank(3, 0, 3, 0, 1),
	bank(1, 0, ones(29)...), bank(2, 1, ones(28)...), bank(10, 9, 10, 10), bank(10, 0, 10, 10, 9), bank(10, 8, 10, 10, 1), bank(9, 8, 9, 9, 3), bank(10, 9, ones(20)...), bank(3, 0, ones(5000)...),
	bank(math.MaxInt, 0), bank(math.MaxInt, 1, 2), bank(math.MinInt, 0), bank(math.MinInt, math.MinInt), bank(math.MaxInt, math.MaxInt), bank(3, math.MaxInt), bank(3, math.MinInt), bank(3, math.MaxInt, 1), bank(3, math.MinInt, 3, 3),
	bank(3, 1, math.MaxInt), bank(3, 1, math.MinInt), bank(3, 2, math.MaxInt, math.MaxInt), bank(3, 0, 3, math.MinInt), bank(10, 9, math.MaxInt, math.MaxInt, math.MaxInt),
	bank(1<<32+3, 1, 3), bank(3, 1<<32, 3), bank(3, 1, 1<<32), bank(3, 1, 1<<32+3),
}

func bank(height, left int, piles ...int) impl.Bank {
	return impl.Bank{Height: height, Left: left, Piles: piles}
}

// bankKey is the text of a bank state.
func bankKey(b impl.Bank) string {
	piles := "0"
	if len(b.Piles) > 0 {
		piles = key(b.Piles)
	}
	return strconv.Itoa(b.Height) + ":" + strconv.Itoa(b.Left) + ":" + piles
}

func bankKeys(banks []impl.Bank) []string {
	var keys []string
	for _, b := range banks {
		keys = append(keys, bankKey(b))
	}
	return keys
}

// allStates returns all bank states of a height and n cards, in order, if piles are all piles of each number of cards.
func allStates(piles [][][]int, height, n int) []impl.Bank {
	var states []impl.Bank
	for left := 0; left < height && left <= n; left++ {
		for _, a := range piles[n-left] {
			if !slices.ContainsFunc(a, func(pile int) bool { return pile > height }) {
				states = append(states, bank(height, left, a...))
			}
		}
	}
	return states
}

// plainBankStep moves each card on its own.
func plainBankStep(b impl.Bank) (impl.Bank, int) {
	left, piles, made := b.Left, slices.Clone(b.Piles), 0
	for i := range piles {
		piles[i]--
		left++
	}
	for left >= b.Height {
		for range b.Height {
			left--
		}
		piles = append(piles, b.Height)
		made++
	}
	return bank(b.Height, left, falling(piles)...), made
}

// bankGraph tells of bank states of one height with as many cards where their steps lead.
type bankGraph struct {
	next   map[string]string
	pasts  map[string][]impl.Bank // In order.
	cyclic map[string]bool
}

// plainBankGraph finds the cyclic states by taking away those without a past, as long as there are any.
func plainBankGraph(states []impl.Bank) bankGraph {
	g := bankGraph{map[string]string{}, map[string][]impl.Bank{}, map[string]bool{}}
	comes := map[string]int{}
	for _, b := range states {
		next, _ := plainBankStep(b)
		g.next[bankKey(b)] = bankKey(next)
		g.pasts[bankKey(next)] = append(g.pasts[bankKey(next)], b)
		g.cyclic[bankKey(b)] = true
		comes[bankKey(next)]++
	}
	for _, b := range states {
		for s := bankKey(b); comes[s] == 0 && g.cyclic[s]; s = g.next[s] {
			g.cyclic[s] = false
			comes[g.next[s]]--
		}
	}
	return g
}

// orbit returns in how many steps a state comes to its cycle, and how long that is.
func (g bankGraph) orbit(s string) (int, int) {
	first, length := 0, 1
	for ; !g.cyclic[s]; s = g.next[s] {
		first++
	}
	for around := g.next[s]; around != s; around = g.next[around] {
		length++
	}
	return first, length
}

// wantBank checks a call that returns a bank state.
func wantBank(t *testing.T, what string, want impl.Bank) func(impl.Bank, bool) {
	return func(got impl.Bank, ok bool) {
		t.Helper()
		if !ok || got.Height != want.Height || got.Left != want.Left || !slices.Equal(got.Piles, want.Piles) {
			t.Errorf("%s: %v %v, want %v", what, got, ok, want)
		}
	}
}

// wantBanks checks a call that returns bank states.
func wantBanks(t *testing.T, what string, want []impl.Bank) func([]impl.Bank, bool) {
	return func(got []impl.Bank, ok bool) {
		t.Helper()
		if !ok || !slices.Equal(bankKeys(got), bankKeys(want)) {
			t.Errorf("%s: %v %v, want %v", what, bankKeys(got), ok, bankKeys(want))
		}
	}
}

// wantBankStep checks a call that makes a step.
func wantBankStep(t *testing.T, what string, want impl.Bank, made int) func(impl.Bank, int, bool) {
	return func(got impl.Bank, n int, ok bool) {
		t.Helper()
		wantBank(t, what, want)(got, ok)
		wantInt(t, what+": new piles", made)(n, ok)
	}
}

// wantText checks a call that returns a text.
func wantText(t *testing.T, what string, want string) func(string, bool) {
	return func(got string, ok bool) {
		t.Helper()
		if !ok || got != want {
			t.Errorf("%s: %q %v, want %q", what, got, ok, want)
		}
	}
}

func TestExampleOfBanks(t *testing.T) {
	start := bank(3, 1, 3, 3)
	wantBank(t, "start", start)(impl.StartBank(3, 7))
	wantText(t, "start", "3:1:3+3")(impl.BankText(start))
	wantBankStep(t, "step", bank(3, 0, 3, 2, 2), 1)(impl.StepBank(start))
	wantBankStep(t, "next", bank(3, 0, 3, 2, 1, 1), 1)(impl.StepBank(bank(3, 0, 3, 2, 2)))
	wantBank(t, "two steps", bank(3, 0, 3, 2, 1, 1))(impl.BankSteps(start, 2))
	wantBank(t, "parsed", bank(3, 0, 3, 2, 2))(impl.ParseBank("3:0:3+2+2"))
}

func TestIsBank(t *testing.T) {
	for _, b := range []impl.Bank{
		bank(1, 0), {Height: 1, Piles: []int{}}, bank(10, 0), bank(10, 9), bank(3, 2), bank(1, 0, 1), bank(1, 0, ones(28)...), bank(3, 2, 3, 3), bank(10, 9, 10, 9),
		bank(10, 8, 10, 10), bank(10, 0, 10, 10, 8), bank(10, 9, ones(19)...), bank(3, 0, 3, 2, 2), bank(3, 1, 1), bank(9, 1, 9, 9, 9), bank(2, 0, slices.Repeat([]int{2}, 14)...),
	} {
		if !impl.IsBank(b) {
			t.Error(b, "is a bank state")
		}
	}
	for _, b := range badBanks {
		if impl.IsBank(b) {
			t.Error(b, "is no bank state")
		}
	}
}

// Each function of a bank state, on all of them.
func TestAllBanksOneByOne(t *testing.T) {
	piles := pilesOf()
	for height := 1; height <= impl.MaxHeight; height++ {
		for n := range impl.MaxCards + 1 {
			states := allStates(piles, height, n)
			g := plainBankGraph(states)
			wantInt(t, fmt.Sprint("count of ", height, n), len(states))(impl.CountBanks(height, n))
			checkLists(t, height, n, states, g)
			for _, b := range states {
				checkBank(t, b, n)
				checkBankOrbit(t, b, g)
				checkBankPasts(t, b, n, g)
			}
		}
	}
}

// checkBank checks what can be told of a bank state without all others.
func checkBank(t *testing.T, b impl.Bank, n int) {
	t.Helper()
	what := bankKey(b)
	if !impl.IsBank(b) {
		t.Error(what, "is a bank state")
	}
	wantInt(t, what, n)(impl.BankCards(b))
	wantText(t, what, what)(impl.BankText(b))
	wantBank(t, what, b)(impl.ParseBank(what))
	next, made := plainBankStep(b)
	wantBankStep(t, what+" step", next, made)(impl.StepBank(b))
	ages := make([]int, b.Height)
	for i := range ages {
		for _, pile := range b.Piles {
			if pile+i == b.Height {
				ages[i]++
			}
		}
	}
	wantList(t, what+" ages", ages)(impl.AgesOf(b))
	wantBank(t, what+" from ages", b)(impl.FromAges(b.Height, b.Left, ages))
}

func checkBankOrbit(t *testing.T, b impl.Bank, g bankGraph) {
	t.Helper()
	what := bankKey(b)
	first, length := g.orbit(what)
	wantPair(t, what+" orbit", first, length)(impl.BankOrbit(b))
	wantBool(t, what+" is cyclic", first == 0)(impl.IsCyclicBank(b))
}

func checkBankPasts(t *testing.T, b impl.Bank, n int, g bankGraph) {
	t.Helper()
	pasts, ok := impl.BankPasts(b)
	if n > maxListed {
		wantFail(t, bankKey(b)+" pasts")(pasts, ok)
		return
	}
	wantBanks(t, bankKey(b)+" pasts", g.pasts[bankKey(b)])(pasts, ok)
}

// checkLists checks the lists of all bank states and of all cyclic ones.
func checkLists(t *testing.T, height, n int, states []impl.Bank, g bankGraph) {
	t.Helper()
	what := fmt.Sprint("banks of ", height, n)
	all, lists := impl.AllBanks(height, n)
	cyclic, told := impl.CyclicBanks(height, n)
	if n > maxListed {
		wantFail(t, what)(all, lists)
		wantFail(t, "cyclic "+what)(cyclic, told)
		return
	}
	wantBanks(t, what, states)(all, lists)
	around := slices.DeleteFunc(slices.Clone(states), func(b impl.Bank) bool { return !g.cyclic[bankKey(b)] })
	wantBanks(t, "cyclic "+what, around)(cyclic, told)
}

func TestStartBank(t *testing.T) {
	for height := 1; height <= impl.MaxHeight; height++ {
		for n := range impl.MaxCards + 1 {
			want := bank(height, n)
			for want.Left >= height {
				want.Left -= height
				want.Piles = append(want.Piles, height)
			}
			wantBank(t, fmt.Sprint("start of ", height, n), want)(impl.StartBank(height, n))
		}
	}
	wantBank(t, "start of 1 28", bank(1, 0, ones(28)...))(impl.StartBank(1, 28))
	wantBank(t, "start of 10 28", bank(10, 8, 10, 10))(impl.StartBank(10, 28))
	wantBank(t, "start of 10 9", bank(10, 9))(impl.StartBank(10, 9))
	wantBank(t, "start of 10 10", bank(10, 0, 10))(impl.StartBank(10, 10))
	wantBank(t, "start of 3 0", bank(3, 0))(impl.StartBank(3, 0))
}

// Steps that make no new pile, one, and more than one.
func TestKnownStepsOfBanks(t *testing.T) {
	for _, known := range []struct {
		before, behind impl.Bank
		made           int
	}{
		{bank(3, 2), bank(3, 2), 0}, {bank(3, 0, 2, 2), bank(3, 2, 1, 1), 0}, {bank(10, 0, 10), bank(10, 1, 9), 0}, {bank(10, 8, 1), bank(10, 9), 0}, {bank(3, 0, 1, 1), bank(3, 2), 0},
		{bank(10, 9, 1), bank(10, 0, 10), 1}, {bank(3, 2, 3), bank(3, 0, 3, 2), 1}, {bank(3, 0, 1, 1, 1), bank(3, 0, 3), 1}, {bank(1, 0, 1), bank(1, 0, 1), 1},
		{bank(1, 0, ones(28)...), bank(1, 0, ones(28)...), 28}, {bank(2, 0, ones(28)...), bank(2, 0, slices.Repeat([]int{2}, 14)...), 14}, {bank(3, 2, 2, 1, 1, 1, 1), bank(3, 1, 3, 3, 1), 2},
		{bank(10, 9, ones(19)...), bank(10, 8, 10, 10), 2}, {bank(3, 2, ones(26)...), bank(3, 1, slices.Repeat([]int{3}, 9)...), 9},
	} {
		wantBankStep(t, "step of "+bankKey(known.before), known.behind, known.made)(impl.StepBank(known.before))
	}
}

func TestPlaysOfBanks(t *testing.T) {
	for _, b := range []impl.Bank{
		bank(3, 1, 3, 3), bank(1, 0), bank(10, 0), bank(10, 9), bank(1, 0, 1, 1), bank(1, 0, ones(28)...), bank(2, 1, 2, 1), bank(10, 8, 10, 10), bank(10, 0, 10, 10, 8),
		bank(5, 4, 5, 5, 5, 5, 4), bank(5, 0), bank(7, 6, 1), bank(10, 9, ones(19)...), bank(4, 0, 4, 3, 3, 2),
	} {
		at, made := b, []int{}
		for k := range impl.MaxSteps + 1 {
			if k < 40 || k > impl.MaxSteps-3 {
				what := fmt.Sprint(bankKey(b), " behind ", k)
				wantBank(t, what, at)(impl.BankSteps(b, k))
				wantList(t, what+": new piles", made)(impl.NewPiles(b, k))
			}
			next, n := plainBankStep(at)
			at, made = next, append(made, n)
		}
		for _, k := range badSteps {
			behind, ok := impl.BankSteps(b, k)
			wantFail(t, fmt.Sprint(bankKey(b), " behind ", k))(behind, ok)
			piles, ok := impl.NewPiles(b, k)
			wantFail(t, fmt.Sprint(bankKey(b), " new piles ", k))(piles, ok)
		}
	}
}

// The promise itself: a bank and its piles keep all cards, and each new pile takes as many as the Height.
func TestBanksKeepAllCards(t *testing.T) {
	piles := pilesOf()
	for height := 1; height <= impl.MaxHeight; height++ {
		for n := 0; n <= impl.MaxCards; n += 1 + n/10 {
			states := allStates(piles, height, n)
			for i := 0; i < len(states); i += 1 + len(states)/60 {
				b := states[i]
				made, _ := impl.NewPiles(b, 50)
				for k := range 50 {
					before, _ := impl.BankSteps(b, k)
					behind, ok := impl.BankSteps(b, k+1)
					wantInt(t, bankKey(behind), n)(impl.BankCards(behind))
					if behind.Left != before.Left+len(before.Piles)-height*made[k] || !ok {
						t.Error(bankKey(before), "step to", bankKey(behind), "with", made[k], "new piles")
					}
				}
			}
		}
	}
}

// The promise itself: a play ends in the cycle that is told, and in none before it.
func TestPlaysOfBanksEndInCycles(t *testing.T) {
	piles := pilesOf()
	for height := 1; height <= impl.MaxHeight; height++ {
		for n := range impl.MaxCards + 1 {
			states := allStates(piles, height, n)
			for i := 0; i < len(states); i += 1 + len(states)/40 {
				b := states[i]
				first, length, ok := impl.BankOrbit(b)
				play := bankKeys(playOfBank(b, first+length))
				if !ok || play[first] != play[first+length] {
					t.Error(bankKey(b), "does not come again", first, length, ok)
				}
				slices.Sort(play)
				if len(slices.Compact(play)) != first+length {
					t.Error(bankKey(b), "comes again before", first, length)
				}
			}
		}
	}
	for _, known := range []struct {
		b             impl.Bank
		first, length int
	}{
		{bank(3, 0), 0, 1}, {bank(3, 2), 0, 1}, {bank(10, 9), 0, 1}, {bank(1, 0), 0, 1}, {bank(1, 0, ones(28)...), 0, 1},
		{bank(2, 0, 2), 0, 2}, {bank(2, 0, 1, 1), 1, 2}, {bank(10, 0, 10), 0, 10}, {bank(3, 1, 3, 3), 3, 1}, {bank(3, 1, 3, 2, 1), 0, 1}, {bank(10, 8, 10, 10), 15, 7},
	} {
		want, wantLength := plainBankGraph(playOfBank(known.b, 60)).orbit(bankKey(known.b))
		if want != known.first || wantLength != known.length {
			t.Error("known orbit", known, want, wantLength)
		}
		wantPair(t, bankKey(known.b)+" orbit", known.first, known.length)(impl.BankOrbit(known.b))
		wantBool(t, bankKey(known.b)+" is cyclic", known.first == 0)(impl.IsCyclicBank(known.b))
	}
}

// playOfBank returns a bank state and those behind k steps.
func playOfBank(b impl.Bank, k int) []impl.Bank {
	play := []impl.Bank{b}
	for i := range k {
		next, _ := plainBankStep(play[i])
		play = append(play, next)
	}
	return play
}

func TestBanksWithoutCards(t *testing.T) {
	for height := 1; height <= impl.MaxHeight; height++ {
		for _, b := range []impl.Bank{{Height: height}, {Height: height, Piles: []int{}}} {
			checkBank(t, b, 0)
			wantBankStep(t, "step", b, 0)(impl.StepBank(b))
			wantBank(t, "steps", b)(impl.BankSteps(b, impl.MaxSteps))
			wantList(t, "new piles", []int{0, 0})(impl.NewPiles(b, 2))
			wantBanks(t, "pasts", []impl.Bank{b})(impl.BankPasts(b))
			wantList(t, "ages", make([]int, height))(impl.AgesOf(b))
			wantBanks(t, "all", []impl.Bank{b})(impl.AllBanks(height, 0))
			wantBanks(t, "cyclic", []impl.Bank{b})(impl.CyclicBanks(height, 0))
		}
	}
}

func TestListsOfBanks(t *testing.T) {
	wantInt(t, "count of 2 3", 4)(impl.CountBanks(2, 3))
	wantBanks(t, "banks of 2 3", []impl.Bank{bank(2, 0, 2, 1), bank(2, 0, 1, 1, 1), bank(2, 1, 2), bank(2, 1, 1, 1)})(impl.AllBanks(2, 3))
	wantBanks(t, "banks of 3 2", []impl.Bank{bank(3, 0, 2), bank(3, 0, 1, 1), bank(3, 1, 1), bank(3, 2)})(impl.AllBanks(3, 2))
	wantBanks(t, "banks of 1 14", []impl.Bank{bank(1, 0, ones(14)...)})(impl.AllBanks(1, 14))
	wantBanks(t, "cyclic banks of 2 2", []impl.Bank{bank(2, 0, 2), bank(2, 1, 1)})(impl.CyclicBanks(2, 2))
	wantBanks(t, "pasts of 2:0:2", []impl.Bank{bank(2, 0, 1, 1), bank(2, 1, 1)})(impl.BankPasts(bank(2, 0, 2)))
	wantBanks(t, "pasts of 2:0:1+1", nil)(impl.BankPasts(bank(2, 0, 1, 1)))
	wantBanks(t, "pasts of 3:2:1+1+1", nil)(impl.BankPasts(bank(3, 2, 1, 1, 1)))
	wantBanks(t, "pasts of 1 with 14 cards", []impl.Bank{bank(1, 0, ones(14)...)})(impl.BankPasts(bank(1, 0, ones(14)...)))
	wantBanks(t, "pasts of 10:4:10", []impl.Bank{
		bank(10, 0, ones(14)...), bank(10, 1, ones(13)...), bank(10, 2, ones(12)...), bank(10, 3, ones(11)...), bank(10, 4, ones(10)...),
		bank(10, 5, ones(9)...), bank(10, 6, ones(8)...), bank(10, 7, ones(7)...), bank(10, 8, ones(6)...), bank(10, 9, ones(5)...),
	})(impl.BankPasts(bank(10, 4, 10)))
	for _, b := range []impl.Bank{bank(1, 0, ones(15)...), bank(10, 5, 10), bank(10, 9, 6), bank(3, 0, 3, 3, 3, 3, 3), bank(10, 8, 10, 10)} {
		pasts, ok := impl.BankPasts(b)
		wantFail(t, "pasts of "+bankKey(b))(pasts, ok)
	}
}

func TestNoBanksOfOtherHeights(t *testing.T) {
	for _, height := range badHeights {
		for _, n := range []int{0, 1, 7, 14, 28, -1, math.MaxInt, math.MinInt} {
			checkNoBanks(t, height, n)
		}
		for _, ages := range [][]int{nil, {}, {1}, {1, 1, 1}, make([]int, 10), make([]int, 11), make([]int, 12), make([]int, 28)} {
			b, ok := impl.FromAges(height, 0, ages)
			wantFail(t, fmt.Sprint("from ages ", height, ages))(b, ok)
		}
	}
	for height := 1; height <= impl.MaxHeight; height++ {
		for _, n := range badCards {
			checkNoBanks(t, height, n)
		}
		for _, n := range []int{15, 16, 28} {
			all, ok := impl.AllBanks(height, n)
			wantFail(t, fmt.Sprint("all ", height, n))(all, ok)
			cyclic, ok := impl.CyclicBanks(height, n)
			wantFail(t, fmt.Sprint("cyclic ", height, n))(cyclic, ok)
		}
	}
}

func checkNoBanks(t *testing.T, height, n int) {
	t.Helper()
	what := func(name string) func(...any) { return wantFail(t, fmt.Sprint(name, height, n)) }
	start, ok := impl.StartBank(height, n)
	what("start ")(start, ok)
	count, ok := impl.CountBanks(height, n)
	what("count ")(count, ok)
	all, ok := impl.AllBanks(height, n)
	what("all ")(all, ok)
	cyclic, ok := impl.CyclicBanks(height, n)
	what("cyclic ")(cyclic, ok)
}

// Ages are as many as the Height tells, with zeros at the end too.
func TestAgesOfBanks(t *testing.T) {
	wantList(t, "ages of 10:0:10", []int{1, 0, 0, 0, 0, 0, 0, 0, 0, 0})(impl.AgesOf(bank(10, 0, 10)))
	wantList(t, "ages of 3:0:3+2+1+1", []int{1, 1, 2})(impl.AgesOf(bank(3, 0, 3, 2, 1, 1)))
	wantList(t, "ages of 1:0:1+1", []int{2})(impl.AgesOf(bank(1, 0, 1, 1)))
	wantList(t, "ages of 3:2:0", []int{0, 0, 0})(impl.AgesOf(bank(3, 2)))
	wantBank(t, "from 1 0 0", bank(3, 2, 3))(impl.FromAges(3, 2, []int{1, 0, 0}))
	wantBank(t, "from 0 0 0", bank(3, 0))(impl.FromAges(3, 0, []int{0, 0, 0}))
	wantBank(t, "from 28", bank(1, 0, ones(28)...))(impl.FromAges(1, 0, []int{28}))
	wantBank(t, "from 0 28", bank(2, 0, ones(28)...))(impl.FromAges(2, 0, []int{0, 28}))
	wantBank(t, "from 2 0 ..", bank(10, 8, 10, 10))(impl.FromAges(10, 8, []int{2, 0, 0, 0, 0, 0, 0, 0, 0, 0}))
	for _, bad := range []struct {
		height, left int
		ages         []int
	}{
		{3, 0, nil}, {3, 0, []int{}}, {3, 0, []int{1}}, {3, 0, []int{1, 1}}, {3, 0, []int{1, 1, 1, 0}}, {3, 0, []int{1, 1, 1, 1}}, {3, 0, []int{0, 0, 0, 0}}, {1, 0, nil}, {1, 0, []int{1, 0}}, {10, 0, make([]int, 9)}, {10, 0, make([]int, 11)},
		{3, 3, []int{0, 0, 0}}, {3, -1, []int{1, 0, 0}}, {1, 1, []int{1}}, {10, 10, make([]int, 10)}, {3, math.MaxInt, []int{1, 1, 1}}, {3, math.MinInt, []int{1, 1, 1}}, {3, 1 << 32, []int{0, 0, 0}},
		{3, 0, []int{-1, 1, 1}}, {3, 0, []int{2, -1, 1}}, {3, 0, []int{1, 1, -1}}, {3, 0, []int{0, 0, -1}}, {3, 2, []int{-1, 0, 0}}, {1, 0, []int{-1}}, {1, 0, []int{math.MinInt}}, {3, 0, []int{0, math.MinInt, 0}},
		{1, 0, []int{29}}, {2, 1, []int{0, 28}}, {2, 0, []int{0, 29}}, {2, 0, []int{15, 0}}, {2, 1, []int{14, 0}}, {10, 9, []int{2, 0, 0, 0, 0, 0, 0, 0, 0, 0}}, {3, 0, []int{28, 28, 28}}, {3, 2, []int{9, 0, 0}}, {3, 1, []int{9, 0, 1}},
		{1, 0, []int{math.MaxInt}}, {3, 0, []int{0, 0, math.MaxInt}}, {3, 0, []int{math.MaxInt, math.MaxInt, 2}}, {2, 0, []int{1 << 62, 1 << 62}}, {4, 0, []int{1 << 62, 0, 0, 0}}, {3, 1, []int{1 << 32, 0, 0}}, {3, 0, []int{math.MinInt, math.MinInt, 0}},
	} {
		b, ok := impl.FromAges(bad.height, bad.left, bad.ages)
		wantFail(t, fmt.Sprint("from ages ", bad))(b, ok)
	}
}

func TestParseBankFails(t *testing.T) {
	for _, s := range []string{
		"", " ", ":", "::", ":::", "3", "3:", "3:1", "3:1:", ":1:3", "3::3", "::3", ":1:", "3::", "3:1:3:", ":3:1:3", "3:1:3:0", "3:1:3:3", "1:3:1:3", "3:1::3", "3::1:3", "3:1 3", "3+3", "0", "0:0:0",
		" 3:1:3", "3 :1:3", "3: 1:3", "3:1 :3", "3:1: 3", "3:1:3 ", "3:1:3 +3", "3:1:3+ 3", "3:1:3\n", "\n3:1:3", "3:1:3\t", "3:1:3+3+", "3:1:+3", "3:1:3++3",
		"+3:1:3", "3:+1:3", "3:1:+3+3", "-3:1:3", "3:-1:3", "3:1:-3", "3:-0:3", "3:1:-0", "3:+0:3", "3:1:+0", "3:-1:2",
		"03:1:3", "3:01:3", "3:1:03", "3:00:3", "3:1:00", "3:1:0+3", "3:1:3+0", "3:1:0+0", "010:1:3", "3:1:3+03",
		"0:0:1", "11:0:0", "11:1:3", "3:3:0", "3:3:3", "1:1:0", "3:1:4", "3:1:2+3", "10:10:0", "10:9:10+10", "2:1:" + strings.Repeat("1+", 27) + "1", "1:0:" + strings.Repeat("1+", 28) + "1",
		"x:1:3", "3:x:3", "3:1:x", "3,1,3", "3;1;3", "3.0:1:3", "3:1.0:3", "0x3:1:3", "3:0x1:3", "3e0:1:3", "1_0:0:10", "\uff13:1:3", "3:1:3\x00", "\xff:1:3", "3\uff1a1:3",
		"18446744073709551619:1:3", "3:18446744073709551617:3", "3:1:18446744073709551619", "4294967299:1:3", "3:4294967297:3", "99999999999999999999:1:3", strings.Repeat("3:", 3000), strings.Repeat(":", 3000),
	} {
		b, ok := impl.ParseBank(s)
		wantFail(t, "parse bank "+s)(b, ok)
	}
	wantBank(t, "parse 1:0:0", bank(1, 0))(impl.ParseBank("1:0:0"))
	wantBank(t, "parse 10:9:10+9", bank(10, 9, 10, 9))(impl.ParseBank("10:9:10+9"))
	wantBank(t, "parse 28 ones", bank(1, 0, ones(28)...))(impl.ParseBank("1:0:" + strings.Repeat("1+", 27) + "1"))
}

func TestNoFunctionTakesWhatIsNoBank(t *testing.T) {
	for _, bad := range badBanks {
		what := func(name string) func(...any) { return wantFail(t, fmt.Sprintf("%s %.60v", name, bad)) }
		cards, ok := impl.BankCards(bad)
		what("cards")(cards, ok)
		step, made, ok := impl.StepBank(bad)
		what("step")(step, made, ok)
		for _, k := range []int{-1, 0, 1, impl.MaxSteps} {
			steps, ok := impl.BankSteps(bad, k)
			what("steps")(steps, ok)
			piles, ok := impl.NewPiles(bad, k)
			what("new piles")(piles, ok)
		}
		first, length, ok := impl.BankOrbit(bad)
		what("orbit")(first, length, ok)
		cyclic, ok := impl.IsCyclicBank(bad)
		what("is cyclic")(cyclic, ok)
		pasts, ok := impl.BankPasts(bad)
		what("pasts")(pasts, ok)
		ages, ok := impl.AgesOf(bad)
		what("ages")(ages, ok)
		text, ok := impl.BankText(bad)
		what("text")(text, ok)
	}
}
