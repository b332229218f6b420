package tests

import (
	"fmt"
	"math"
	"slices"
	"testing"

	"loop.example/g01114/impl"
)

// A card is known by the place where it stands: a pile and a number in it, from the bottom on.
type card struct{ pile, place int }

// cardsIn returns all cards of piles.
func cardsIn(a []int) []card {
	var cards []card
	for i, pile := range a {
		for p := 0; p < pile; p++ {
			cards = append(cards, card{i, p})
		}
	}
	return cards
}

// plainLevels counts the cards on each level in an array that has room for all levels.
func plainLevels(a []int) []int {
	var counts [2 * impl.MaxCards]int
	last := -1
	for _, c := range cardsIn(a) {
		counts[c.pile+c.place]++
		last = max(last, c.pile+c.place)
	}
	return counts[:last+1]
}

func plainPotential(a []int) int {
	sum := 0
	for _, c := range cardsIn(a) {
		sum += c.pile + c.place
	}
	return sum
}

// plainPotentials returns the potentials of the piles and of those behind up to k steps.
func plainPotentials(a []int, k int) []int {
	potentials := []int{plainPotential(a)}
	for range k {
		a = plainStep(a)
		potentials = append(potentials, plainPotential(a))
	}
	return potentials
}

// plainNextDrop returns the number of the first step that makes the potential less, or -1:
// 200 steps are more than any play takes to its cycle.
func plainNextDrop(a []int) int {
	for k := 1; k <= 200; k++ {
		b := plainStep(a)
		if plainPotential(b) < plainPotential(a) {
			return k
		}
		a = b
	}
	return -1
}

// cardsBehind deals the cards of piles as a step does, without sorting, and tells for each where it stands then.
func cardsBehind(a []int) map[card]card {
	dealt := [][]card{nil}
	for i, pile := range a {
		dealt[0] = append(dealt[0], card{i, 0})
		var rest []card
		for p := 1; p < pile; p++ {
			rest = append(rest, card{i, p})
		}
		dealt = append(dealt, rest)
	}
	behind := map[card]card{}
	for i, pile := range dealt {
		for p, c := range pile {
			behind[c] = card{i, p}
		}
	}
	return behind
}

// firstHole returns the level and the pile of the first place without a card, from level to level.
func firstHole(a []int) (int, int) {
	cards := cardsIn(a)
	for level := 0; ; level++ {
		for pile := 0; pile <= level; pile++ {
			if !slices.Contains(cards, card{pile, level - pile}) {
				return level, pile
			}
		}
	}
}

// lastSpill returns the level and the pile of the first card on the greatest level with one.
func lastSpill(a []int) (int, int) {
	level, at := -1, 0
	for _, c := range cardsIn(a) { // They come from pile to pile.
		if c.pile+c.place > level {
			level, at = c.pile+c.place, c.pile
		}
	}
	return level, at
}

// wantPair checks a call that returns two numbers.
func wantPair(t *testing.T, what string, first, second int) func(int, int, bool) {
	return func(x, y int, ok bool) {
		t.Helper()
		if x != first || y != second || !ok {
			t.Errorf("%s: %v %v %v, want %v %v", what, x, y, ok, first, second)
		}
	}
}

func TestExampleOfLevels(t *testing.T) {
	a := []int{3, 1, 1, 1}
	wantList(t, "levels", []int{1, 2, 2, 1})(impl.LevelsOf(a))
	wantInt(t, "potential", 9)(impl.PotentialOf(a))
	wantInt(t, "potential of 4 2", 9)(impl.PotentialOf([]int{4, 2}))
	wantInt(t, "potential of 3 2 1", 8)(impl.PotentialOf([]int{3, 2, 1}))
	wantList(t, "potentials", []int{9, 9, 8, 8})(impl.PotentialsOf(a, 3))
	wantInt(t, "drop", 0)(impl.DropOf(a))
	wantInt(t, "drop of 4 2", 1)(impl.DropOf([]int{4, 2}))
	wantInt(t, "next drop", 2)(impl.NextDrop(a))
	wantPair(t, "hole", 2, 1)(impl.HoleOf(a))
	wantPair(t, "spill", 3, 3)(impl.SpillOf(a))
}

// Each function of piles on all piles there are, the empty ones and those of MaxCards cards among them.
func TestAllLevelsOneByOne(t *testing.T) {
	for n, all := range pilesOf() {
		least, greatest := math.MaxInt, math.MinInt
		for _, a := range all {
			least, greatest = min(least, plainPotential(a)), max(greatest, plainPotential(a))
		}
		wantInt(t, fmt.Sprint("least potential of ", n), least)(impl.LeastPotential(n))
		wantInt(t, fmt.Sprint("greatest potential of ", n), greatest)(impl.GreatestPotential(n))
		wantInt(t, fmt.Sprint("potential of one pile of ", n), greatest)(impl.PotentialOf(falling([]int{n})))
		for _, a := range all {
			what := fmt.Sprint("piles ", a)
			wantList(t, what+" levels", plainLevels(a))(impl.LevelsOf(a))
			wantInt(t, what+" potential", plainPotential(a))(impl.PotentialOf(a))
			wantInt(t, what+" drop", plainPotential(a)-plainPotential(plainStep(a)))(impl.DropOf(a))
			wantList(t, what+" potentials", plainPotentials(a, 9))(impl.PotentialsOf(a, 9))
			if is, ok := impl.IsLeast(a); is != (plainPotential(a) == least) || !ok {
				t.Error(what, "is least", is, ok)
			}
			checkNextDrop(t, a)
			checkHoleAndSpill(t, a)
			if n <= 18 {
				checkCardsBehind(t, a)
			}
		}
	}
}

func checkNextDrop(t *testing.T, a []int) {
	t.Helper()
	what := fmt.Sprint("next drop of ", a)
	got, ok := impl.NextDrop(a)
	if want := plainNextDrop(a); want > 0 {
		wantInt(t, what, want)(got, ok)
	} else {
		wantFail(t, what)(got, ok)
	}
}

func checkHoleAndSpill(t *testing.T, a []int) {
	t.Helper()
	level, pile := firstHole(a)
	wantPair(t, fmt.Sprint("hole of ", a), level, pile)(impl.HoleOf(a))
	if spill, at := lastSpill(a); spill >= 0 {
		wantPair(t, fmt.Sprint("spill of ", a), spill, at)(impl.SpillOf(a))
	}
}

// checkCardsBehind checks CardBehind for each place in and around the piles.
func checkCardsBehind(t *testing.T, a []int) {
	t.Helper()
	behind := cardsBehind(a)
	for pile := -1; pile <= len(a)+1; pile++ {
		for place := -1; place <= total(a)+1; place++ {
			what := fmt.Sprint("card ", place, " in pile ", pile, " of ", a)
			x, y, ok := impl.CardBehind(a, pile, place)
			if to, is := behind[card{pile, place}]; is {
				wantPair(t, what, to.pile, to.place)(x, y, ok)
			} else {
				wantFail(t, what)(x, y, ok)
			}
		}
	}
}

// The promise itself, of all piles: the potential never rises, by DropOf and by the play, and is least exactly
// in cycles, which are also told by the first hole and the last spill.
func TestPotentialNeverRisesAndIsLeastInCycles(t *testing.T) {
	for n := range impl.MaxCards + 1 {
		all, _ := impl.AllPiles(n)
		least, _ := impl.LeastPotential(n)
		longest, _ := impl.LongestTail(n)
		for _, a := range all {
			potentials, ok := impl.PotentialsOf(a, longest)
			if !ok || len(potentials) != longest+1 {
				t.Error("potentials of", a, potentials, ok)
				continue
			}
			for k := range longest {
				if potentials[k+1] > potentials[k] {
					t.Error("the potential rises:", a, potentials)
				}
			}
			if potentials[longest] != least {
				t.Error("the potential does not become least:", a, potentials)
			}
			cyclic, _ := impl.IsCyclic(a)
			if is, ok := impl.IsLeast(a); is != cyclic || !ok {
				t.Error("is least", a, is, ok)
			}
			if _, ok := impl.NextDrop(a); ok == cyclic {
				t.Error("next drop", a, ok)
			}
			hole, _, _ := impl.HoleOf(a)
			if spill, _, ok := impl.SpillOf(a); (!ok || spill <= hole) != cyclic {
				t.Error("hole and spill", a, hole, spill, ok)
			}
		}
	}
}

// A step keeps each card on its level, and moves all of them to different places, of the unsorted piles behind it.
func TestCardsStayOnTheirLevels(t *testing.T) {
	for n := range impl.MaxCards + 1 {
		all, _ := impl.AllPiles(n)
		for _, a := range all[:min(len(all), 400)] {
			heights := make([]int, len(a)+1)
			for _, c := range cardsIn(a) {
				pile, place, ok := impl.CardBehind(a, c.pile, c.place)
				if !ok || pile+place != c.pile+c.place {
					t.Fatal("card", c, "of", a, pile, place, ok)
				}
				heights[pile]++
			}
			if !slices.Equal(falling(heights), plainStep(a)) {
				t.Error("behind a step of", a, heights)
			}
		}
	}
}

func TestPotentialsOfLongPlays(t *testing.T) {
	all := pilesOf()
	for _, a := range slices.Concat(all[0], all[1], all[4], all[8], all[28][:3], all[28][3715:]) {
		for _, k := range []int{0, 1, 2, 42, 999, impl.MaxSteps} {
			wantList(t, fmt.Sprint("potentials ", a, k), plainPotentials(a, k))(impl.PotentialsOf(a, k))
		}
		for _, k := range badSteps {
			got, ok := impl.PotentialsOf(a, k)
			wantFail(t, fmt.Sprint("potentials ", a, k))(got, ok)
		}
	}
}

func TestBoundsOfPotentials(t *testing.T) {
	for n, want := range []int{0, 0, 1, 2, 4, 6, 8, 11, 14, 17, 20} {
		wantInt(t, fmt.Sprint("least potential of ", n), want)(impl.LeastPotential(n))
	}
	wantInt(t, "least potential of 28", 112)(impl.LeastPotential(impl.MaxCards))
	for n, want := range []int{0, 0, 1, 3, 6, 10} {
		wantInt(t, fmt.Sprint("greatest potential of ", n), want)(impl.GreatestPotential(n))
	}
	wantInt(t, "greatest potential of 28", 378)(impl.GreatestPotential(impl.MaxCards))
	for _, n := range badCards {
		least, ok := impl.LeastPotential(n)
		wantFail(t, fmt.Sprint("least potential of ", n))(least, ok)
		greatest, ok := impl.GreatestPotential(n)
		wantFail(t, fmt.Sprint("greatest potential of ", n))(greatest, ok)
	}
}

// A card goes round its level step by step; the level 0 has one place only.
func TestRoundOf(t *testing.T) {
	for level := range impl.MaxCards + 1 {
		c := card{0, level}
		for at := range impl.MaxSteps + 1 {
			wantInt(t, fmt.Sprint("round of ", level, " at ", at), c.pile)(impl.RoundOf(level, at))
			if c.place == 0 {
				c = card{0, c.pile}
			} else {
				c = card{c.pile + 1, c.place - 1}
			}
		}
		for _, at := range badSteps {
			pile, ok := impl.RoundOf(level, at)
			wantFail(t, fmt.Sprint("round of ", level, " at ", at))(pile, ok)
		}
	}
	wantInt(t, "round of level 0", 0)(impl.RoundOf(0, impl.MaxSteps))
	wantInt(t, "round of level 28", 14)(impl.RoundOf(impl.MaxCards, impl.MaxSteps))
	for _, level := range badCards {
		for _, at := range []int{-1, 0, 1, impl.MaxSteps, 1001} {
			pile, ok := impl.RoundOf(level, at)
			wantFail(t, fmt.Sprint("round of ", level, " at ", at))(pile, ok)
		}
	}
}

// The steps of a staircase exchange no piles, so its cards go round for ever.
func TestRoundsOfTheStaircase(t *testing.T) {
	stairs, _ := impl.Staircase(7)
	for level := range 7 {
		pile, place := 0, level
		for at := range 50 {
			wantInt(t, fmt.Sprint("round of ", level, " at ", at), pile)(impl.RoundOf(level, at))
			pile, place, _ = impl.CardBehind(stairs, pile, place)
		}
	}
}

func TestLevelsOfNoPiles(t *testing.T) {
	for _, none := range [][]int{nil, {}} {
		wantList(t, "levels", nil)(impl.LevelsOf(none))
		wantInt(t, "potential", 0)(impl.PotentialOf(none))
		wantInt(t, "drop", 0)(impl.DropOf(none))
		wantList(t, "potentials", []int{0, 0, 0})(impl.PotentialsOf(none, 2))
		if least, ok := impl.IsLeast(none); !least || !ok {
			t.Error("is least", least, ok)
		}
		next, ok := impl.NextDrop(none)
		wantFail(t, "next drop")(next, ok)
		pile, place, ok := impl.CardBehind(none, 0, 0)
		wantFail(t, "card behind")(pile, place, ok)
		wantPair(t, "hole", 0, 0)(impl.HoleOf(none))
		level, pile, ok := impl.SpillOf(none)
		wantFail(t, "spill")(level, pile, ok)
	}
}

// One card stands on the level 0 and comes to the same place again.
func TestLevelOfOneCard(t *testing.T) {
	one := []int{1}
	wantList(t, "levels", one)(impl.LevelsOf(one))
	wantInt(t, "potential", 0)(impl.PotentialOf(one))
	wantPair(t, "card behind", 0, 0)(impl.CardBehind(one, 0, 0))
	wantPair(t, "hole", 1, 0)(impl.HoleOf(one))
	wantPair(t, "spill", 0, 0)(impl.SpillOf(one))
}

func TestHolesAndSpillsOfMaxCards(t *testing.T) {
	wantPair(t, "hole of one pile", 1, 1)(impl.HoleOf([]int{28}))
	wantPair(t, "spill of one pile", 27, 0)(impl.SpillOf([]int{28}))
	wantPair(t, "hole of ones", 1, 0)(impl.HoleOf(ones(28)))
	wantPair(t, "spill of ones", 27, 27)(impl.SpillOf(ones(28)))
	wantPair(t, "hole of the staircase", 7, 0)(impl.HoleOf([]int{7, 6, 5, 4, 3, 2, 1}))
	wantPair(t, "spill of the staircase", 6, 0)(impl.SpillOf([]int{7, 6, 5, 4, 3, 2, 1}))
	wantPair(t, "the highest card of one pile", 1, 26)(impl.CardBehind([]int{28}, 0, 27))
	wantPair(t, "the last card of ones", 0, 27)(impl.CardBehind(ones(28), 27, 0))
}

func TestNoCardBehind(t *testing.T) {
	for _, a := range [][]int{{1}, {3, 1, 1, 1}, {28}, ones(28)} {
		for _, bad := range []int{-1, 28, 29, math.MaxInt, math.MinInt, 1 << 32} {
			for _, place := range []int{0, 1, bad} {
				what := fmt.Sprint("card of ", a, bad, place)
				x, y, ok := impl.CardBehind(a, bad, place)
				wantFail(t, what)(x, y, ok)
				x, y, ok = impl.CardBehind(a, place, bad)
				wantFail(t, what)(x, y, ok)
			}
		}
	}
}

func TestNoLevelsOfWhatIsNoPiles(t *testing.T) {
	for _, bad := range badPiles {
		what := func(name string) func(...any) { return wantFail(t, fmt.Sprint(name, " ", bad)) }
		levels, ok := impl.LevelsOf(bad)
		what("levels")(levels, ok)
		potential, ok := impl.PotentialOf(bad)
		what("potential")(potential, ok)
		drop, ok := impl.DropOf(bad)
		what("drop")(drop, ok)
		for _, k := range []int{-1, 0, 1, impl.MaxSteps} {
			potentials, ok := impl.PotentialsOf(bad, k)
			what("potentials")(potentials, ok)
		}
		least, ok := impl.IsLeast(bad)
		what("is least")(least, ok)
		next, ok := impl.NextDrop(bad)
		what("next drop")(next, ok)
		for _, place := range []int{-1, 0, 1} {
			x, y, ok := impl.CardBehind(bad, 0, place)
			what("card behind")(x, y, ok)
		}
		level, pile, ok := impl.HoleOf(bad)
		what("hole")(level, pile, ok)
		level, pile, ok = impl.SpillOf(bad)
		what("spill")(level, pile, ok)
	}
}
