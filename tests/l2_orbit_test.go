package tests

import (
	"fmt"
	"math"
	"slices"
	"testing"

	"loop.example/g01114/impl"
)

// badBits are lists that are no bits.
var badBits = [][]int{
	nil, {}, {1}, {1, 1}, {1, 1, 1, 1, 1, 1, 1, 1}, {2}, {-1}, {0, 2}, {2, 0}, {-1, 0}, {0, 1, -1}, {0, 0, 0, 3},
	{0, 0, 0, 0, 0, 0, 0, 0, 0}, {1, 0, 0, 0, 0, 0, 0, 0, 0}, make([]int, 5000),
	{0, math.MaxInt}, {0, math.MinInt}, {0, 1 << 32}, {0, 1<<32 + 1},
}

// An orbit is what brute force finds out about piles: all of their play up to where it comes again.
type orbit struct {
	tail  int
	cycle [][]int
	name  string // The same for all piles with the same cycle.
}

// plainOrbit plays until piles come again.
func plainOrbit(a []int) orbit {
	met := map[string]int{}
	var play [][]int
	for {
		if at, again := met[key(a)]; again {
			names := []string{}
			for _, b := range play[at:] {
				names = append(names, "("+key(b)+")")
			}
			slices.Sort(names)
			return orbit{at, play[at:], fmt.Sprint(names)}
		}
		met[key(a)] = len(play)
		play = append(play, a)
		a = plainStep(a)
	}
}

// allBits returns all bits with count numbers, those with a 1 in front first.
func allBits(count int) [][]int {
	lists := [][]int{{}}
	for range count {
		var longer [][]int
		for _, list := range lists {
			longer = append(longer, append(slices.Clone(list), 1), append(slices.Clone(list), 0))
		}
		lists = longer
	}
	return lists[1:] // All but the first one have a 0.
}

// plainPiles returns the numbers for which bits stand, whatever their sum is.
func plainPiles(bits []int) []int {
	var a []int
	for i, bit := range bits {
		a = append(a, len(bits)-1-i+bit)
	}
	return slices.DeleteFunc(a, func(x int) bool { return x == 0 })
}

// plainTurn lets the last bit become the first one, again and again.
func plainTurn(bits []int, by int) []int {
	bits = slices.Clone(bits)
	for range by {
		last := len(bits) - 1
		bits = append([]int{bits[last]}, bits[:last]...)
	}
	return bits
}

func TestExampleOfPlays(t *testing.T) {
	wantInt(t, "tail of 4", 1)(impl.TailOf([]int{4}))
	wantLists(t, "cycle of 4", [][]int{{3, 1}, {2, 2}, {2, 1, 1}})(impl.CycleOf([]int{4}))
	wantList(t, "bits of 3 1", []int{1, 0, 0})(impl.BitsOf([]int{3, 1}))
	wantList(t, "bits of 2 2", []int{0, 1, 0})(impl.BitsOf([]int{2, 2}))
	wantList(t, "bits of 2 1 1", []int{0, 0, 1})(impl.BitsOf([]int{2, 1, 1}))
	wantInt(t, "basin of 4", 5)(impl.BasinSize([]int{4}))
}

// Each function of piles on all piles there are, the empty ones and those of MaxCards cards among them.
func TestAllPlaysOneByOne(t *testing.T) {
	standing := map[string][]int{}
	for count := 1; count <= 8; count++ {
		for _, bits := range allBits(count) {
			standing[key(plainPiles(bits))] = bits
		}
	}
	for _, all := range pilesOf() {
		for _, a := range all {
			what := fmt.Sprint("play of ", a)
			known := plainOrbit(a)
			wantInt(t, what+" tail", known.tail)(impl.TailOf(a))
			wantLists(t, what+" cycle", known.cycle)(impl.CycleOf(a))
			wantInt(t, what+" cycle length", len(known.cycle))(impl.CycleLength(a))
			if cyclic, ok := impl.IsCyclic(a); cyclic != (known.tail == 0) || !ok {
				t.Error(what, "is cyclic", cyclic, ok)
			}
			bits, ok := impl.BitsOf(a)
			if known.tail > 0 {
				wantFail(t, what+" bits")(bits, ok)
				continue
			}
			wantList(t, what+" bits", standing[key(a)])(bits, ok)
			wantList(t, what+" from bits", a)(impl.FromBits(bits))
			wantList(t, what+" turned bits", standing[key(plainStep(a))])(impl.TurnBits(bits, 1))
		}
	}
}

// Each function of a number of cards, and the basins, held against the plays of all piles of as many cards.
func TestCyclesOfAllPiles(t *testing.T) {
	for n, all := range pilesOf() {
		what := fmt.Sprint(n, " cards: ")
		var names []string // That of the cycle of each of all piles.
		sizes, met := map[string]int{}, map[string]bool{}
		var cyclic, firsts [][]int
		farthest, longest := 0, -1
		for i, a := range all {
			known := plainOrbit(a)
			names = append(names, known.name)
			sizes[known.name]++
			if known.tail > longest {
				farthest, longest = i, known.tail
			}
			if known.tail == 0 {
				cyclic = append(cyclic, a)
				if !met[known.name] {
					firsts = append(firsts, a)
				}
				met[known.name] = true
			}
		}
		wantLists(t, what+"cyclic piles", cyclic)(impl.CyclicPiles(n))
		wantLists(t, what+"first of cycles", firsts)(impl.FirstOfCycles(n))
		wantInt(t, what+"cycles", len(sizes))(impl.CountCycles(n))
		wantInt(t, what+"longest tail", longest)(impl.LongestTail(n))
		wantList(t, what+"farthest start", all[farthest])(impl.FarthestStart(n))
		for i, a := range all {
			// Only some of many piles, as each call goes through the whole basin.
			if n <= 14 || i == farthest || i%(n*n/2) == 0 {
				wantInt(t, fmt.Sprint("basin of ", a), sizes[names[i]])(impl.BasinSize(a))
			}
		}
	}
}

// Cycles are as many as there are ways to put the bits round a ring.
func TestCyclesAreRings(t *testing.T) {
	for n := range impl.MaxCards + 1 {
		height, more, _ := impl.HeightFor(n)
		rings := map[string]bool{}
		for _, bits := range allBits(height + 1) {
			first := bits
			for by := range bits {
				if turned := plainTurn(bits, by); slices.Compare(turned, first) > 0 {
					first = turned
				}
			}
			if total(bits) == more {
				rings[key(first)] = true
			}
		}
		wantInt(t, fmt.Sprint("cycles of ", n), len(rings))(impl.CountCycles(n))
	}
	wantInt(t, "cycles of 8", 2)(impl.CountCycles(8))
	wantInt(t, "cycles of 24", 5)(impl.CountCycles(24))
	wantInt(t, "cycles of 28", 1)(impl.CountCycles(impl.MaxCards))
}

func TestBasinsShareAllPiles(t *testing.T) {
	for n := range impl.MaxCards + 1 {
		firsts, _ := impl.FirstOfCycles(n)
		sum := 0
		for _, a := range firsts {
			size, _ := impl.BasinSize(a)
			sum += size
		}
		if sum != knownCounts[n] {
			t.Errorf("the basins of %d cards have %d piles, want %d", n, sum, knownCounts[n])
		}
	}
}

func TestLongestTailOfStaircases(t *testing.T) {
	for k := range 8 {
		wantInt(t, fmt.Sprint("longest tail for the staircase of ", k), k*k-k)(impl.LongestTail(k * (k + 1) / 2))
	}
	wantInt(t, "longest tail of MaxCards", 42)(impl.LongestTail(impl.MaxCards))
}

func TestNoPilesAreCyclic(t *testing.T) {
	for _, none := range [][]int{nil, {}} {
		wantInt(t, "tail", 0)(impl.TailOf(none))
		wantLists(t, "cycle", [][]int{{}})(impl.CycleOf(none))
		wantInt(t, "cycle length", 1)(impl.CycleLength(none))
		if cyclic, ok := impl.IsCyclic(none); !cyclic || !ok {
			t.Error("no piles are cyclic", cyclic, ok)
		}
		wantList(t, "bits", []int{0})(impl.BitsOf(none))
		wantInt(t, "basin", 1)(impl.BasinSize(none))
		wantInt(t, "meet", 0)(impl.MeetOfPlays(none, none))
		meet, ok := impl.MeetOfPlays(none, []int{1})
		wantFail(t, "meet with 1")(meet, ok)
	}
	wantList(t, "from bits 0", nil)(impl.FromBits([]int{0}))
	wantList(t, "turned bits 0", []int{0})(impl.TurnBits([]int{0}, impl.MaxSteps))
	wantLists(t, "cyclic piles", [][]int{{}})(impl.CyclicPiles(0))
	wantLists(t, "first of cycles", [][]int{{}})(impl.FirstOfCycles(0))
	wantInt(t, "cycles", 1)(impl.CountCycles(0))
	wantInt(t, "longest tail", 0)(impl.LongestTail(0))
	wantList(t, "farthest start", nil)(impl.FarthestStart(0))
}

// All bits there are, those of more than MaxCards cards too: these stand for no piles, but can be turned.
func TestAllBits(t *testing.T) {
	for count := 1; count <= 8; count++ {
		for _, bits := range allBits(count) {
			what := fmt.Sprint("bits ", bits)
			piles, ok := impl.FromBits(bits)
			small := total(plainPiles(bits)) <= impl.MaxCards
			if small {
				wantList(t, what+" piles", plainPiles(bits))(piles, ok)
				wantList(t, what+" of their piles", bits)(impl.BitsOf(piles))
			} else {
				wantFail(t, what+" piles")(piles, ok)
			}
			for _, by := range []int{0, 1, 2, 3, 7, 8, 9, 500, 999, impl.MaxSteps} {
				turned, ok := impl.TurnBits(bits, by)
				wantList(t, fmt.Sprint(what, " turned by ", by), plainTurn(bits, by))(turned, ok)
				if small {
					behind, _ := impl.StepsFrom(piles, by)
					wantList(t, fmt.Sprint(what, " behind ", by), behind)(impl.FromBits(turned))
				}
			}
			for _, by := range badSteps {
				turned, ok := impl.TurnBits(bits, by)
				wantFail(t, fmt.Sprint(what, " turned by ", by))(turned, ok)
			}
		}
	}
}

// plainMeet returns the number of steps behind which both plays have the same piles, or -1:
// 200 steps are more than any play takes to its cycle and round it.
func plainMeet(a, b []int) int {
	for steps := range 200 {
		if slices.Equal(a, b) {
			return steps
		}
		a, b = plainStep(a), plainStep(b)
	}
	return -1
}

func TestMeetOfPlays(t *testing.T) {
	all := pilesOf()
	few := slices.Concat(all[0], all[1], all[2], all[3], all[4], all[5], all[6], all[7], all[8])
	some := slices.Concat(all[19][:12], all[19][478:], all[21][:6], all[24][:12], all[24][1563:], all[28][:6], all[28][3712:])
	for _, list := range [][][]int{few, some} {
		for _, a := range list {
			for _, b := range list {
				what := fmt.Sprint("meet of ", a, b)
				if steps := plainMeet(a, b); steps >= 0 {
					wantInt(t, what, steps)(impl.MeetOfPlays(a, b))
				} else {
					got, ok := impl.MeetOfPlays(a, b)
					wantFail(t, what)(got, ok)
				}
			}
		}
	}
	wantInt(t, "meet of 3 and 1 1 1", 2)(impl.MeetOfPlays([]int{3}, []int{1, 1, 1}))
	got, ok := impl.MeetOfPlays([]int{3, 1}, []int{2, 2}) // They follow each other for ever.
	wantFail(t, "meet of 3 1 and 2 2")(got, ok)
}

func TestNoPlayOfWhatIsNoPiles(t *testing.T) {
	good := []int{2, 1}
	for _, bad := range badPiles {
		what := func(name string) func(...any) { return wantFail(t, fmt.Sprint(name, " ", bad)) }
		tail, ok := impl.TailOf(bad)
		what("tail")(tail, ok)
		cycle, ok := impl.CycleOf(bad)
		what("cycle")(cycle, ok)
		length, ok := impl.CycleLength(bad)
		what("cycle length")(length, ok)
		cyclic, ok := impl.IsCyclic(bad)
		what("is cyclic")(cyclic, ok)
		bits, ok := impl.BitsOf(bad)
		what("bits")(bits, ok)
		size, ok := impl.BasinSize(bad)
		what("basin")(size, ok)
		left, ok := impl.MeetOfPlays(bad, good)
		what("meet")(left, ok)
		right, ok := impl.MeetOfPlays(good, bad)
		what("meet")(right, ok)
		both, ok := impl.MeetOfPlays(bad, bad)
		what("meet")(both, ok)
	}
}

func TestNoPlayOfOtherNumbersAndBits(t *testing.T) {
	for _, bad := range badBits {
		piles, ok := impl.FromBits(bad)
		wantFail(t, fmt.Sprint("from bits ", bad))(piles, ok)
		for _, by := range []int{-1, 0, 1, impl.MaxSteps} {
			turned, ok := impl.TurnBits(bad, by)
			wantFail(t, fmt.Sprint("turn bits ", bad))(turned, ok)
		}
	}
	for _, n := range badCards {
		what := func(name string) func(...any) { return wantFail(t, fmt.Sprint(name, " ", n)) }
		cyclic, ok := impl.CyclicPiles(n)
		what("cyclic piles")(cyclic, ok)
		count, ok := impl.CountCycles(n)
		what("cycles")(count, ok)
		firsts, ok := impl.FirstOfCycles(n)
		what("first of cycles")(firsts, ok)
		tail, ok := impl.LongestTail(n)
		what("longest tail")(tail, ok)
		start, ok := impl.FarthestStart(n)
		what("farthest start")(start, ok)
	}
}
