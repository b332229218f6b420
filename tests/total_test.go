package tests

import (
	"fmt"
	"math"
	"reflect"
	"slices"
	"strings"
	"testing"

	"loop.example/g01114/impl"
)

// sentinel fills the spare capacity of arguments, which no function may touch or hand out.
const sentinel = 777777

var (
	someLists = slices.Concat(badPiles, badBits, badRows, badSands, [][]int{
		nil, {}, {1}, {2}, {1, 1}, {2, 1}, {3, 1}, {1, 1, 1}, {3, 2, 1}, {3, 1, 1, 1}, {4, 2}, {3, 3, 2}, {2, 2, 2},
		{28}, {27, 1}, {14, 14}, {7, 6, 5, 4, 3, 2, 1}, {14, 7, 7}, ones(14), ones(28),
		{0, 1}, {1, 0, 0}, {0, 1, 0, 1}, {0, 1, 1, 1, 1, 1, 1}, {0, 0, 0, 0, 0, 0, 0, 0}, {1, 1, 1, 1, 1, 1, 1, 0},
		{1, 3}, {2, 1, 2}, {1, 27}, {25, 1, 1}, {26, 1, 1}, {1, 2, 3, 4, 5, 6, 7},
		{4}, {2, 2}, {2, 1, 1}, {6}, {5, 4, 3, 2, 1}, {15}, {16}, {10, 8, 4, 2}, {24}, {6, 5, 4, 3, 3, 2, 1}, ones(12), twelveTwos,
		{0, 0, 1}, {11}, {12}, make([]int, 300), make([]int, 301),
	})
	someNumbers = []int{math.MinInt, -1, 0, 1, 2, 3, 7, 8, 10, 11, 12, 13, 14, 28, 29, 60, 61, 100, 1000, 1001, 3717, 3718, 1<<27 - 1, 1 << 27, math.MaxInt}
	someBanks   = slices.Concat(badBanks, []impl.Bank{
		bank(1, 0), {Height: 10, Piles: []int{}}, bank(10, 9), bank(1, 0, 1), bank(1, 0, ones(14)...), bank(1, 0, ones(15)...), bank(1, 0, ones(28)...),
		bank(2, 0, 2), bank(2, 0, 1, 1), bank(2, 1, 2, 1), bank(3, 1, 3, 3), bank(3, 0, 3, 2, 2), bank(3, 0, 3, 2, 1, 1), bank(3, 2, 1, 1, 1), bank(3, 2, 3, 3, 3, 3),
		bank(10, 4, 10), bank(10, 5, 10), bank(10, 8, 10, 10), bank(10, 9, ones(19)...), bank(10, 0, 10, 10, 8),
	})
	someTexts = []string{
		"", "0", "1", "3+2+1", "28", "29", "1+2", "3+", "+", "03", "x", "\xff\x00", "3+2+1\n", "-", "-,1", "1,2", "2,1,2", "1, 2", "2,", "01,2", "+1,2",
		"3:1:3+3", "1:0:0", "10:9:10+9", "3:1:", "3:1", ":", "::", "3:3:3", "3:1:4", "03:1:3", "3:+1:3", "3:1:3 ", "3:1:3:3", "11:0:0", "3:-1:3",
		"\n", " ", "take 4", "take 0", "take 29", "step", "steps 3", "steps 1001", "side", "past 2", "past 28", "stairs 7", "stairs 8", "sort 1,2", "show", "cards", "pasts", "tail", "length", "row 2,1,2", "orbit 28", "bank 3:1:3+3", "start 3 7", "start 0 1000000", "fly",
		"step\n", "take 4\nfly\n", "take 4\nshow", strings.Repeat("\n", impl.MaxLines), strings.Repeat("\n", impl.MaxLines+1), strings.Repeat("x", impl.MaxScript), strings.Repeat("x", impl.MaxScript-1) + "\n", strings.Repeat("x", impl.MaxScript) + "\n",
	}
)

// promised are the functions that have landed: promise 9 speaks of each of them.
var promised = map[string]any{
	"IsPiles": impl.IsPiles, "CardsOf": impl.CardsOf, "StepPiles": impl.StepPiles, "StepsFrom": impl.StepsFrom,
	"PlayOf": impl.PlayOf, "SideOf": impl.SideOf, "SideStep": impl.SideStep, "PastsOf": impl.PastsOf,
	"PastBy": impl.PastBy, "PastCount": impl.PastCount, "Staircase": impl.Staircase, "HeightFor": impl.HeightFor,
	"CountPiles": impl.CountPiles, "AllPiles": impl.AllPiles, "RankPiles": impl.RankPiles, "PilesWith": impl.PilesWith,
	"JoinPiles": impl.JoinPiles, "PilesText": impl.PilesText, "ParsePiles": impl.ParsePiles,
	"TailOf": impl.TailOf, "CycleOf": impl.CycleOf, "CycleLength": impl.CycleLength, "IsCyclic": impl.IsCyclic,
	"BitsOf": impl.BitsOf, "FromBits": impl.FromBits, "TurnBits": impl.TurnBits, "CyclicPiles": impl.CyclicPiles,
	"CountCycles": impl.CountCycles, "FirstOfCycles": impl.FirstOfCycles, "MeetOfPlays": impl.MeetOfPlays,
	"LongestTail": impl.LongestTail, "FarthestStart": impl.FarthestStart, "BasinSize": impl.BasinSize,
	"LevelsOf": impl.LevelsOf, "PotentialOf": impl.PotentialOf, "DropOf": impl.DropOf, "PotentialsOf": impl.PotentialsOf,
	"LeastPotential": impl.LeastPotential, "GreatestPotential": impl.GreatestPotential, "IsLeast": impl.IsLeast,
	"NextDrop": impl.NextDrop, "CardBehind": impl.CardBehind, "RoundOf": impl.RoundOf, "HoleOf": impl.HoleOf, "SpillOf": impl.SpillOf,
	"IsGarden": impl.IsGarden, "GardensOf": impl.GardensOf, "CountGardens": impl.CountGardens, "PastsAt": impl.PastsAt,
	"CountAt": impl.CountAt, "TreeOf": impl.TreeOf, "TreeSize": impl.TreeSize, "DepthOf": impl.DepthOf,
	"FarthestPast": impl.FarthestPast, "FirstPast": impl.FirstPast, "LineBack": impl.LineBack,
	"DepthTable": impl.DepthTable, "PastTable": impl.PastTable, "IsPastOf": impl.IsPastOf,
	"IsRow": impl.IsRow, "StepRow": impl.StepRow, "RowSteps": impl.RowSteps, "PlayRow": impl.PlayRow, "SortRow": impl.SortRow,
	"RowOrbit": impl.RowOrbit, "IsCyclicRow": impl.IsCyclicRow, "RowPastCount": impl.RowPastCount, "RowPasts": impl.RowPasts,
	"CountRows": impl.CountRows, "RankRow": impl.RankRow, "RowWith": impl.RowWith, "CountRowGardens": impl.CountRowGardens,
	"LongestRow": impl.LongestRow, "RowsOfPiles": impl.RowsOfPiles, "RowText": impl.RowText, "ParseRow": impl.ParseRow,
	"IsSand": impl.IsSand, "FallsOf": impl.FallsOf, "FallGrain": impl.FallGrain, "IsSettled": impl.IsSettled,
	"SettleSand": impl.SettleSand, "FallCounts": impl.FallCounts, "PlayFalls": impl.PlayFalls, "WeightOf": impl.WeightOf,
	"SettledShape": impl.SettledShape, "ReachSand": impl.ReachSand, "CountReach": impl.CountReach, "CanReach": impl.CanReach,
	"FallsBetween": impl.FallsBetween, "FallVector": impl.FallVector, "CountFallPlays": impl.CountFallPlays, "LowestOf": impl.LowestOf,
	"IsBank": impl.IsBank, "BankCards": impl.BankCards, "StartBank": impl.StartBank, "StepBank": impl.StepBank, "BankSteps": impl.BankSteps,
	"BankOrbit": impl.BankOrbit, "IsCyclicBank": impl.IsCyclicBank, "NewPiles": impl.NewPiles, "CountBanks": impl.CountBanks,
	"AllBanks": impl.AllBanks, "BankPasts": impl.BankPasts, "AgesOf": impl.AgesOf, "FromAges": impl.FromAges,
	"CyclicBanks": impl.CyclicBanks, "BankText": impl.BankText, "ParseBank": impl.ParseBank,
	"DeskLine": impl.DeskLine, "RunScript": impl.RunScript, "DeskAfter": impl.DeskAfter, "FailedLines": impl.FailedLines,
}

func TestEveryFunctionTakesAllArguments(t *testing.T) {
	for name, function := range promised {
		t.Run(name, func(t *testing.T) {
			f := reflect.ValueOf(function)
			for _, args := range argumentsFor(f.Type()) {
				checkCall(t, name, f, args)
			}
		})
	}
}

// argumentsFor returns all ways to choose arguments from the values above.
func argumentsFor(f reflect.Type) [][]any {
	ways := [][]any{{}}
	for i := range f.NumIn() {
		var longer [][]any
		for _, way := range ways {
			for _, value := range valuesOf(f.In(i)) {
				longer = append(longer, append(slices.Clone(way), value))
			}
		}
		ways = longer
	}
	return ways
}

func valuesOf(t reflect.Type) []any {
	var values []any
	switch t {
	case reflect.TypeFor[[]int]():
		for _, a := range someLists {
			values = append(values, a)
		}
	case reflect.TypeFor[int]():
		for _, n := range someNumbers {
			values = append(values, n)
		}
	case reflect.TypeFor[string]():
		for _, s := range someTexts {
			values = append(values, s)
		}
	case reflect.TypeFor[impl.Bank]():
		for _, b := range someBanks {
			values = append(values, b)
		}
	default:
		panic("no values of " + t.String())
	}
	return values
}

func checkCall(t *testing.T, name string, f reflect.Value, args []any) {
	t.Helper()
	what := name
	for _, arg := range args {
		what += fmt.Sprintf(" %.60q", fmt.Sprint(arg))
	}
	defer func() {
		if r := recover(); r != nil {
			t.Errorf("%s panics: %v", what, r)
		}
	}()
	passed := withSpare(args)
	results := f.Call(passed)
	if last := results[len(results)-1]; !last.Bool() {
		for _, r := range results {
			if !isZero(r) {
				t.Errorf("%s fails, with the result %v", what, r)
			}
		}
	}
	before := fmt.Sprint(plain(results))
	overwrite(t, what, results)
	if !untouched(args, passed) {
		t.Errorf("%s changes or hands out an argument", what)
	}
	if again := fmt.Sprint(plain(f.Call(withSpare(args)))); again != before {
		t.Errorf("%s returns %s, and then %s", what, before, again)
	}
}

// withSpare copies the arguments, lists with spare capacity that holds sentinels.
func withSpare(args []any) []reflect.Value {
	var passed []reflect.Value
	for _, arg := range args {
		switch x := arg.(type) {
		case []int:
			arg = spareBehind(x)
		case impl.Bank:
			x.Piles = spareBehind(x.Piles)
			arg = x
		}
		passed = append(passed, reflect.ValueOf(arg))
	}
	return passed
}

func spareBehind(a []int) []int {
	if a == nil {
		return nil
	}
	b := append(slices.Clone(a), slices.Repeat([]int{sentinel}, 40)...)
	return b[:len(a)]
}

// untouched reports whether arguments are as they were, their spare capacity too.
func untouched(args []any, passed []reflect.Value) bool {
	for i, arg := range args {
		was, is := listsIn(arg), listsIn(passed[i].Interface())
		for j := range was {
			if was[j] != nil && !slices.Equal(is[j][:len(is[j])+40], spareBehind(was[j])[:len(was[j])+40]) {
				return false
			}
		}
	}
	return true
}

// listsIn returns the lists of numbers of which a value consists, with their memory.
func listsIn(value any) [][]int {
	switch x := value.(type) {
	case []int:
		return [][]int{x}
	case [][]int:
		return x
	case impl.Bank:
		return [][]int{x.Piles}
	case []impl.Bank:
		var lists [][]int
		for _, b := range x {
			lists = append(lists, b.Piles)
		}
		return lists
	}
	return nil
}

func plain(values []reflect.Value) []any {
	var out []any
	for _, v := range values {
		out = append(out, v.Interface())
	}
	return out
}

// overwrite clears texts in the results, fills each list of numbers, with its spare capacity, with a number of its own,
// and then checks that no list has got the number of another one.
func overwrite(t *testing.T, what string, results []reflect.Value) {
	t.Helper()
	var lists [][]int
	for _, r := range results {
		lists = append(lists, listsIn(r.Interface())...)
		if texts, ok := r.Interface().([]string); ok {
			clear(texts)
		}
	}
	for i, list := range lists {
		list = list[:cap(list)]
		for j := range list {
			list[j] = -i - 1
		}
	}
	for i, list := range lists {
		if slices.ContainsFunc(list[:cap(list)], func(x int) bool { return x != -i-1 }) {
			t.Errorf("%s: results share memory", what)
			return
		}
	}
}
