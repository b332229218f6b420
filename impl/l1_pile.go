package impl

import (
	"slices"
	"strconv"
	"strings"
)

const MaxCards = 28
const MaxSteps = 1000

// IsPiles reports whether a are piles.
func IsPiles(a []int) bool {
	for i, pile := range a {
		if i > 0 && pile > a[i-1] {
			return false
		}
	}
	return IsRow(a)
}

// CardsOf returns the number of cards.
func CardsOf(a []int) (int, bool) {
	if !IsPiles(a) {
		return 0, false
	}
	return sumOf(a), true
}

// StepPiles returns the piles behind a step.
func StepPiles(a []int) ([]int, bool) { return StepsFrom(a, 1) }

// StepsFrom returns the piles behind k steps, k in 0..MaxSteps.
func StepsFrom(a []int, k int) ([]int, bool) {
	if !IsPiles(a) || !inRange(k, MaxSteps) {
		return nil, false
	}
	piles := copyOf(a)
	for range k {
		piles = stepOf(piles)
	}
	return piles, true
}

// PlayOf returns the piles, and those behind each of k steps, k in 0..MaxSteps.
func PlayOf(a []int, k int) ([][]int, bool) {
	if !IsPiles(a) || !inRange(k, MaxSteps) {
		return nil, false
	}
	play := [][]int{copyOf(a)}
	for i := range k {
		play = append(play, stepOf(play[i]))
	}
	return play, true
}

// SideOf returns the side. That of the side are the piles again.
func SideOf(a []int) ([]int, bool) {
	if !IsPiles(a) {
		return nil, false
	}
	if len(a) == 0 {
		return []int{}, true
	}
	side := make([]int, a[0])
	for _, pile := range a {
		for i := range pile {
			side[i]++
		}
	}
	return side, true
}

// SideStep returns SideOf the piles behind a step of those whose side is a: the first number m is taken away, the first m numbers of what is left become greater by 1, and if there are fewer, as many numbers 1 as are missing stand at the end.
func SideStep(a []int) ([]int, bool) {
	if !IsPiles(a) {
		return nil, false
	}
	if len(a) == 0 {
		return []int{}, true
	}
	side := copyOf(a[1:])
	for len(side) < a[0] {
		side = append(side, 0)
	}
	for i := range a[0] {
		side[i]++
	}
	return side, true
}

// PastsOf returns all pasts, in order.
func PastsOf(a []int) ([][]int, bool) {
	if !IsPiles(a) {
		return nil, false
	}
	if len(a) == 0 {
		return [][]int{{}}, true // A step without piles makes no new one.
	}
	var pasts [][]int
	// The lower the pile that is taken away, the higher are those that stay:
	// from the last pile on, the pasts come in order.
	for i := len(a) - 1; i >= 0; i-- {
		if i < len(a)-1 && a[i] == a[i+1] {
			continue
		}
		if past, ok := pastBy(a, a[i]); ok {
			pasts = append(pasts, past)
		}
	}
	return pasts, true
}

// PastBy returns the past in which one pile of the number pile has been made by the step: it is taken away, one card is given to each other pile, and what is left of its cards makes piles of one card each. It fails if no pile has this number of cards, or if there are fewer cards in it than other piles.
func PastBy(a []int, pile int) ([]int, bool) {
	if !IsPiles(a) {
		return nil, false
	}
	return pastBy(a, pile)
}

// PastCount returns how many pasts there are.
func PastCount(a []int) (int, bool) {
	pasts, ok := PastsOf(a)
	return len(pasts), ok
}

// Staircase returns the piles k, k - 1, .., 1, k in 0..7.
func Staircase(k int) ([]int, bool) {
	highest, _, _ := HeightFor(MaxCards)
	if !inRange(k, highest) {
		return nil, false
	}
	stairs := make([]int, k)
	for i := range stairs {
		stairs[i] = k - i
	}
	return stairs, true
}

// HeightFor returns, for n cards, n in 0..MaxCards, the greatest k for which the staircase of k has at most n cards, and how many cards more n are.
func HeightFor(n int) (int, int, bool) {
	if !inRange(n, MaxCards) {
		return 0, 0, false
	}
	height, left := 0, n
	for left > height {
		height++
		left -= height
	}
	return height, left, true
}

// CountPiles returns how many piles n cards make, n in 0..MaxCards.
func CountPiles(n int) (int, bool) {
	if !inRange(n, MaxCards) {
		return 0, false
	}
	return countUpTo(n, n), true
}

// AllPiles returns all of them, in order.
func AllPiles(n int) ([][]int, bool) {
	if !inRange(n, MaxCards) {
		return nil, false
	}
	var all [][]int
	var extend func(left int, piles ...int)
	extend = func(left int, piles ...int) {
		if left == 0 {
			all = append(all, copyOf(piles)) // The memory of piles is used for the next ones.
			return
		}
		for pile := highestNext(left, piles...); pile >= 1; pile-- {
			extend(left-pile, append(piles, pile)...)
		}
	}
	extend(n)
	return all, true
}

// RankPiles returns the rank.
func RankPiles(a []int) (int, bool) {
	if !IsPiles(a) {
		return 0, false
	}
	rank, left := 0, sumOf(a)
	for i, pile := range a {
		// Piles that begin alike and go on with a higher pile come before a.
		rank += countUpTo(left, highestNext(left, a[:i]...)) - countUpTo(left, pile)
		left -= pile
	}
	return rank, true
}

// PilesWith returns the piles of n cards, n in 0..MaxCards, with a rank. It fails if there are none.
func PilesWith(n int, rank int) ([]int, bool) {
	count, ok := CountPiles(n)
	if !ok || rank < 0 || rank >= count {
		return nil, false
	}
	piles := []int{}
	for left := n; left > 0; {
		pile := highestNext(left, piles...)
		for rank >= countUpTo(left-pile, pile) {
			rank -= countUpTo(left-pile, pile)
			pile--
		}
		piles = append(piles, pile)
		left -= pile
	}
	return piles, true
}

// JoinPiles returns all piles of a and of b, in order. It fails if there are more than MaxCards cards.
func JoinPiles(a []int, b []int) ([]int, bool) {
	if !IsPiles(a) || !IsPiles(b) || sumOf(a)+sumOf(b) > MaxCards {
		return nil, false
	}
	return inOrder(a, b), true
}

// PilesText returns the numbers in decimal with + between them, or 0 without piles.
func PilesText(a []int) (string, bool) {
	if !IsPiles(a) {
		return "", false
	}
	return joinNumbers(a, "+", "0"), true
}

// ParsePiles returns the piles with a PilesText. It fails if there are none.
func ParsePiles(s string) ([]int, bool) {
	piles, ok := splitNumbers(s, "+", "0")
	if !ok || !IsPiles(piles) {
		return nil, false
	}
	return piles, true
}

// inRange reports whether n is in 0..most.
func inRange(n int, most int) bool { return n >= 0 && n <= most }

// copyOf returns the numbers of a in memory of their own.
func copyOf(a []int) []int {
	b := make([]int, len(a))
	copy(b, a)
	return b
}

func sumOf(a []int) int {
	sum := 0
	for _, number := range a {
		sum += number
	}
	return sum
}

// inOrder returns the numbers of all lists so that they do not rise.
func inOrder(lists ...[]int) []int {
	all := slices.Concat(lists...)
	slices.SortFunc(all, func(x, y int) int { return y - x })
	return all
}

// stepOf returns the piles behind a step of piles.
func stepOf(a []int) []int { return inOrder(stepOfRow(a)) }

// pastBy returns the past of piles in which a pile of so many cards has been made.
func pastBy(a []int, made int) ([]int, bool) {
	at := slices.Index(a, made)
	if at < 0 || made < len(a)-1 {
		return nil, false
	}
	return beforeStep(slices.Concat(a[:at], a[at+1:]), made), true
}

// beforeStep returns the piles of which these are left when a step has taken so many cards.
func beforeStep(left []int, taken int) []int {
	piles := make([]int, 0, taken)
	for _, pile := range left {
		piles = append(piles, pile+1)
	}
	// Each pile gave one card, so there were as many as cards were taken.
	for len(piles) < taken {
		piles = append(piles, 1)
	}
	return piles
}

// highestNext returns how high a pile behind piles can be, of so many cards that are left.
func highestNext(left int, piles ...int) int {
	if len(piles) == 0 {
		return left
	}
	return min(left, piles[len(piles)-1])
}

// countUpTo returns how many piles, none of them of more than most cards, n cards make.
func countUpTo(n int, most int) int {
	counts := make([]int, n+1)
	counts[0] = 1
	for pile := 1; pile <= most; pile++ {
		for cards := pile; cards <= n; cards++ {
			counts[cards] += counts[cards-pile]
		}
	}
	return counts[n]
}

// joinNumbers returns the numbers in decimal with a text between them, or another one if there are none.
func joinNumbers(a []int, between string, none string) string {
	if len(a) == 0 {
		return none
	}
	words := make([]string, len(a))
	for i, number := range a {
		words[i] = strconv.Itoa(number)
	}
	return strings.Join(words, between)
}

// splitNumbers returns the numbers of which joinNumbers makes a text.
func splitNumbers(s string, between string, none string) ([]int, bool) {
	numbers := []int{}
	if s == none {
		return numbers, true
	}
	for _, word := range strings.Split(s, between) {
		number, err := strconv.Atoi(word)
		if err != nil {
			return nil, false
		}
		numbers = append(numbers, number)
	}
	// A number can be written in other ways, with a zero in front for instance.
	return numbers, joinNumbers(numbers, between, none) == s
}
