package tests

import (
	"fmt"
	"math"
	"math/big"
	"runtime"
	"slices"
	"strconv"
	"strings"
	"sync"
	"testing"
	"time"

	"loop.example/g03205/impl"
)

// balancesIn adds, for each player b, the weights of those who beat b, and subtracts those of the ones whom b beats.
func balancesIn(k known, weights []int) []int {
	balances := make([]int, k.tour.Size)
	for b := range balances {
		for a, weight := range weights {
			if k.beats[a][b] {
				balances[b] += weight
			}
			if k.beats[b][a] {
				balances[b] -= weight
			}
		}
	}
	return balances
}

func isStrategyIn(k known, weights []int) bool {
	isAllZero := true
	for _, weight := range weights {
		if weight < 0 || weight > 100000 {
			return false
		}
		isAllZero = isAllZero && weight == 0
	}
	return len(weights) == k.tour.Size && !isAllZero
}

func isSafeIn(k known, weights []int) bool {
	if !isStrategyIn(k, weights) {
		return false
	}
	for _, balance := range balancesIn(k, weights) {
		if balance < 0 {
			return false
		}
	}
	return true
}

// bestAnswerIn takes a player only if no one else has a lesser balance, and no lesser player as little.
func bestAnswerIn(k known, weights []int) int {
	if !isStrategyIn(k, weights) {
		return -1
	}
	balances := balancesIn(k, weights)
	for b, balance := range balances {
		isBest := true
		for c, other := range balances {
			isBest = isBest && (other > balance || other == balance && c >= b)
		}
		if isBest {
			return b
		}
	}
	return -1
}

// isDivisible tries all numbers from 2 on as common divisors; all of them divide numbers that are all 0.
func isDivisible(list []int) bool {
	for divisor := 2; divisor <= max(slices.Max(list), 2); divisor++ {
		if !slices.ContainsFunc(list, func(number int) bool { return number%divisor != 0 }) {
			return true
		}
	}
	return false
}

// safeStrategiesIn returns the lists of some weights that are safe and have no common divisor greater than 1.
func safeStrategiesIn(k known, weights []int) [][]int {
	safe := [][]int{}
	listsOf(k.tour.Size, weights, func(list []int) {
		if isSafeIn(k, list) && !isDivisible(list) {
			safe = append(safe, slices.Clone(list))
		}
	})
	return safe
}

// setOfWeights returns the set of the players with a weight.
func setOfWeights(weights []int) int {
	set := 0
	for a, weight := range weights {
		if weight != 0 {
			set += 1 << a
		}
	}
	return set
}

func timesAll(list []int, factor int) []int {
	return listOf(len(list), func(i int) int { return factor * list[i] })
}

// writtenStrategies are tours with their safe strategies and the balances of all players. Those of 8 players have a safe strategy as well, but SafeStrategy does not give it.
var writtenStrategies = []struct {
	text     string
	safe     []int
	balances []int
}{
	{"1:", []int{1}, []int{0}},
	{"2:1", []int{1, 0}, []int{0, 1}},
	{"2:0", []int{0, 1}, []int{1, 0}},
	{"3:101", []int{1, 1, 1}, []int{0, 0, 0}},
	{"3:010", []int{1, 1, 1}, []int{0, 0, 0}},
	{"3:111", []int{1, 0, 0}, []int{0, 1, 1}},
	{"3:000", []int{0, 0, 1}, []int{1, 1, 0}},
	{"3:100", []int{0, 0, 1}, []int{1, 1, 0}},
	{"4:110111", []int{1, 1, 0, 1}, []int{0, 0, 1, 0}},
	{"4:111101", []int{1, 0, 0, 0}, []int{0, 1, 1, 1}},
	{"4:011011", []int{1, 1, 1, 0}, []int{0, 0, 0, 3}},
	{"4:001010", []int{0, 1, 1, 1}, []int{1, 0, 0, 0}},
	{"5:1111111111", []int{1, 0, 0, 0, 0}, []int{0, 1, 1, 1, 1}},
	{"5:1100110111", []int{1, 1, 1, 1, 1}, []int{0, 0, 0, 0, 0}},
	{"5:1101110111", []int{1, 1, 0, 1, 0}, []int{0, 0, 1, 0, 1}},
	{"5:0110001001", []int{1, 1, 0, 1, 0}, []int{0, 0, 1, 0, 1}},
	{"6:101000100000001", []int{0, 0, 0, 0, 1, 0}, []int{1, 1, 1, 1, 0, 1}},
	{"6:101111111111101", []int{1, 1, 1, 0, 0, 0}, []int{0, 0, 0, 3, 3, 3}},
	{"6:111100000010110", []int{1, 0, 0, 1, 0, 1}, []int{0, 3, 3, 0, 3, 0}},
	{"6:001110100000111", []int{1, 1, 1, 1, 1, 0}, []int{0, 0, 0, 0, 0, 1}},
	{"6:100101011011011", []int{1, 1, 1, 3, 3, 0}, []int{0, 0, 0, 0, 0, 7}},
	{"7:111111111111111111111", []int{1, 0, 0, 0, 0, 0, 0}, []int{0, 1, 1, 1, 1, 1, 1}},
	{"7:110100110101101110111", []int{1, 1, 1, 1, 1, 1, 1}, []int{0, 0, 0, 0, 0, 0, 0}},
	{"7:111000111001110111111", []int{1, 1, 1, 1, 1, 1, 1}, []int{0, 0, 0, 0, 0, 0, 0}},
	{"7:010101111010100111011", []int{0, 1, 0, 1, 0, 1, 0}, []int{3, 0, 3, 0, 3, 0, 3}},
	{"7:001000000001100001101", []int{0, 0, 0, 0, 1, 1, 1}, []int{3, 3, 1, 1, 0, 0, 0}},
	{"7:011110001011110101011", []int{1, 1, 1, 0, 0, 1, 1}, []int{0, 0, 0, 1, 3, 0, 0}},
	{"7:110100001101000011010", []int{1, 1, 0, 3, 3, 1, 0}, []int{0, 0, 1, 0, 0, 0, 3}},
	{"7:110010011101010110011", []int{1, 1, 1, 1, 1, 3, 3}, []int{0, 0, 0, 0, 0, 0, 0}},
	{"7:101100110101100001100", []int{1, 1, 1, 5, 1, 1, 5}, []int{0, 0, 0, 0, 0, 0, 0}},
	{"7:101010110101010101010", []int{1, 1, 1, 3, 3, 3, 3}, []int{0, 0, 0, 0, 0, 0, 0}},
	{"7:010110011010011100110", []int{1, 3, 5, 5, 1, 3, 1}, []int{0, 0, 0, 0, 0, 0, 0}},
	{"7:010011110001100010011", []int{1, 1, 3, 7, 3, 7, 1}, []int{0, 0, 0, 0, 0, 0, 0}},
	{"7:000011001100010101100", []int{3, 1, 1, 9, 1, 9, 3}, []int{0, 0, 0, 0, 0, 0, 0}},
	{"7:101001100100011101010", []int{3, 5, 3, 5, 1, 7, 1}, []int{0, 0, 0, 0, 0, 0, 0}},
	{"7:011011011000110101111", []int{7, 9, 5, 1, 5, 1, 7}, []int{0, 0, 0, 0, 0, 0, 0}},
	{"8:1111111100100011001110011111", []int{1, 0, 0, 0, 0, 0, 0, 0}, []int{0, 1, 1, 1, 1, 1, 1, 1}},
	{"8:0101110100111101010011010110", []int{1, 1, 0, 1, 1, 1, 0, 0}, []int{0, 0, 1, 0, 0, 0, 5, 1}},
	{"8:1101110110010011110101010111", []int{1, 0, 1, 3, 3, 0, 0, 1}, []int{0, 1, 0, 0, 0, 1, 1, 0}},
	{"8:0010001111000011010110101110", []int{0, 1, 1, 1, 1, 1, 1, 1}, []int{3, 0, 0, 0, 0, 0, 0, 0}},
	{"8:1011111101110000010000100101", []int{9, 3, 9, 3, 1, 1, 1, 0}, []int{0, 0, 0, 0, 0, 0, 0, 11}},
	{"8:1101001011011111000100010100", []int{9, 5, 1, 7, 0, 5, 1, 7}, []int{0, 0, 0, 0, 19, 0, 0, 0}},
}

// toursForStrategies returns all tours of up to 5 players, some of 6, 7 and 8, some of several strong parts, and those that are written out.
var toursForStrategies = sync.OnceValue(func() []known {
	list := slices.Clone(toursForOrders())
	for _, w := range writtenStrategies {
		list = append(list, knownWithText(w.text))
	}
	return list
})

// fewToursForStrategies returns a few tours of each size and those that are written out.
func fewToursForStrategies() []known {
	list := someKnownTours()
	for _, w := range writtenStrategies {
		list = append(list, knownWithText(w.text))
	}
	return list
}

// mustBeSafe returns what SafeStrategy gives for a tour of at most 7 players.
func mustBeSafe(t *testing.T, tour impl.Tour) []int {
	t.Helper()
	weights, ok := impl.SafeStrategy(tour)
	if !ok || len(weights) != tour.Size {
		t.Fatalf("SafeStrategy(%v) = %v, %v", tour, weights, ok)
	}
	return weights
}

// checkSafeStrategy checks SafeStrategy and SafeSet by what the chapter says of the only strategy of this kind.
func checkSafeStrategy(t *testing.T, k known) {
	t.Helper()
	weights := mustBeSafe(t, k.tour)
	if !isSafeIn(k, weights) || isDivisible(weights) {
		t.Errorf("SafeStrategy(%s) = %v, with the balances %v", k.text, weights, balancesIn(k, weights))
	}
	for _, weight := range weights {
		if weight != 0 && weight%2 == 0 {
			t.Errorf("SafeStrategy(%s) = %v with an even weight", k.text, weights)
		}
	}
	if got, want := impl.SafeSet(k.tour), setOfWeights(weights); got != want {
		t.Errorf("SafeSet(%s) = %d, want %d for %v", k.text, got, want, weights)
	}
}

// checkNoSafeStrategy expects none, whether the tour is not valid or too great.
func checkNoSafeStrategy(t *testing.T, tour impl.Tour) {
	t.Helper()
	if weights, ok := impl.SafeStrategy(tour); ok || len(weights) != 0 {
		t.Errorf("SafeStrategy(%v) = %v, %v, want nil and false", tour, weights, ok)
	}
	if set := impl.SafeSet(tour); set != 0 {
		t.Errorf("SafeSet(%v) = %d, want 0", tour, set)
	}
}

func TestWrittenStrategies(t *testing.T) {
	for _, w := range writtenStrategies {
		tour := mustParse(t, w.text)
		if tour.Size == 8 {
			checkNoSafeStrategy(t, tour)
		} else {
			if got := mustBeSafe(t, tour); !slices.Equal(got, w.safe) {
				t.Errorf("SafeStrategy(%s) = %v, want %v", w.text, got, w.safe)
			}
			if got := impl.SafeSet(tour); got != setOfWeights(w.safe) {
				t.Errorf("SafeSet(%s) = %d, want the players of %v", w.text, got, w.safe)
			}
		}
		if !impl.StrategyOk(tour, w.safe) || !impl.IsSafe(tour, w.safe) {
			t.Errorf("of %s, %v is no safe strategy", w.text, w.safe)
		}
		for b, want := range w.balances {
			if got := impl.BalanceOf(tour, w.safe, b); got != want {
				t.Errorf("BalanceOf(%s, %v, %d) = %d, want %d", w.text, w.safe, b, got, want)
			}
		}
		if got, want := impl.BestAnswer(tour, w.safe), slices.Index(w.balances, 0); got != want {
			t.Errorf("BestAnswer(%s, %v) = %d, want %d", w.text, w.safe, got, want)
		}
	}
}

func TestSafeStrategies(t *testing.T) {
	tours := slices.Concat(toursForStrategies(), knownTours(6, 2048), knownTours(7, 2048), knownTours(8, 16))
	for _, k := range tours {
		if k.tour.Size == 8 {
			checkNoSafeStrategy(t, k.tour)
		} else {
			checkSafeStrategy(t, k)
		}
	}
}

// TestTheOnlySafeStrategy goes through many lists of weights: all that may occur in tours of so many players, and others.
func TestTheOnlySafeStrategy(t *testing.T) {
	for _, c := range []struct {
		players int
		tours   int
		weights []int
	}{
		{1, 1, numbersTo(0, 30)},
		{2, 2, numbersTo(0, 20)},
		{3, 8, numbersTo(0, 9)},
		{4, 64, numbersTo(0, 6)},
		{5, 1024, []int{0, 1, 2, 3}},
		{6, 64, []int{0, 1, 2, 3}},
		{7, 8, []int{0, 1, 3, 5, 7, 9}},
	} {
		for _, k := range knownTours(c.players, c.tours) {
			want := [][]int{mustBeSafe(t, k.tour)}
			if got := safeStrategiesIn(k, c.weights); !equalLists(got, want) {
				t.Errorf("the safe strategies of %s are %v, and SafeStrategy gives %v", k.text, got, want)
			}
		}
	}
}

// TestSafeStrategiesOfOneSovereign gives all weight to the one who beats all others.
func TestSafeStrategiesOfOneSovereign(t *testing.T) {
	for _, k := range toursForStrategies() {
		a := impl.SovereignOf(k.tour)
		if a < 0 {
			continue
		}
		want := make([]int, k.tour.Size)
		want[a] = 1
		if !impl.IsSafe(k.tour, want) || impl.BestAnswer(k.tour, want) != a {
			t.Errorf("of %s, %v is not safe, or %d is not the best answer", k.text, want, a)
		}
		if k.tour.Size == 8 {
			continue
		}
		if got := mustBeSafe(t, k.tour); !slices.Equal(got, want) {
			t.Errorf("SafeStrategy(%s) = %v, want %v", k.text, got, want)
		}
		if got := impl.SafeSet(k.tour); got != 1<<a {
			t.Errorf("SafeSet(%s) = %d, want %d alone", k.text, got, a)
		}
	}
}

func TestSafeStrategiesOfTransitiveTours(t *testing.T) {
	for n := 1; n <= 7; n++ {
		for _, order := range manyOrdersOf(n) {
			k := buildTour(slices.Repeat([]int{1}, n), order)
			checkSafeStrategy(t, k.known)
			if got := impl.SafeSet(k.tour); got != 1<<order[0] {
				t.Errorf("SafeSet(%s) = %d, want %d alone", k.text, got, order[0])
			}
		}
	}
}

// TestSafeStrategiesOfRegularTours expects equal weights where each player beats as many as beat them, and elsewhere no such weights.
func TestSafeStrategiesOfRegularTours(t *testing.T) {
	tours := append(slices.Clone(toursForStrategies()), knownTours(7, 4096)...)
	regular := 0
	for _, k := range tours {
		if k.tour.Size == 8 {
			continue
		}
		isRegular := k.tour.Size%2 == 1 && impl.IsRegular(k.tour)
		equal := slices.Repeat([]int{1}, k.tour.Size)
		if got := mustBeSafe(t, k.tour); slices.Equal(got, equal) != isRegular {
			t.Errorf("SafeStrategy(%s) = %v", k.text, got)
		}
		for _, weight := range []int{1, 2, 3, 100000} {
			if got := impl.IsSafe(k.tour, timesAll(equal, weight)); got != isRegular {
				t.Errorf("IsSafe(%s) is %v for weights of %d each", k.text, got, weight)
			}
		}
		if isRegular {
			regular++
			if got := impl.BestAnswer(k.tour, equal); got != 0 {
				t.Errorf("BestAnswer(%s, %v) = %d, want 0", k.text, equal, got)
			}
		}
	}
	if regular < 10 {
		t.Errorf("there are only %d regular tours", regular)
	}
}

// TestSafeStrategiesOfParts expects that only the players of the first strong part have weights, as in the tour of this part alone.
func TestSafeStrategiesOfParts(t *testing.T) {
	for _, k := range builtTours() {
		first := k.parts[0]
		part, _ := impl.PartTour(k.tour, first)
		if part.Size == 8 {
			continue
		}
		want := make([]int, k.tour.Size)
		weights := mustBeSafe(t, part)
		for i, a := range membersOf(first) {
			want[a] = weights[i]
		}
		if !impl.IsSafe(k.tour, want) {
			t.Errorf("IsSafe(%s, %v) = false", k.text, want)
		}
		if k.tour.Size == 8 {
			continue
		}
		if got := mustBeSafe(t, k.tour); !slices.Equal(got, want) {
			t.Errorf("SafeStrategy(%s) = %v, want %v as in the first part", k.text, got, want)
		}
	}
}

// TestBalancesOfSafeStrategies expects a balance of 0 for those with a weight and a greater one for all others.
func TestBalancesOfSafeStrategies(t *testing.T) {
	for _, k := range toursForStrategies() {
		if k.tour.Size == 8 {
			continue
		}
		weights, set := mustBeSafe(t, k.tour), impl.SafeSet(k.tour)
		for b, weight := range weights {
			balance := impl.BalanceOf(k.tour, weights, b)
			if balance < 0 || weight > 0 != (balance == 0) {
				t.Errorf("BalanceOf(%s, %v, %d) = %d", k.text, weights, b, balance)
			}
		}
		members := membersOf(set)
		if len(members)%2 == 0 {
			t.Errorf("SafeSet(%s) = %d with an even number of players", k.text, set)
		}
		if got := impl.BestAnswer(k.tour, weights); got != members[0] {
			t.Errorf("BestAnswer(%s, %v) = %d, want the least player of %d", k.text, weights, got, set)
		}
		if others := set &^ impl.KingsOf(k.tour); others != 0 {
			t.Errorf("SafeSet(%s) = %d has players who are no kings: %d", k.text, set, others)
		}
	}
}

// TestSafeStrategiesOfSafeSets leaves out those without a weight: nothing changes for the others.
func TestSafeStrategiesOfSafeSets(t *testing.T) {
	for _, k := range toursForStrategies() {
		if k.tour.Size == 8 {
			continue
		}
		weights, set := mustBeSafe(t, k.tour), impl.SafeSet(k.tour)
		part, _ := impl.PartTour(k.tour, set)
		want := slices.DeleteFunc(slices.Clone(weights), func(weight int) bool { return weight == 0 })
		if got := mustBeSafe(t, part); !slices.Equal(got, want) {
			t.Errorf("SafeStrategy of the players %d of %s = %v, want %v", set, k.text, got, want)
		}
	}
}

func TestSafeStrategiesForOtherNames(t *testing.T) {
	for _, k := range fewToursForStrategies() {
		if k.tour.Size == 8 {
			continue
		}
		weights := mustBeSafe(t, k.tour)
		for _, names := range someOrdersOf(k.tour.Size) {
			renamed, _ := impl.RenameTour(k.tour, names)
			want := make([]int, len(names))
			for a, name := range names {
				want[name] = weights[a]
			}
			if got := mustBeSafe(t, renamed); !slices.Equal(got, want) {
				t.Errorf("SafeStrategy(%s), renamed by %v, is %v, want %v", k.text, names, got, want)
			}
			if got := impl.SafeSet(renamed); got != setOfWeights(want) {
				t.Errorf("SafeSet(%s), renamed by %v, is %d, want the players of %v", k.text, names, got, want)
			}
		}
	}
}

// TestSafeStrategiesOfEight finds them with one player left out: at least one of 8 has no weight, and there is but one such strategy.
func TestSafeStrategiesOfEight(t *testing.T) {
	for _, k := range knownTours(8, 1024) {
		checkNoSafeStrategy(t, k.tour)
		safe := [][]int{}
		for left := range 8 {
			part, _ := impl.PartTour(k.tour, 255-1<<left)
			weights := slices.Insert(slices.Clone(mustBeSafe(t, part)), left, 0)
			checkStrategy(t, k, weights)
			if impl.IsSafe(k.tour, weights) {
				safe = append(safe, weights)
			}
		}
		if len(safe) == 0 || len(slices.CompactFunc(safe, slices.Equal)) != 1 {
			t.Errorf("the safe strategies of %s are %v, want one", k.text, safe)
		}
	}
}

// checkStrategy compares the functions of a tour and a list of weights with what the tests compute.
func checkStrategy(t *testing.T, k known, weights []int) {
	t.Helper()
	isStrategy := isStrategyIn(k, weights)
	if got := impl.StrategyOk(k.tour, weights); got != isStrategy {
		t.Errorf("StrategyOk(%s, %v) = %v, want %v", k.text, weights, got, isStrategy)
	}
	if got, want := impl.IsSafe(k.tour, weights), isSafeIn(k, weights); got != want {
		t.Errorf("IsSafe(%s, %v) = %v, want %v", k.text, weights, got, want)
	}
	if got, want := impl.BestAnswer(k.tour, weights), bestAnswerIn(k, weights); got != want {
		t.Errorf("BestAnswer(%s, %v) = %d, want %d", k.text, weights, got, want)
	}
	balances := make([]int, k.tour.Size)
	if isStrategy {
		balances = balancesIn(k, weights)
	}
	for b, want := range balances {
		if got := impl.BalanceOf(k.tour, weights, b); got != want {
			t.Errorf("BalanceOf(%s, %v, %d) = %d, want %d", k.text, weights, b, got, want)
		}
	}
	for _, b := range []int{-1, k.tour.Size} {
		if got := impl.BalanceOf(k.tour, weights, b); got != 0 {
			t.Errorf("BalanceOf(%s, %v, %d) = %d, want 0", k.text, weights, b, got)
		}
	}
}

// checkNoStrategy expects that a list of weights is refused.
func checkNoStrategy(t *testing.T, tour impl.Tour, weights []int) {
	t.Helper()
	if impl.StrategyOk(tour, weights) || impl.IsSafe(tour, weights) {
		t.Errorf("StrategyOk or IsSafe of %v is true for %v", tour, weights)
	}
	if got := impl.BestAnswer(tour, weights); got != -1 {
		t.Errorf("BestAnswer(%v, %v) = %d, want -1", tour, weights, got)
	}
	for b := -1; b <= 8; b++ {
		if got := impl.BalanceOf(tour, weights, b); got != 0 {
			t.Errorf("BalanceOf(%v, %v, %d) = %d, want 0", tour, weights, b, got)
		}
	}
}

func TestAllStrategies(t *testing.T) {
	for n := 1; n <= 5; n++ {
		weights := [][]int{nil, numbersTo(-1, 9), {-1, 0, 1, 2, 5, 100000, 100001}, {-1, 0, 1, 2, 100000}, {0, 1, 2, 3}, {0, 1, 3}}[n]
		for _, k := range knownTours(n, 128) {
			listsOf(n, weights, func(list []int) { checkStrategy(t, k, list) })
		}
	}
}

// weightsFor returns lists of weights for a tour, among them safe ones, and those near to them, if SafeStrategy gives one.
func weightsFor(k known) [][]int {
	n := k.tour.Size
	lists := [][]int{
		slices.Repeat([]int{1}, n), slices.Repeat([]int{100000}, n), make([]int, n),
		listOf(n, func(i int) int { return i }),
		listOf(n, func(i int) int { return n - i }),
		listOf(n, func(i int) int { return i * i % 5 }),
		listOf(n, func(i int) int { return (i + 1) % 2 * 100000 }),
		listOf(n, func(i int) int { return 100000 - i*12345%777 }),
		impl.ScoresOf(k.tour), impl.SecondScores(k.tour), impl.DefeatScores(k.tour), impl.PowerScores(k.tour, 5),
	}
	for a := range n {
		lists = append(lists, listOf(n, func(i int) int {
			if i == a {
				return 1
			}
			return 0
		}))
	}
	safe, ok := impl.SafeStrategy(k.tour)
	if !ok {
		return lists
	}
	for _, factor := range []int{1, 2, 3, 10, 1000, 100000 / slices.Max(safe), 100000/slices.Max(safe) + 1, -1} {
		lists = append(lists, timesAll(safe, factor))
	}
	for a := range n {
		for _, factor := range []int{1, 2, 1000} {
			for _, change := range []int{-2, -1, 1, 2} {
				other := timesAll(safe, factor)
				other[a] += change
				lists = append(lists, other)
			}
		}
	}
	return lists
}

func TestStrategiesOfTours(t *testing.T) {
	for _, k := range toursForStrategies() {
		for _, weights := range weightsFor(k) {
			checkStrategy(t, k, weights)
		}
	}
}

// TestSafeStrategiesWithDivisors checks that greater weights are as safe, and that only they are, as long as they are weights.
func TestSafeStrategiesWithDivisors(t *testing.T) {
	for _, w := range writtenStrategies {
		tour := mustParse(t, w.text)
		greatest := slices.Max(w.safe)
		for _, factor := range []int{1, 2, 3, 4, 9, 50, 1000, 10000, 11111, 14285, 20000, 33333, 50000, 100000, 100001} {
			weights := timesAll(w.safe, factor)
			if got, want := impl.IsSafe(tour, weights), factor*greatest <= 100000; got != want {
				t.Errorf("IsSafe(%s, %v) = %v, want %v", w.text, weights, got, want)
			}
		}
		for a := range w.safe {
			for _, change := range []int{-1, 1} {
				weights := timesAll(w.safe, 10)
				weights[a] += change
				if isOnly := w.safe[a] > 0 && sumOf(w.safe) == w.safe[a]; impl.IsSafe(tour, weights) != isOnly {
					t.Errorf("IsSafe(%s, %v) = %v", w.text, weights, !isOnly)
				}
			}
		}
	}
}

func TestWrittenBalances(t *testing.T) {
	for _, c := range []struct {
		text     string
		weights  []int
		balances []int
		isSafe   bool
		answer   int
	}{
		{"1:", []int{1}, []int{0}, true, 0},
		{"1:", []int{100000}, []int{0}, true, 0},
		{"2:1", []int{5, 3}, []int{-3, 5}, false, 0},
		{"2:1", []int{0, 1}, []int{-1, 0}, false, 0},
		{"2:0", []int{5, 3}, []int{3, -5}, false, 1},
		{"2:0", []int{0, 100000}, []int{100000, 0}, true, 1},
		{"3:101", []int{1, 2, 3}, []int{1, -2, 1}, false, 1},
		{"3:101", []int{2, 2, 2}, []int{0, 0, 0}, true, 0},
		{"3:101", []int{1, 1, 2}, []int{1, -1, 0}, false, 1},
		{"3:101", []int{2, 0, 1}, []int{1, 1, -2}, false, 2},
		{"3:111", []int{1, 1, 1}, []int{-2, 0, 2}, false, 0},
		{"3:111", []int{100000, 0, 0}, []int{0, 100000, 100000}, true, 0},
		{"3:000", []int{0, 0, 7}, []int{7, 7, 0}, true, 2},
		{"4:110111", []int{1, 0, 0, 0}, []int{0, 1, 1, -1}, false, 3},
		{"4:110111", []int{0, 0, 1, 0}, []int{-1, -1, 0, 1}, false, 0},
		{"4:110111", []int{0, 1, 0, 0}, []int{-1, 0, 1, 1}, false, 0},
		{"4:110111", []int{0, 0, 0, 1}, []int{1, -1, -1, 0}, false, 1},
		{"4:110111", []int{1, 1, 1, 1}, []int{-1, -1, 1, 1}, false, 0},
		{"4:110111", []int{2, 2, 1, 2}, []int{-1, -1, 2, 1}, false, 0},
		{"4:110111", []int{100000, 100000, 0, 100000}, []int{0, 0, 100000, 0}, true, 0},
		{"4:001010", []int{1, 1, 0, 0}, []int{1, -1, -2, 2}, false, 2},
		{"4:001010", []int{0, 0, 0, 3}, []int{-3, -3, 3, 0}, false, 0},
		{"5:1100110111", []int{3, 3, 3, 3, 3}, []int{0, 0, 0, 0, 0}, true, 0},
		{"5:1100110111", []int{0, 1, 0, 1, 0}, []int{0, -1, 0, 1, 0}, false, 1},
		{"8:1111111111111111111111111111", slices.Repeat([]int{100000}, 8), []int{-700000, -500000, -300000, -100000, 100000, 300000, 500000, 700000}, false, 0},
		{"8:0000000000000000000000000000", slices.Repeat([]int{100000}, 8), []int{700000, 500000, 300000, 100000, -100000, -300000, -500000, -700000}, false, 7},
		{"8:0000000000000000000000000000", []int{0, 0, 0, 0, 0, 0, 0, 100000}, []int{100000, 100000, 100000, 100000, 100000, 100000, 100000, 0}, true, 7},
		{"8:1111110111111111111111111111", []int{1, 0, 0, 0, 0, 0, 0, 1}, []int{1, 0, 0, 0, 0, 0, 0, -1}, false, 7},
	} {
		tour := mustParse(t, c.text)
		checkStrategy(t, knownWithText(c.text), c.weights)
		for b, want := range c.balances {
			if got := impl.BalanceOf(tour, c.weights, b); got != want {
				t.Errorf("BalanceOf(%s, %v, %d) = %d, want %d", c.text, c.weights, b, got, want)
			}
		}
		if got := impl.IsSafe(tour, c.weights); got != c.isSafe {
			t.Errorf("IsSafe(%s, %v) = %v, want %v", c.text, c.weights, got, c.isSafe)
		}
		if got := impl.BestAnswer(tour, c.weights); got != c.answer {
			t.Errorf("BestAnswer(%s, %v) = %d, want %d", c.text, c.weights, got, c.answer)
		}
	}
}

// TestEdgesOfWeights takes weights at the ends of what is allowed, and beyond, for each player.
func TestEdgesOfWeights(t *testing.T) {
	for _, k := range fewToursForStrategies() {
		n := k.tour.Size
		for a := range n {
			for _, others := range []int{0, 1, 100000} {
				for _, weight := range []int{0, 1, 2, 99999, 100000} {
					weights := slices.Repeat([]int{others}, n)
					weights[a] = weight
					checkStrategy(t, k, weights)
					isAllZero := weight == 0 && (others == 0 || n == 1)
					if got := impl.StrategyOk(k.tour, weights); got == isAllZero {
						t.Errorf("StrategyOk(%s, %v) = %v", k.text, weights, got)
					}
				}
				for _, weight := range []int{-1, -2, -99999, -100000, -100001, 100001, 100002, 200000, 1<<31 - 1, 1 << 31, 1 << 32, 1<<32 + 1, 1 << 62, math.MinInt, math.MinInt + 1, math.MaxInt} {
					weights := slices.Repeat([]int{others}, n)
					weights[a] = weight
					checkNoStrategy(t, k.tour, weights)
				}
			}
		}
		checkNoStrategy(t, k.tour, make([]int, n))
	}
}

// TestNumbersOfWeights has more or fewer weights than players.
func TestNumbersOfWeights(t *testing.T) {
	for _, k := range fewToursForStrategies() {
		n := k.tour.Size
		checkNoStrategy(t, k.tour, nil)
		for _, length := range []int{0, 1, 2, 3, 4, 5, 6, 7, 8, 9, 16, 64, 65, 256 + n, 65536 + n} {
			for _, weight := range []int{0, 1, 100000} {
				weights := slices.Repeat([]int{weight}, length)
				if length == n && weight > 0 {
					checkStrategy(t, k, weights)
				} else {
					checkNoStrategy(t, k.tour, weights)
				}
			}
		}
		if n < 8 {
			safe := mustBeSafe(t, k.tour)
			checkNoStrategy(t, k.tour, append(slices.Clone(safe), 0))
			checkNoStrategy(t, k.tour, append([]int{0}, safe...))
			checkNoStrategy(t, k.tour, safe[:n-1])
			checkNoStrategy(t, k.tour, safe[1:])
		}
	}
}

func TestBalancesOfNoPlayers(t *testing.T) {
	for _, k := range fewToursForStrategies() {
		for _, weights := range weightsFor(k) {
			for _, b := range append(numbersTo(k.tour.Size, 70), oddInts...) {
				if got := impl.BalanceOf(k.tour, weights, b); got != 0 {
					t.Errorf("BalanceOf(%s, %v, %d) = %d, want 0", k.text, weights, b, got)
				}
			}
		}
	}
}

// TestBalancesAddUp checks that each game adds as much to one balance as it takes from the other one, if the weights are multiplied.
func TestBalancesAddUp(t *testing.T) {
	for _, k := range toursForStrategies() {
		turned, _ := impl.TurnTour(k.tour)
		for _, weights := range weightsFor(k) {
			sum := 0
			for b, weight := range weights {
				balance := impl.BalanceOf(k.tour, weights, b)
				sum += weight * balance
				if got := impl.BalanceOf(turned, weights, b); got != -balance {
					t.Errorf("BalanceOf(%s, %v, %d) = %d, and %d with all results reversed", k.text, weights, b, balance, got)
				}
			}
			if sum != 0 {
				t.Errorf("the balances of %v in %s, times the weights, make %d", weights, k.text, sum)
			}
		}
	}
}

// mixIn takes the greatest common divisor from the package big.
func mixIn(a, b []int, m, n int) ([]int, bool) {
	if len(a) != len(b) || len(a) < 1 || len(a) > 8 || m < 0 || m > 1000 || n < 0 || n > 1000 {
		return nil, false
	}
	sums := []int{}
	divisor := new(big.Int)
	for i := range a {
		if a[i] < 0 || a[i] > 100000 || b[i] < 0 || b[i] > 100000 {
			return nil, false
		}
		sum := m*a[i] + n*b[i]
		divisor.GCD(nil, nil, divisor, big.NewInt(int64(sum)))
		sums = append(sums, sum)
	}
	if divisor.Sign() == 0 {
		return nil, false
	}
	for i := range sums {
		sums[i] /= int(divisor.Int64())
	}
	return sums, true
}

func checkMix(t *testing.T, a, b []int, m, n int) {
	t.Helper()
	want, wantOk := mixIn(a, b, m, n)
	if got, ok := impl.MixStrategies(a, b, m, n); ok != wantOk || !slices.Equal(got, want) {
		t.Errorf("MixStrategies(%v, %v, %d, %d) = %v, %v, want %v, %v", a, b, m, n, got, ok, want, wantOk)
	}
}

// checkNoMix expects that two lists are refused, whichever comes first.
func checkNoMix(t *testing.T, a, b []int, m, n int) {
	t.Helper()
	if got, ok := impl.MixStrategies(a, b, m, n); ok || len(got) != 0 {
		t.Errorf("MixStrategies(%v, %v, %d, %d) = %v, %v, want nil and false", a, b, m, n, got, ok)
	}
	if got, ok := impl.MixStrategies(b, a, n, m); ok || len(got) != 0 {
		t.Errorf("MixStrategies(%v, %v, %d, %d) = %v, %v, want nil and false", b, a, n, m, got, ok)
	}
}

func TestWrittenMixes(t *testing.T) {
	eight := slices.Repeat([]int{100000}, 8)
	for _, c := range []struct {
		a, b []int
		m, n int
		want []int
	}{
		{[]int{1, 0}, []int{0, 1}, 2, 4, []int{1, 2}},
		{[]int{1, 0}, []int{0, 1}, 2, 3, []int{2, 3}},
		{[]int{1, 0}, []int{0, 1}, 0, 4, []int{0, 1}},
		{[]int{1, 0}, []int{0, 1}, 4, 0, []int{1, 0}},
		{[]int{1}, []int{1}, 1, 1, []int{1}},
		{[]int{0}, []int{7}, 1000, 3, []int{1}},
		{[]int{100000}, []int{100000}, 1000, 1000, []int{1}},
		{[]int{6, 10, 15}, []int{0, 0, 0}, 1, 0, []int{6, 10, 15}},
		{[]int{6, 10, 15}, []int{0, 0, 0}, 1000, 1000, []int{6, 10, 15}},
		{[]int{6, 10, 16}, []int{0, 0, 0}, 5, 1, []int{3, 5, 8}},
		{[]int{6, 12, 0}, []int{3, 0, 0}, 1, 2, []int{1, 1, 0}},
		{[]int{0, 6, 0, 4}, []int{0, 0, 8, 0}, 3, 3, []int{0, 3, 4, 2}},
		{[]int{1, 1, 0, 1}, []int{0, 0, 1, 0}, 1, 1, []int{1, 1, 1, 1}},
		{[]int{1, 2, 3, 4, 5, 6, 7, 8}, []int{8, 7, 6, 5, 4, 3, 2, 1}, 1, 1, []int{1, 1, 1, 1, 1, 1, 1, 1}},
		{[]int{1, 2, 3, 4, 5, 6, 7, 8}, []int{8, 7, 6, 5, 4, 3, 2, 1}, 2, 1, []int{10, 11, 12, 13, 14, 15, 16, 17}},
		{[]int{0, 0, 0, 0, 0, 0, 0, 2}, []int{0, 0, 0, 0, 0, 0, 0, 0}, 9, 9, []int{0, 0, 0, 0, 0, 0, 0, 1}},
		{eight, eight, 1000, 1000, []int{1, 1, 1, 1, 1, 1, 1, 1}},
		{[]int{100000, 99999}, []int{99999, 100000}, 1000, 1000, []int{1, 1}},
		{[]int{100000, 99999}, []int{100000, 99999}, 1000, 1000, []int{100000, 99999}},
		{[]int{100000, 99999}, []int{99999, 100000}, 1000, 999, []int{199899001, 199899000}},
		{[]int{100000, 0, 1}, []int{100000, 1, 0}, 1000, 999, []int{199900000, 999, 1000}},
	} {
		checkMix(t, c.a, c.b, c.m, c.n)
		if got, ok := impl.MixStrategies(c.a, c.b, c.m, c.n); !ok || !slices.Equal(got, c.want) {
			t.Errorf("MixStrategies(%v, %v, %d, %d) = %v, %v, want %v", c.a, c.b, c.m, c.n, got, ok, c.want)
		}
	}
}

func TestMixesOfAllLists(t *testing.T) {
	for _, c := range []struct {
		numbers []int
		length  int
		factors []int
	}{
		{[]int{-1, 0, 1, 2, 3, 4, 99999, 100000, 100001}, 1, []int{-1, 0, 1, 2, 6, 999, 1000, 1001}},
		{[]int{-1, 0, 1, 2, 3, 6, 100000, 100001}, 2, []int{-1, 0, 1, 2, 3, 4, 1000, 1001}},
		{[]int{0, 2, 3, 4, 6}, 3, []int{0, 1, 2, 3}},
		{[]int{0, 1, 2}, 4, []int{0, 1, 2, 4}},
	} {
		listsOf(c.length, c.numbers, func(a []int) {
			listsOf(c.length, c.numbers, func(b []int) {
				for _, m := range c.factors {
					for _, n := range c.factors {
						checkMix(t, a, b, m, n)
					}
				}
			})
		})
	}
}

// rulesOfWeights make lists of numbers from 0 to 100000.
var rulesOfWeights = []func(i int) int{
	func(i int) int { return 0 },
	func(i int) int { return 1 },
	func(i int) int { return 100000 },
	func(i int) int { return i },
	func(i int) int { return 12 * i },
	func(i int) int { return i % 2 },
	func(i int) int { return (i + 1) % 2 * 30 },
	func(i int) int { return 100000 - i },
	func(i int) int { return 100000 - 1000*i },
	func(i int) int { return 1 << (2 * i) },
	func(i int) int { return 2 * 3 * 5 * 7 * (i*i%11 + 1) },
	func(i int) int { return (i + 3) * 7919 % 99991 },
	func(i int) int { return (i + 1) * 65537 % 100001 },
}

func TestMixesOfLongLists(t *testing.T) {
	for _, length := range []int{1, 2, 3, 5, 7, 8, 9, 10, 16, 64} {
		for _, rule := range rulesOfWeights {
			a := listOf(length, func(i int) int { return rule(i % 8) })
			for _, other := range rulesOfWeights {
				b := listOf(length, func(i int) int { return other(i % 8) })
				for _, m := range []int{0, 1, 6, 500, 999, 1000} {
					for _, n := range []int{0, 1, 4, 500, 999, 1000} {
						checkMix(t, a, b, m, n)
						if length > 8 {
							checkNoMix(t, a, b, m, n)
						}
					}
				}
			}
		}
	}
}

func TestMixesOfOtherLengths(t *testing.T) {
	lengths := []int{0, 1, 2, 3, 4, 5, 6, 7, 8, 9, 10, 16, 256, 257, 65536}
	for _, length := range lengths {
		for _, other := range lengths {
			a, b := slices.Repeat([]int{1}, length), slices.Repeat([]int{3}, other)
			got, ok := impl.MixStrategies(a, b, 1, 1)
			if want := length == other && length >= 1 && length <= 8; ok != want || !want && len(got) != 0 {
				t.Errorf("MixStrategies of %d and %d numbers = %v, %v", length, other, got, ok)
			}
		}
	}
	for _, none := range [][]int{nil, {}} {
		checkNoMix(t, none, nil, 1, 1)
		checkNoMix(t, none, []int{}, 1000, 1000)
		checkNoMix(t, none, []int{1}, 1, 1)
	}
}

// TestMixesOfOddNumbers puts numbers that are not allowed at each place of both lists, also where they are multiplied by 0.
func TestMixesOfOddNumbers(t *testing.T) {
	for length := 1; length <= 8; length++ {
		ones := slices.Repeat([]int{1}, length)
		for at := range length {
			for _, number := range []int{-1, -2, -100000, 100001, 100002, 1 << 31, 1 << 32, 1<<32 + 1, 1 << 62, math.MinInt, math.MinInt + 1, math.MaxInt} {
				odd := slices.Clone(ones)
				odd[at] = number
				for _, m := range []int{0, 1, 1000} {
					for _, n := range []int{0, 1, 1000} {
						checkNoMix(t, odd, ones, m, n)
						checkNoMix(t, odd, odd, m, n)
					}
				}
			}
			for _, number := range []int{0, 100000} {
				edge := slices.Clone(ones)
				edge[at] = number
				checkMix(t, edge, ones, 1, 1000)
				checkMix(t, ones, edge, 1000, 0)
			}
		}
	}
}

func TestMixesWithOddFactors(t *testing.T) {
	a, b := []int{1, 2, 3}, []int{3, 1, 1}
	for _, odd := range []int{-1, -2, -1000, 1001, 1002, 2000, 1 << 31, 1 << 32, 1<<32 + 1, 1 << 62, math.MinInt, math.MinInt + 1, math.MaxInt} {
		for _, other := range []int{0, 1, 2, 1000, odd} {
			checkNoMix(t, a, b, odd, other)
			checkNoMix(t, a, make([]int, 3), odd, other)
			checkNoMix(t, make([]int, 3), b, odd, other)
		}
	}
	for _, m := range []int{0, 1, 2, 999, 1000} {
		for _, n := range []int{0, 1, 2, 999, 1000} {
			checkMix(t, a, b, m, n)
			if _, ok := impl.MixStrategies(a, b, m, n); ok != (m+n > 0) {
				t.Errorf("MixStrategies(%v, %v, %d, %d) gives %v", a, b, m, n, ok)
			}
		}
	}
}

func TestMixesWithoutSums(t *testing.T) {
	for length := 1; length <= 8; length++ {
		zeros, ones := make([]int, length), slices.Repeat([]int{1}, length)
		for _, m := range []int{0, 1, 1000} {
			checkNoMix(t, ones, ones, 0, 0)
			checkNoMix(t, zeros, ones, m, 0)
			for _, n := range []int{0, 1, 1000} {
				checkNoMix(t, zeros, zeros, m, n)
			}
		}
		if got, ok := impl.MixStrategies(zeros, ones, 0, 1); !ok || !slices.Equal(got, ones) {
			t.Errorf("MixStrategies(%v, %v, 0, 1) = %v, %v", zeros, ones, got, ok)
		}
	}
}

// TestMixesOfSafeStrategies mixes safe strategies of one tour, which makes the only one without a common divisor.
func TestMixesOfSafeStrategies(t *testing.T) {
	for _, k := range toursForStrategies() {
		if k.tour.Size == 8 {
			continue
		}
		safe := mustBeSafe(t, k.tour)
		for _, factors := range [][]int{{1, 1}, {2, 4}, {100, 1000}, {9, 6}} {
			a, b := timesAll(safe, factors[0]), timesAll(safe, factors[1])
			for _, m := range []int{0, 1, 3, 1000} {
				for _, n := range []int{1, 5, 1000} {
					if got, ok := impl.MixStrategies(a, b, m, n); !ok || !slices.Equal(got, safe) {
						t.Errorf("MixStrategies(%v, %v, %d, %d) = %v, %v, want %v", a, b, m, n, got, ok, safe)
					}
				}
			}
		}
	}
}

func TestStrategiesOfBrokenTours(t *testing.T) {
	tours := brokenTours()
	for _, w := range writtenStrategies {
		tours = append(tours, spoiled(mustParse(t, w.text))...)
	}
	for _, broken := range tours {
		checkNoSafeStrategy(t, broken)
		for _, weights := range [][]int{nil, make([]int, len(broken.Wins)), slices.Repeat([]int{1}, len(broken.Wins)), broken.Wins} {
			checkNoStrategy(t, broken, weights)
		}
		if broken.Size >= 0 && broken.Size <= 9 {
			checkNoStrategy(t, broken, slices.Repeat([]int{1}, broken.Size))
		}
	}
}

// TestSafeStrategyIsTheSameAtEachCall calls it many times, with one processor and with several ones.
func TestSafeStrategyIsTheSameAtEachCall(t *testing.T) {
	for _, processors := range []int{1, 2, runtime.NumCPU()} {
		before := runtime.GOMAXPROCS(processors)
		for _, w := range writtenStrategies {
			tour := mustParse(t, w.text)
			if tour.Size == 8 {
				continue
			}
			for range 60 {
				if got, set := mustBeSafe(t, tour), impl.SafeSet(tour); !slices.Equal(got, w.safe) || set != setOfWeights(w.safe) {
					t.Fatalf("SafeStrategy(%s) = %v, SafeSet = %d, want %v at each call", w.text, got, set, w.safe)
				}
			}
		}
		runtime.GOMAXPROCS(before)
	}
}

// TestSafeStrategyOfCallsAtOnce calls it for one tour by several goroutines, which share its memory.
func TestSafeStrategyOfCallsAtOnce(t *testing.T) {
	for _, w := range writtenStrategies {
		tour := mustParse(t, w.text)
		if tour.Size == 8 {
			continue
		}
		results := make([][]int, 16)
		var calls sync.WaitGroup
		for i := range results {
			calls.Go(func() { results[i], _ = impl.SafeStrategy(tour) })
		}
		calls.Wait()
		for _, got := range results {
			if !slices.Equal(got, w.safe) {
				t.Errorf("SafeStrategy(%s) = %v, want %v at each call", w.text, got, w.safe)
			}
		}
	}
}

// TestSafeStrategyIsDoneWhenItReturns uses the memory of a tour again as soon as a call has returned: the race detector finds a goroutine that still reads it.
func TestSafeStrategyIsDoneWhenItReturns(t *testing.T) {
	for n := 1; n <= 8; n++ {
		tour := impl.Tour{Size: n, Wins: make([]int, n)}
		for _, k := range knownTours(n, 100) {
			copy(tour.Wins, k.tour.Wins)
			got, ok := impl.SafeStrategy(tour)
			set := impl.SafeSet(tour)
			clear(tour.Wins)
			if ok && !isSafeIn(k, got) || ok != (n <= 7) || set != setOfWeights(got) {
				t.Errorf("SafeStrategy(%s) = %v, %v, SafeSet = %d", k.text, got, ok, set)
			}
		}
	}
}

// checkNoGoroutines waits until there are no more goroutines than before: one that is done may take a moment to end.
func checkNoGoroutines(t *testing.T, label string, before int) {
	t.Helper()
	for range 5000 {
		if runtime.NumGoroutine() <= before {
			return
		}
		time.Sleep(time.Millisecond)
	}
	t.Fatalf("%s leaves %d goroutines running", label, runtime.NumGoroutine()-before)
}

func TestStrategiesLeaveNoGoroutines(t *testing.T) {
	before := runtime.NumGoroutine()
	for _, k := range fewToursForStrategies() {
		impl.SafeStrategy(k.tour)
		checkNoGoroutines(t, "SafeStrategy of "+k.text, before)
		impl.SafeSet(k.tour)
		checkNoGoroutines(t, "SafeSet of "+k.text, before)
		for _, weights := range weightsFor(k)[:8] {
			impl.StrategyOk(k.tour, weights)
			impl.BalanceOf(k.tour, weights, 0)
			impl.IsSafe(k.tour, weights)
			impl.BestAnswer(k.tour, weights)
			impl.MixStrategies(weights, weights, 1, 2)
		}
		checkNoGoroutines(t, "a function of a strategy of "+k.text, before)
	}
	for _, broken := range brokenTours()[:40] {
		impl.SafeStrategy(broken)
		impl.SafeSet(broken)
		checkNoGoroutines(t, fmt.Sprintf("SafeStrategy or SafeSet of %v", broken), before)
	}
}

func TestStrategiesLeaveArgumentsAsTheyAre(t *testing.T) {
	for _, k := range fewToursForStrategies() {
		n := k.tour.Size
		winsMemory := append(slices.Clone(k.tour.Wins), 91, 92, 93)
		tour := impl.Tour{Size: n, Wins: winsMemory[:n]}
		checkMemory(t, "SafeStrategy of "+k.text, func() ([]int, string) {
			weights, ok := impl.SafeStrategy(tour)
			return weights, strconv.FormatBool(ok)
		}, winsMemory)
		checkMemory(t, "SafeSet of "+k.text, func() ([]int, string) { return nil, strconv.Itoa(impl.SafeSet(tour)) }, winsMemory)
		for _, weights := range append(weightsFor(k), nil, []int{-1}, make([]int, 9)) {
			weightsMemory := append(slices.Clone(weights), 3, -92, 1)
			argument := weightsMemory[:len(weights)]
			checkMemory(t, fmt.Sprintf("a function of %s and %v", k.text, weights), func() ([]int, string) {
				return []int{impl.BalanceOf(tour, argument, 0), impl.BalanceOf(tour, argument, n-1), impl.BestAnswer(tour, argument)}, strings.Join([]string{
					strconv.FormatBool(impl.StrategyOk(tour, argument)),
					strconv.FormatBool(impl.IsSafe(tour, argument)),
				}, " ")
			}, winsMemory, weightsMemory)
		}
	}
}

func TestMixesLeaveListsAsTheyAre(t *testing.T) {
	for _, length := range []int{1, 3, 8, 9} {
		for _, rule := range rulesOfWeights {
			for _, other := range rulesOfWeights {
				aMemory := append(listOf(length, rule), 3, -92, 1)
				bMemory := append(listOf(length, other), -94, 95)
				a, b := aMemory[:length], bMemory[:length]
				for _, factors := range [][]int{{1, 0}, {0, 1}, {1, 1}, {6, 1000}, {0, 0}, {-1, 1001}} {
					label := fmt.Sprintf("MixStrategies of %v and %v for %v", a, b, factors)
					checkMemory(t, label, func() ([]int, string) {
						mix, ok := impl.MixStrategies(a, b, factors[0], factors[1])
						return mix, strconv.FormatBool(ok)
					}, aMemory, bMemory)
					checkMemory(t, label+", the first one twice", func() ([]int, string) {
						mix, ok := impl.MixStrategies(a, a, factors[0], factors[1])
						return mix, strconv.FormatBool(ok)
					}, aMemory)
				}
			}
		}
	}
}

// TestStrategiesOfSeveralCalls holds the results of several calls and writes into one of them after the other.
func TestStrategiesOfSeveralCalls(t *testing.T) {
	for _, w := range writtenStrategies {
		tour := mustParse(t, w.text)
		safe := slices.Clone(w.safe)
		results := [][]int{}
		for range 4 {
			weights, _ := impl.SafeStrategy(tour)
			mix, _ := impl.MixStrategies(safe, safe, 1, 0)
			other, _ := impl.MixStrategies(safe, mix, 2, 3)
			results = append(results, weights, mix, other)
		}
		for i, list := range results {
			for at := range list[:cap(list)] {
				list[:cap(list)][at] = -100 - i
			}
		}
		for i, list := range results {
			if slices.ContainsFunc(list, func(number int) bool { return number != -100-i }) {
				t.Errorf("the result %d of %s shares memory with another one", i, w.text)
			}
		}
		if text := impl.FormatTour(tour); text != w.text || !slices.Equal(safe, w.safe) {
			t.Errorf("the tour %s and its strategy %v have become %q and %v", w.text, w.safe, text, safe)
		}
	}
}
