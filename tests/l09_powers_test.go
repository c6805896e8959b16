package tests

import (
	"fmt"
	"math"
	"slices"
	"strconv"
	"testing"

	"loop.example/g03205/impl"
)

// countListsIn goes through all lists that begin with a and in which each one of as many further players is beaten by the one before.
func countListsIn(k known, a int, further int) int {
	if further == 0 {
		return 1
	}
	count := 0
	for b := range k.tour.Size {
		if k.beats[a][b] {
			count += countListsIn(k, b, further-1)
		}
	}
	return count
}

// powersIn returns, for each k from 0 to 12, the numbers of lists by their first player. It counts them by their first and their last player and makes them longer at the end.
func powersIn(k known) [13][]int {
	n := k.tour.Size
	var lists [8][8]int
	for a := range n {
		lists[a][a] = 1
	}
	var powers [13][]int
	for i := range powers {
		for a := range n {
			powers[i] = append(powers[i], sumOf(lists[a][:]))
		}
		var longer [8][8]int
		for a := range n {
			for last := range n {
				for b := range n {
					if k.beats[last][b] {
						longer[a][b] += lists[a][last]
					}
				}
			}
		}
		lists = longer
	}
	return powers
}

// secondIn adds the scores of those whom each player beats.
func secondIn(k known) []int {
	sums := make([]int, k.tour.Size)
	for a := range sums {
		for b, score := range knownScores(k) {
			if k.beats[a][b] {
				sums[a] += score
			}
		}
	}
	return sums
}

// defeatsIn adds the defeats of those by whom each player is beaten.
func defeatsIn(k known) []int {
	sums := make([]int, k.tour.Size)
	for a := range sums {
		for b, score := range knownScores(k) {
			if k.beats[b][a] {
				sums[a] += k.tour.Size - 1 - score
			}
		}
	}
	return sums
}

// levelsIn takes the greatest element that is left time and again, with all indices at which it is.
func levelsIn(list []int) [][]int {
	levels := [][]int{}
	for left := slices.Sorted(slices.Values(list)); len(left) > 0; {
		greatest := left[len(left)-1]
		level := []int{}
		for i, element := range list {
			if element == greatest {
				level = append(level, i)
			}
		}
		levels = append(levels, level)
		left = left[:len(left)-len(level)]
	}
	return levels
}

func orderIn(list []int) []int { return slices.Concat(levelsIn(list)...) }

// ranksIn gives the indices of a level the rank that follows those of the levels before.
func ranksIn(list []int) []int {
	ranks := make([]int, len(list))
	before := 0
	for _, level := range levelsIn(list) {
		for _, i := range level {
			ranks[i] = before + 1
		}
		before += len(level)
	}
	return ranks
}

// doAgreeIn sorts the elements of a, each one with that of b, the lesser one of b first where those of a are equal: those of b do not fall then.
func doAgreeIn(a, b []int) bool {
	if len(a) != len(b) || len(a) > 40 {
		return false
	}
	pairs := [][]int{}
	for i := range a {
		pairs = append(pairs, []int{a[i], b[i]})
	}
	slices.SortFunc(pairs, slices.Compare)
	return slices.IsSortedFunc(pairs, func(p, q []int) int {
		if p[1] < q[1] {
			return -1
		}
		if p[1] > q[1] {
			return 1
		}
		return 0
	})
}

// listOf returns a list of n elements by a rule.
func listOf(n int, rule func(i int) int) []int {
	list := []int{}
	for i := range n {
		list = append(list, rule(i))
	}
	return list
}

// rulesOfLists make lists with equal and with different elements, with negative ones, and with very great ones.
var rulesOfLists = []func(i int) int{
	func(i int) int { return 0 },
	func(i int) int { return -7 },
	func(i int) int { return math.MinInt },
	func(i int) int { return math.MaxInt },
	func(i int) int { return i },
	func(i int) int { return -i },
	func(i int) int { return i % 2 },
	func(i int) int { return -i % 3 },
	func(i int) int { return i / 5 },
	func(i int) int { return -(i / 7) },
	func(i int) int { return i*i%11 - 5 },
	func(i int) int { return i * 29 % 43 },
	func(i int) int { return (i + 3) * 17 % 41 / 2 },
	func(i int) int { return i % 7 << 32 },
	func(i int) int { return i%3<<32 + i%2 },
	func(i int) int { return math.MinInt + i%5 },
	func(i int) int { return math.MaxInt - i%4 },
	func(i int) int {
		return []int{math.MinInt, math.MaxInt, 0, math.MinInt + 1, math.MaxInt - 1, -1, 1}[i*i%7]
	},
	func(i int) int { return (i + 1) * 0x9E3779B97F4A7C1 },
}

// rankedLists returns all lists of up to 4 of some numbers, and lists of each greater length up to 40.
func rankedLists() [][]int {
	lists := [][]int{}
	for n := range 5 {
		listsOf(n, []int{math.MinInt, -1, 0, 2, math.MaxInt}, func(list []int) { lists = append(lists, slices.Clone(list)) })
	}
	for n := 5; n <= 40; n++ {
		for _, rule := range rulesOfLists {
			lists = append(lists, listOf(n, rule))
		}
	}
	return lists
}

// tooLongLists returns lists of more than 40 elements.
func tooLongLists() [][]int {
	lists := [][]int{}
	for _, n := range []int{41, 42, 63, 64, 65, 80, 81, 128, 256, 1000, 65536} {
		for _, rule := range rulesOfLists {
			lists = append(lists, listOf(n, rule))
		}
	}
	return lists
}

// writtenPowers are tours with their SecondScores, their DefeatScores, their PowerScores for 4 and for 12, and the PowerOrder for 12.
var writtenPowers = []struct {
	text    string
	second  []int
	defeat  []int
	fourth  []int
	twelfth []int
	order   []int
}{
	{"1:", []int{0}, []int{0}, []int{0}, []int{0}, []int{0}},
	{"2:1", []int{0, 0}, []int{0, 0}, []int{0, 0}, []int{0, 0}, []int{0, 1}},
	{"2:0", []int{0, 0}, []int{0, 0}, []int{0, 0}, []int{0, 0}, []int{0, 1}},
	{"3:111", []int{1, 0, 0}, []int{1, 0, -1}, []int{0, 0, 0}, []int{0, 0, 0}, []int{0, 1, 2}},
	{"3:000", []int{0, 0, 1}, []int{-1, 0, 1}, []int{0, 0, 0}, []int{0, 0, 0}, []int{0, 1, 2}},
	{"3:101", []int{1, 1, 1}, []int{0, 0, 0}, []int{1, 1, 1}, []int{1, 1, 1}, []int{0, 1, 2}},
	{"3:010", []int{1, 1, 1}, []int{0, 0, 0}, []int{1, 1, 1}, []int{1, 1, 1}, []int{0, 1, 2}},
	{"3:100", []int{0, 0, 1}, []int{0, -1, 1}, []int{0, 0, 0}, []int{0, 0, 0}, []int{0, 1, 2}},
	{"4:111111", []int{3, 1, 0, 0}, []int{3, 1, -1, -3}, []int{0, 0, 0, 0}, []int{0, 0, 0, 0}, []int{0, 1, 2, 3}},
	{"4:000000", []int{0, 0, 1, 3}, []int{-3, -1, 1, 3}, []int{0, 0, 0, 0}, []int{0, 0, 0, 0}, []int{0, 1, 2, 3}},
	{"4:110111", []int{3, 2, 1, 2}, []int{1, 1, -1, -1}, []int{5, 5, 3, 3}, []int{73, 61, 35, 55}, []int{0, 1, 3, 2}},
	{"4:111101", []int{3, 1, 1, 1}, []int{3, -1, -1, -1}, []int{3, 1, 1, 1}, []int{3, 1, 1, 1}, []int{0, 1, 2, 3}},
	{"4:011011", []int{2, 2, 2, 0}, []int{1, 1, 1, -3}, []int{2, 2, 2, 0}, []int{2, 2, 2, 0}, []int{0, 1, 2, 3}},
	{"4:001010", []int{1, 2, 3, 2}, []int{-1, 1, 1, -1}, []int{3, 5, 5, 3}, []int{35, 61, 73, 55}, []int{2, 1, 3, 0}},
	{"5:1111111111", []int{6, 3, 1, 0, 0}, []int{6, 3, 0, -3, -6}, []int{1, 0, 0, 0, 0}, []int{0, 0, 0, 0, 0}, []int{0, 1, 2, 3, 4}},
	{"5:1100110111", []int{4, 4, 4, 4, 4}, []int{0, 0, 0, 0, 0}, []int{16, 16, 16, 16, 16}, []int{4096, 4096, 4096, 4096, 4096}, []int{0, 1, 2, 3, 4}},
	{"5:1101110111", []int{5, 4, 3, 4, 2}, []int{3, 0, 0, 0, -3}, []int{17, 13, 11, 13, 7}, []int{2209, 1705, 1431, 1705, 927}, []int{0, 1, 3, 2, 4}},
	{"5:0110001001", []int{4, 4, 2, 5, 3}, []int{0, 0, -3, 3, 0}, []int{13, 13, 7, 17, 11}, []int{1705, 1705, 927, 2209, 1431}, []int{3, 0, 1, 4, 2}},
	{"6:101111111111101", []int{7, 7, 7, 1, 1, 1}, []int{6, 6, 6, -6, -6, -6}, []int{13, 13, 13, 1, 1, 1}, []int{37, 37, 37, 1, 1, 1}, []int{0, 1, 2, 3, 4, 5}},
	{"6:111101111111111", []int{10, 7, 4, 2, 1, 4}, []int{6, 6, 2, -2, -6, -6}, []int{27, 26, 19, 14, 10, 14}, []int{8373, 6997, 4685, 3113, 2045, 4033}, []int{0, 1, 2, 5, 3, 4}},
	{"6:101100101000101", []int{7, 5, 5, 5, 7, 7}, []int{2, -2, -2, -2, 2, 2}, []int{41, 29, 29, 29, 41, 41}, []int{47321, 33461, 33461, 33461, 47321, 47321}, []int{0, 4, 5, 1, 2, 3}},
	{"7:110100110101101110111", []int{9, 9, 9, 9, 9, 9, 9}, []int{0, 0, 0, 0, 0, 0, 0}, []int{81, 81, 81, 81, 81, 81, 81}, []int{531441, 531441, 531441, 531441, 531441, 531441, 531441}, []int{0, 1, 2, 3, 4, 5, 6}},
	{"7:010101111010100111011", []int{3, 11, 1, 11, 1, 11, 1}, []int{0, 10, -10, 10, -10, 10, -10}, []int{3, 23, 1, 23, 1, 23, 1}, []int{3, 71, 1, 71, 1, 71, 1}, []int{1, 3, 5, 0, 2, 4, 6}},
	{"8:1111111111111111111111111111", []int{21, 15, 10, 6, 3, 1, 0, 0}, []int{21, 15, 9, 3, -3, -9, -15, -21}, []int{35, 15, 5, 1, 0, 0, 0, 0}, []int{0, 0, 0, 0, 0, 0, 0, 0}, []int{0, 1, 2, 3, 4, 5, 6, 7}},
	{"8:1111110111111111111111111111", []int{21, 16, 11, 7, 4, 2, 1, 6}, []int{15, 15, 9, 3, -3, -9, -15, -15}, []int{86, 76, 56, 43, 34, 27, 21, 41}, []int{168433, 140122, 100609, 72410, 52214, 37670, 27130, 67216}, []int{0, 1, 2, 3, 7, 4, 5, 6}},
	{"8:1010111101010100010000110011", []int{15, 12, 9, 3, 17, 10, 11, 9}, []int{9, -3, -3, -15, 9, 3, 3, -3}, []int{145, 106, 89, 37, 148, 108, 104, 97}, []int{1303886, 997140, 796643, 318901, 1380976, 953037, 939493, 862844}, []int{4, 0, 1, 5, 6, 7, 2, 3}},
	{"8:1101000011100101010111010111", []int{10, 11, 14, 14, 12, 13, 13, 9}, []int{-3, -3, 3, 3, -3, 3, 3, -3}, []int{127, 130, 161, 158, 136, 155, 156, 117}, []int{2492464, 2610441, 3231272, 3171770, 2750935, 3077065, 3079760, 2278839}, []int{2, 3, 6, 5, 4, 1, 0, 7}},
	{"8:0010110001100001100011000011", []int{11, 9, 13, 15, 11, 11, 13, 13}, []int{-3, -3, 3, 3, -3, -3, 3, 3}, []int{131, 117, 155, 165, 131, 131, 155, 155}, []int{2620187, 2280501, 3074171, 3337725, 2620187, 2620187, 3074171, 3074171}, []int{3, 2, 6, 7, 0, 4, 5, 1}},
}

// checkPowers compares the functions of a tour with what the tests compute.
func checkPowers(t *testing.T, k known) {
	t.Helper()
	second, defeats := secondIn(k), defeatsIn(k)
	if got := impl.SecondScores(k.tour); !slices.Equal(got, second) {
		t.Errorf("SecondScores(%s) = %v, want %v", k.text, got, second)
	}
	want := listOf(k.tour.Size, func(a int) int { return second[a] - defeats[a] })
	if got := impl.DefeatScores(k.tour); !slices.Equal(got, want) {
		t.Errorf("DefeatScores(%s) = %v, want %v", k.text, got, want)
	}
	for i, want := range powersIn(k) {
		if got := impl.PowerScores(k.tour, i); !slices.Equal(got, want) {
			t.Errorf("PowerScores(%s, %d) = %v, want %v", k.text, i, got, want)
		}
		if got := impl.PowerOrder(k.tour, i); !slices.Equal(got, orderIn(want)) {
			t.Errorf("PowerOrder(%s, %d) = %v, want %v", k.text, i, got, orderIn(want))
		}
	}
}

func TestPowersOfTours(t *testing.T) {
	for _, k := range toursForOrders() {
		checkPowers(t, k)
	}
}

func TestWrittenPowers(t *testing.T) {
	for _, w := range writtenPowers {
		tour := mustParse(t, w.text)
		checkPowers(t, knownWithText(w.text))
		for _, c := range []struct {
			name string
			got  []int
			want []int
		}{
			{"SecondScores", impl.SecondScores(tour), w.second},
			{"DefeatScores", impl.DefeatScores(tour), w.defeat},
			{"PowerScores for 4", impl.PowerScores(tour, 4), w.fourth},
			{"PowerScores for 12", impl.PowerScores(tour, 12), w.twelfth},
			{"PowerOrder for 12", impl.PowerOrder(tour, 12), w.order},
		} {
			if !slices.Equal(c.got, c.want) {
				t.Errorf("%s of %s are %v, want %v", c.name, w.text, c.got, c.want)
			}
		}
	}
}

// TestPowersCountLists goes through the lists themselves.
func TestPowersCountLists(t *testing.T) {
	most := []int{0, 12, 12, 12, 12, 8, 6, 5, 4}
	for _, k := range fewToursForOrders() {
		n := k.tour.Size
		for further := range most[n] + 1 {
			want := listOf(n, func(a int) int { return countListsIn(k, a, further) })
			if got := impl.PowerScores(k.tour, further); !slices.Equal(got, want) {
				t.Errorf("PowerScores(%s, %d) = %v, want %v", k.text, further, got, want)
			}
		}
	}
}

// TestFirstPowers takes k = 0 with 1 for each player, k = 1 with the scores, and k = 2 with the scores of those whom a player beats.
func TestFirstPowers(t *testing.T) {
	for _, k := range toursForOrders() {
		for i, want := range [][]int{slices.Repeat([]int{1}, k.tour.Size), impl.ScoresOf(k.tour), impl.SecondScores(k.tour)} {
			if got := impl.PowerScores(k.tour, i); !slices.Equal(got, want) {
				t.Errorf("PowerScores(%s, %d) = %v, want %v", k.text, i, got, want)
			}
		}
	}
}

func TestPowersOfOnePlayer(t *testing.T) {
	tour := impl.Tour{Size: 1, Wins: []int{0}}
	for k := range 13 {
		want := []int{0}
		if k == 0 {
			want = []int{1}
		}
		if got := impl.PowerScores(tour, k); !slices.Equal(got, want) {
			t.Errorf("PowerScores of one player for %d are %v, want %v", k, got, want)
		}
		if got := impl.PowerOrder(tour, k); !slices.Equal(got, []int{0}) {
			t.Errorf("PowerOrder of one player for %d is %v, want 0", k, got)
		}
	}
	if second, defeat := impl.SecondScores(tour), impl.DefeatScores(tour); !slices.Equal(second, []int{0}) || !slices.Equal(defeat, []int{0}) {
		t.Errorf("SecondScores of one player are %v, and DefeatScores %v, want 0", second, defeat)
	}
}

// TestPowersOfTransitiveTours chooses k of those whom a player beats: they make one list with this player first.
func TestPowersOfTransitiveTours(t *testing.T) {
	for n := 1; n <= 8; n++ {
		for _, order := range manyOrdersOf(n) {
			k := buildTour(slices.Repeat([]int{1}, n), order)
			want := slices.Repeat([]int{1}, n)
			for power := range 13 {
				if got := impl.PowerScores(k.tour, power); !slices.Equal(got, want) {
					t.Errorf("PowerScores(%s, %d) = %v, want %v", k.text, power, got, want)
				}
				for i, a := range order {
					below := n - 1 - i
					want[a] = want[a] * max(below-power, 0) / (power + 1)
				}
			}
			if got := impl.PowerOrder(k.tour, 1); !slices.Equal(got, order) {
				t.Errorf("PowerOrder(%s, 1) = %v, want %v", k.text, got, order)
			}
		}
	}
}

// TestPowersOfRegularTours takes circles in which each player beats as many as beat them.
func TestPowersOfRegularTours(t *testing.T) {
	for _, text := range []string{"1:", "3:101", "3:010", "5:1100110111", "7:110100110101101110111", "7:111000111001110111111"} {
		tour := mustParse(t, text)
		want := slices.Repeat([]int{1}, tour.Size)
		for k := range 13 {
			if got := impl.PowerScores(tour, k); !slices.Equal(got, want) {
				t.Errorf("PowerScores(%s, %d) = %v, want %v", text, k, got, want)
			}
			if got := impl.PowerOrder(tour, k); !slices.Equal(got, numbersTo(0, tour.Size-1)) {
				t.Errorf("PowerOrder(%s, %d) = %v", text, k, got)
			}
			for a := range want {
				want[a] *= (tour.Size - 1) / 2
			}
		}
		if got := impl.DefeatScores(tour); !slices.Equal(got, make([]int, tour.Size)) {
			t.Errorf("DefeatScores(%s) = %v, want 0 each", text, got)
		}
	}
}

// TestPowersOfBeaten begins lists with a player and goes on with a list of one more power less.
func TestPowersOfBeaten(t *testing.T) {
	for _, k := range toursForOrders() {
		for power := 1; power <= 12; power++ {
			scores, rest := impl.PowerScores(k.tour, power), impl.PowerScores(k.tour, power-1)
			for a, score := range scores {
				sum := 0
				for b := range rest {
					if impl.DoesBeat(k.tour, a, b) {
						sum += rest[b]
					}
				}
				if score != sum {
					t.Errorf("PowerScores(%s, %d)[%d] = %d, but those beaten have %d lists", k.text, power, a, score, sum)
				}
			}
		}
	}
}

// TestPowersOfTurnedTours cuts lists at a player: what comes before them is a list of the turned tour.
func TestPowersOfTurnedTours(t *testing.T) {
	for _, k := range toursForOrders() {
		turned, _ := impl.TurnTour(k.tour)
		for power := range 13 {
			all := sumOf(impl.PowerScores(k.tour, power))
			for before := range power + 1 {
				ends, starts := impl.PowerScores(turned, before), impl.PowerScores(k.tour, power-before)
				sum := 0
				for a := range k.tour.Size {
					sum += ends[a] * starts[a]
				}
				if all != sum {
					t.Errorf("the sum of PowerScores(%s, %d) is %d, but %d with the lists cut at %d", k.text, power, all, sum, before)
				}
			}
		}
		defeats := impl.DefeatScores(turned)
		for a, score := range impl.DefeatScores(k.tour) {
			if defeats[a] != -score {
				t.Errorf("DefeatScores(%s)[%d] = %d, and %d with all results reversed", k.text, a, score, defeats[a])
			}
		}
		if sum := sumOf(defeats); sum != 0 {
			t.Errorf("the sum of DefeatScores(%v) is %d, want 0", turned, sum)
		}
	}
}

func TestPowersForOtherNames(t *testing.T) {
	for _, k := range fewToursForOrders() {
		for _, names := range someOrdersOf(k.tour.Size) {
			renamed, _ := impl.RenameTour(k.tour, names)
			named := func(list []int) []int {
				other := make([]int, len(list))
				for a, number := range list {
					other[names[a]] = number
				}
				return other
			}
			if got, want := impl.SecondScores(renamed), named(impl.SecondScores(k.tour)); !slices.Equal(got, want) {
				t.Errorf("SecondScores(%s), renamed by %v, are %v, want %v", k.text, names, got, want)
			}
			if got, want := impl.DefeatScores(renamed), named(impl.DefeatScores(k.tour)); !slices.Equal(got, want) {
				t.Errorf("DefeatScores(%s), renamed by %v, are %v, want %v", k.text, names, got, want)
			}
			for power := range 13 {
				if got, want := impl.PowerScores(renamed, power), named(impl.PowerScores(k.tour, power)); !slices.Equal(got, want) {
					t.Errorf("PowerScores(%s, %d), renamed by %v, are %v, want %v", k.text, power, names, got, want)
				}
			}
		}
	}
}

// TestPowersOfParts checks that lists that begin in the last strong part stay in it.
func TestPowersOfParts(t *testing.T) {
	for _, k := range builtTours() {
		last := k.parts[len(k.parts)-1]
		part, _ := impl.PartTour(k.tour, last)
		for power := range 13 {
			scores, want := impl.PowerScores(k.tour, power), impl.PowerScores(part, power)
			for i, a := range membersOf(last) {
				if scores[a] != want[i] {
					t.Errorf("PowerScores(%s, %d)[%d] = %d, want %d as in the last part", k.text, power, a, scores[a], want[i])
				}
			}
		}
	}
}

// checkRanked compares the functions of a list with what the tests compute.
func checkRanked(t *testing.T, list []int) {
	t.Helper()
	if got, want := impl.RankBy(list), ranksIn(list); !slices.Equal(got, want) {
		t.Errorf("RankBy(%v) = %v, want %v", list, got, want)
	}
	if got, want := impl.OrderBy(list), orderIn(list); !slices.Equal(got, want) {
		t.Errorf("OrderBy(%v) = %v, want %v", list, got, want)
	}
	if got, want := impl.LevelsOf(list), levelsIn(list); !equalLists(got, want) {
		t.Errorf("LevelsOf(%v) = %v, want %v", list, got, want)
	}
}

func TestRankedLists(t *testing.T) {
	for _, list := range rankedLists() {
		checkRanked(t, list)
	}
	checkRanked(t, nil)
	checkRanked(t, []int{})
	for _, k := range fewToursForOrders() {
		for power := range 13 {
			checkRanked(t, impl.PowerScores(k.tour, power))
		}
		checkRanked(t, impl.DefeatScores(k.tour))
	}
}

func TestWrittenRanks(t *testing.T) {
	for _, c := range []struct {
		list   []int
		ranks  []int
		order  []int
		levels [][]int
	}{
		{nil, nil, nil, nil},
		{[]int{5}, []int{1}, []int{0}, [][]int{{0}}},
		{[]int{math.MinInt}, []int{1}, []int{0}, [][]int{{0}}},
		{[]int{0, 0}, []int{1, 1}, []int{0, 1}, [][]int{{0, 1}}},
		{[]int{1, 2}, []int{2, 1}, []int{1, 0}, [][]int{{1}, {0}}},
		{[]int{2, 1}, []int{1, 2}, []int{0, 1}, [][]int{{0}, {1}}},
		{[]int{1, 3, 1}, []int{2, 1, 2}, []int{1, 0, 2}, [][]int{{1}, {0, 2}}},
		{[]int{3, 1, 3, 2}, []int{1, 4, 1, 3}, []int{0, 2, 3, 1}, [][]int{{0, 2}, {3}, {1}}},
		{[]int{4, 7, 4, 7, 4}, []int{3, 1, 3, 1, 3}, []int{1, 3, 0, 2, 4}, [][]int{{1, 3}, {0, 2, 4}}},
		{[]int{-3, -1, -2, -1}, []int{4, 1, 3, 1}, []int{1, 3, 2, 0}, [][]int{{1, 3}, {2}, {0}}},
		{[]int{math.MinInt, math.MaxInt, 0, math.MinInt}, []int{3, 1, 2, 3}, []int{1, 2, 0, 3}, [][]int{{1}, {2}, {0, 3}}},
		{[]int{math.MaxInt, math.MinInt, -1, math.MaxInt}, []int{1, 4, 3, 1}, []int{0, 3, 2, 1}, [][]int{{0, 3}, {2}, {1}}},
		{[]int{10, 9, 8, 7, 7, 8, 9, 10}, []int{1, 3, 5, 7, 7, 5, 3, 1}, []int{0, 7, 1, 6, 2, 5, 3, 4}, [][]int{{0, 7}, {1, 6}, {2, 5}, {3, 4}}},
	} {
		checkRanked(t, c.list)
		if got := impl.RankBy(c.list); !slices.Equal(got, c.ranks) {
			t.Errorf("RankBy(%v) = %v, want %v", c.list, got, c.ranks)
		}
		if got := impl.OrderBy(c.list); !slices.Equal(got, c.order) {
			t.Errorf("OrderBy(%v) = %v, want %v", c.list, got, c.order)
		}
		if got := impl.LevelsOf(c.list); !equalLists(got, c.levels) {
			t.Errorf("LevelsOf(%v) = %v, want %v", c.list, got, c.levels)
		}
	}
}

// TestRanksOrdersAndLevels checks that these three agree with each other.
func TestRanksOrdersAndLevels(t *testing.T) {
	for _, list := range rankedLists() {
		ranks, order, levels := impl.RankBy(list), impl.OrderBy(list), impl.LevelsOf(list)
		if sorted := slices.Sorted(slices.Values(order)); len(order) != len(list) || !slices.Equal(sorted, numbersTo(0, len(list)-1)) {
			t.Fatalf("OrderBy(%v) = %v, which is no order of the indices", list, order)
		}
		if together := slices.Concat(levels...); !slices.Equal(together, order) {
			t.Errorf("LevelsOf(%v) = %v, but OrderBy = %v", list, levels, order)
		}
		for at, i := range order {
			if at > 0 && (list[order[at-1]] < list[i] || list[order[at-1]] == list[i] && order[at-1] > i) {
				t.Errorf("OrderBy(%v) = %v has %d before %d", list, order, order[at-1], i)
			}
		}
		before := 0
		for _, level := range levels {
			for _, i := range level {
				if ranks[i] != before+1 || list[i] != list[level[0]] {
					t.Errorf("RankBy(%v) = %v, but LevelsOf = %v", list, ranks, levels)
				}
			}
			before += len(level)
		}
		if again := impl.RankBy(ranks); len(levels) > 1 && slices.Equal(again, ranks) {
			t.Errorf("RankBy(%v) = %v, though the least rank is the best one", ranks, again)
		}
	}
}

// TestRankedForty takes lists that are as long as they may be, and the same ones with one more element.
func TestRankedForty(t *testing.T) {
	for _, rule := range rulesOfLists {
		forty := listOf(40, rule)
		checkRanked(t, forty)
		if len(impl.RankBy(forty)) != 40 || len(impl.OrderBy(forty)) != 40 || len(impl.LevelsOf(forty)) == 0 || !impl.DoAgree(forty, forty) {
			t.Errorf("the list %v of 40 elements is refused", forty)
		}
	}
	for _, list := range tooLongLists() {
		ranks, order, levels := impl.RankBy(list), impl.OrderBy(list), impl.LevelsOf(list)
		if len(ranks) != 0 || len(order) != 0 || len(levels) != 0 {
			t.Errorf("of %d elements RankBy makes %v, OrderBy %v and LevelsOf %v, want nil", len(list), ranks, order, levels)
		}
		if impl.DoAgree(list, list) {
			t.Errorf("DoAgree of %d elements is true, want false", len(list))
		}
	}
}

// checkAgreement compares DoAgree with what the tests compute, both ways round.
func checkAgreement(t *testing.T, a, b []int) {
	t.Helper()
	want := doAgreeIn(a, b)
	if there, back := impl.DoAgree(a, b), impl.DoAgree(b, a); there != want || back != want {
		t.Errorf("DoAgree(%v, %v) = %v, and %v the other way round, want %v", a, b, there, back, want)
	}
}

// checkAllAgreements compares all pairs of lists of n numbers.
func checkAllAgreements(t *testing.T, n int, numbers []int) {
	t.Helper()
	listsOf(n, numbers, func(a []int) {
		listsOf(n, numbers, func(b []int) { checkAgreement(t, a, b) })
	})
}

func TestAgreementsOfAllLists(t *testing.T) {
	for n := range 4 {
		checkAllAgreements(t, n, []int{math.MinInt, -1, 0, math.MaxInt})
	}
	checkAllAgreements(t, 4, []int{-1, 0, 1})
	checkAllAgreements(t, 5, []int{math.MinInt, math.MaxInt})
	checkAllAgreements(t, 6, []int{3, 4})
}

func TestWrittenAgreements(t *testing.T) {
	for _, c := range []struct {
		a, b []int
		want bool
	}{
		{nil, nil, true},
		{nil, []int{}, true},
		{nil, []int{1}, false},
		{[]int{1}, nil, false},
		{[]int{1}, []int{1}, true},
		{[]int{math.MinInt}, []int{math.MaxInt}, true},
		{[]int{1}, []int{1, 1}, false},
		{[]int{1, 1}, []int{1}, false},
		{[]int{1, 2, 3}, []int{1, 2, 3, 4}, false},
		{[]int{1, 2}, []int{3, 3}, true},
		{[]int{3, 3}, []int{1, 2}, true},
		{[]int{3, 3}, []int{2, 1}, true},
		{[]int{1, 2}, []int{3, 2}, false},
		{[]int{2, 1}, []int{2, 3}, false},
		{[]int{2, 1}, []int{-2, -3}, true},
		{[]int{1, 1, 2}, []int{5, 9, 9}, true},
		{[]int{1, 1, 2}, []int{5, 9, 8}, false},
		// These two do not agree, though each of them agrees with equal elements.
		{[]int{1, 2, 3}, []int{3, 1, 2}, false},
		{[]int{0, 0, 0}, []int{3, 1, 2}, true},
		{[]int{math.MinInt, math.MaxInt}, []int{math.MinInt, math.MinInt + 1}, true},
		{[]int{math.MinInt, math.MaxInt}, []int{math.MaxInt, math.MaxInt - 1}, false},
		{[]int{math.MaxInt, math.MinInt}, []int{math.MaxInt, math.MinInt}, true},
		{[]int{-1, 1}, []int{math.MinInt, math.MaxInt}, true},
		{[]int{-1, 1}, []int{math.MaxInt, math.MinInt}, false},
	} {
		checkAgreement(t, c.a, c.b)
		if got := impl.DoAgree(c.a, c.b); got != c.want {
			t.Errorf("DoAgree(%v, %v) = %v, want %v", c.a, c.b, got, c.want)
		}
	}
}

func TestAgreementsOfLongLists(t *testing.T) {
	for _, n := range []int{7, 24, 39, 40, 41, 42, 64} {
		for _, rule := range rulesOfLists {
			a := listOf(n, rule)
			for _, other := range rulesOfLists {
				checkAgreement(t, a, listOf(n, other))
			}
			for _, b := range [][]int{a, impl.RankBy(a), orderIn(a), make([]int, n)} {
				checkAgreement(t, a, b)
			}
		}
	}
}

// TestAgreementsOfOnePair has lists that disagree on one pair of indices alone, and others of which no pair differs in both.
func TestAgreementsOfOnePair(t *testing.T) {
	for i := range 40 {
		for k := range 40 {
			a, b := make([]int, 40), make([]int, 40)
			a[i]++
			b[k]++
			if got := impl.DoAgree(a, b); got != (i == k) {
				t.Errorf("DoAgree of 40 elements is %v, where the element %d of one list and %d of the other one is greater", got, i, k)
			}
			b = slices.Clone(a)
			b[k] += 5
			checkAgreement(t, a, b)
		}
	}
}

// TestAgreementsOfOtherLengths takes lists that agree as far as the shorter one goes.
func TestAgreementsOfOtherLengths(t *testing.T) {
	for _, rule := range rulesOfLists {
		for n := range 43 {
			for other := range 43 {
				if got, want := impl.DoAgree(listOf(n, rule), listOf(other, rule)), n == other && n <= 40; got != want {
					t.Errorf("DoAgree of %d and %d elements is %v, want %v", n, other, got, want)
				}
			}
		}
	}
	for _, n := range []int{100, 65536} {
		for _, other := range []int{0, 1, 40, 41, n} {
			checkAgreement(t, make([]int, n), make([]int, other))
		}
	}
}

// TestAgreementsOfRanks compares lists with their ranks, whose signs are turned because the least rank is the best one.
func TestAgreementsOfRanks(t *testing.T) {
	for _, list := range rankedLists() {
		ranks := impl.RankBy(list)
		turned := listOf(len(ranks), func(i int) int { return -ranks[i] })
		if !impl.DoAgree(list, turned) {
			t.Errorf("DoAgree(%v, %v) = false, want true", list, turned)
		}
		if got, want := impl.DoAgree(list, ranks), len(impl.LevelsOf(list)) <= 1; got != want {
			t.Errorf("DoAgree(%v, %v) = %v, want %v", list, ranks, got, want)
		}
	}
}

// TestPowersOfBrokenTours expects nothing of tours that are not valid, whatever k is.
func TestPowersOfBrokenTours(t *testing.T) {
	tours := brokenTours()
	for _, w := range writtenPowers {
		tours = append(tours, spoiled(mustParse(t, w.text))...)
	}
	for _, broken := range tours {
		if second, defeat := impl.SecondScores(broken), impl.DefeatScores(broken); len(second) != 0 || len(defeat) != 0 {
			t.Errorf("SecondScores(%v) = %v, DefeatScores = %v, want nil", broken, second, defeat)
		}
		for k := -1; k <= 13; k++ {
			if scores, order := impl.PowerScores(broken, k), impl.PowerOrder(broken, k); len(scores) != 0 || len(order) != 0 {
				t.Errorf("PowerScores(%v, %d) = %v, PowerOrder = %v, want nil", broken, k, scores, order)
			}
		}
	}
}

func TestBrokenPowers(t *testing.T) {
	for _, k := range fewToursForOrders() {
		for _, power := range []int{-1, -2, -12, -13, 13, 14, 24, 64, 255, 256, 268, 1 << 32, 1<<32 + 1, 1<<32 + 12, 1 << 62, math.MinInt, math.MinInt + 1, math.MinInt + 12, math.MaxInt} {
			if scores, order := impl.PowerScores(k.tour, power), impl.PowerOrder(k.tour, power); len(scores) != 0 || len(order) != 0 {
				t.Errorf("PowerScores(%s, %d) = %v, PowerOrder = %v, want nil", k.text, power, scores, order)
			}
		}
	}
}

func TestPowersLeaveToursAsTheyAre(t *testing.T) {
	for _, k := range fewToursForOrders() {
		memory := append(slices.Clone(k.tour.Wins), 91, 92, 93)
		tour := impl.Tour{Size: k.tour.Size, Wins: memory[:k.tour.Size]}
		checkMemory(t, "SecondScores of "+k.text, func() ([]int, string) { return impl.SecondScores(tour), "" }, memory)
		checkMemory(t, "DefeatScores of "+k.text, func() ([]int, string) { return impl.DefeatScores(tour), "" }, memory)
		for power := -1; power <= 13; power++ {
			label := fmt.Sprintf(" of %s for %d", k.text, power)
			checkMemory(t, "PowerScores"+label, func() ([]int, string) { return impl.PowerScores(tour, power), "" }, memory)
			checkMemory(t, "PowerOrder"+label, func() ([]int, string) { return impl.PowerOrder(tour, power), "" }, memory)
		}
	}
}

func TestRanksLeaveListsAsTheyAre(t *testing.T) {
	for _, list := range append(rankedLists(), tooLongLists()[:40]...) {
		memory := append(slices.Clone(list), 3, math.MinInt, math.MaxInt, 1)
		argument := memory[:len(list)]
		label := fmt.Sprintf(" of %v", list)
		checkMemory(t, "RankBy"+label, func() ([]int, string) { return impl.RankBy(argument), "" }, memory)
		checkMemory(t, "OrderBy"+label, func() ([]int, string) { return impl.OrderBy(argument), "" }, memory)
		checkLists(t, "LevelsOf"+label, func() [][]int { return impl.LevelsOf(argument) }, memory)
		otherMemory := append(slices.Clone(list), 5, -94, 95)
		slices.Reverse(otherMemory[:len(list)])
		checkMemory(t, "DoAgree"+label, func() ([]int, string) {
			return nil, strconv.FormatBool(impl.DoAgree(argument, otherMemory[:len(list)]))
		}, memory, otherMemory)
	}
}

// TestPowersOfSeveralCalls holds the results of several calls and writes into one of them after the other.
func TestPowersOfSeveralCalls(t *testing.T) {
	for _, k := range fewToursForOrders() {
		results := [][]int{}
		for range 3 {
			results = append(results, impl.SecondScores(k.tour), impl.DefeatScores(k.tour))
			for power := range 13 {
				scores := impl.PowerScores(k.tour, power)
				results = append(results, impl.RankBy(scores), impl.OrderBy(scores), impl.PowerOrder(k.tour, power))
				results = append(results, impl.LevelsOf(scores)...)
				results = append(results, scores)
			}
		}
		for i, list := range results {
			for at := range list[:cap(list)] {
				list[:cap(list)][at] = -100 - i
			}
		}
		for i, list := range results {
			if slices.ContainsFunc(list, func(number int) bool { return number != -100-i }) {
				t.Errorf("the result %d of %s shares memory with another one", i, k.text)
			}
		}
		if text := impl.FormatTour(k.tour); text != k.text {
			t.Errorf("the tour %s has become %q", k.text, text)
		}
	}
}
