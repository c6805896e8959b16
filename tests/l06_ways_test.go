package tests

import (
	"math"
	"math/bits"
	"slices"
	"strconv"
	"strings"
	"sync"
	"testing"

	"loop.example/g03205/impl"
)

// arrangementsOf returns all lists of different numbers from 0 up to n, the shorter ones first, and those of one length in lexicographic order.
func arrangementsOf(n int) [][]int {
	lists := [][]int{{}}
	for at := 0; at < len(lists); at++ {
		for next := range n {
			if !slices.Contains(lists[at], next) {
				lists = append(lists, append(slices.Clone(lists[at]), next))
			}
		}
	}
	return lists
}

func isWayIn(k known, list []int) bool {
	for i, a := range list {
		if a < 0 || a >= k.tour.Size || slices.Contains(list[:i], a) || i > 0 && !k.beats[list[i-1]][a] {
			return false
		}
	}
	return true
}

func isCycleIn(k known, list []int) bool {
	return len(list) >= 3 && isWayIn(k, list) && k.beats[list[len(list)-1]][list[0]]
}

// wayTour is a tour together with all its ways, in the order of arrangementsOf.
type wayTour struct {
	known
	ways [][]int
}

// wayTours returns all tours of up to 5 players, some of 6, 7 and 8, and some of several strong parts.
var wayTours = sync.OnceValue(func() []wayTour {
	list := []wayTour{}
	built := builtTours()
	for n := 1; n <= 8; n++ {
		arrangements := arrangementsOf(n)
		tours := knownTours(n, []int{0, 1, 2, 8, 64, 1024, 512, 96, 32}[n])
		for i, k := range built {
			if k.tour.Size == n && (n <= 5 || i%7 == 0) {
				tours = append(tours, k.known)
			}
		}
		for _, k := range tours {
			ways := [][]int{}
			for _, arrangement := range arrangements {
				if isWayIn(k, arrangement) {
					ways = append(ways, arrangement)
				}
			}
			list = append(list, wayTour{k, ways})
		}
	}
	return list
})

// fullWays returns the ways through all players, in lexicographic order.
func (w wayTour) fullWays() [][]int {
	list := [][]int{}
	for _, way := range w.ways {
		if len(way) == w.tour.Size {
			list = append(list, way)
		}
	}
	return list
}

// countIf returns how many of the lists are as isWanted says.
func countIf(lists [][]int, isWanted func(list []int) bool) int {
	count := 0
	for _, list := range lists {
		if isWanted(list) {
			count++
		}
	}
	return count
}

// firstIf returns the first one of the lists that is as isWanted says, and nil if there is none.
func firstIf(lists [][]int, isWanted func(list []int) bool) []int {
	if at := slices.IndexFunc(lists, isWanted); at >= 0 {
		return lists[at]
	}
	return nil
}

// insertedWayIn puts each player after those before the first one whom they beat.
func insertedWayIn(k known) []int {
	way := []int{}
	for a := range k.tour.Size {
		longer := []int{}
		for len(way) > 0 && k.beats[way[0]][a] {
			longer = append(longer, way[0])
			way = way[1:]
		}
		way = append(append(longer, a), way...)
	}
	return way
}

// countWaysIn returns, for each player, the number of ways through all players that begin with them, by the numbers for each set of players; and the number of cycles through all that begin with player 0.
func countWaysIn(k known) ([]int, int) {
	n := k.tour.Size
	// numbers[set][a][b] is the number of ways through a set that begin with a and end with b.
	numbers := make([][8][8]int, 1<<n)
	for a := range n {
		numbers[1<<a][a][a] = 1
	}
	for set := range numbers {
		for a := range n {
			for b := range n {
				for next := range n {
					if set>>next%2 == 0 && k.beats[b][next] {
						numbers[set+1<<next][a][next] += numbers[set][a][b]
					}
				}
			}
		}
	}
	all := numbers[len(numbers)-1]
	from := make([]int, n)
	cycles := 0
	for a := range n {
		for b := range n {
			from[a] += all[a][b]
		}
		if n >= 3 && k.beats[a][0] {
			cycles += all[0][a]
		}
	}
	return from, cycles
}

func sumOf(list []int) int {
	sum := 0
	for _, number := range list {
		sum += number
	}
	return sum
}

// writtenWays are tours with their FullWay, their FirstFullWay, the numbers of ways through all players that begin with each one, and the number of cycles through all players.
var writtenWays = []struct {
	text   string
	full   []int
	first  []int
	from   []int
	cycles int
}{
	{"1:", []int{0}, []int{0}, []int{1}, 0},
	{"2:1", []int{0, 1}, []int{0, 1}, []int{1, 0}, 0},
	{"2:0", []int{1, 0}, []int{1, 0}, []int{0, 1}, 0},
	{"3:111", []int{0, 1, 2}, []int{0, 1, 2}, []int{1, 0, 0}, 0},
	{"3:000", []int{2, 1, 0}, []int{2, 1, 0}, []int{0, 0, 1}, 0},
	{"3:100", []int{2, 0, 1}, []int{2, 0, 1}, []int{0, 0, 1}, 0},
	// 2 beats 0 and so is put before them, and not at the end.
	{"3:101", []int{2, 0, 1}, []int{0, 1, 2}, []int{1, 1, 1}, 1},
	{"3:010", []int{2, 1, 0}, []int{0, 2, 1}, []int{1, 1, 1}, 1},
	{"4:111111", []int{0, 1, 2, 3}, []int{0, 1, 2, 3}, []int{1, 0, 0, 0}, 0},
	{"4:000000", []int{3, 2, 1, 0}, []int{3, 2, 1, 0}, []int{0, 0, 0, 1}, 0},
	{"4:110111", []int{3, 0, 1, 2}, []int{0, 1, 2, 3}, []int{1, 2, 1, 1}, 1},
	{"4:111101", []int{0, 3, 1, 2}, []int{0, 1, 2, 3}, []int{3, 0, 0, 0}, 0},
	{"4:011011", []int{2, 1, 0, 3}, []int{0, 2, 1, 3}, []int{1, 1, 1, 0}, 0},
	{"4:001000", []int{3, 2, 1, 0}, []int{0, 3, 2, 1}, []int{1, 1, 2, 1}, 1},
	// 4 beats 1 and is beaten by 0, 2 and 3.
	{"5:1101110111", []int{3, 0, 4, 1, 2}, []int{0, 1, 2, 3, 4}, []int{4, 2, 2, 3, 2}, 2},
	{"5:1100110111", []int{3, 4, 0, 1, 2}, []int{0, 1, 2, 3, 4}, []int{3, 3, 3, 3, 3}, 2},
	{"5:1111101111", []int{0, 3, 1, 2, 4}, []int{0, 1, 2, 3, 4}, []int{3, 0, 0, 0, 0}, 0},
	{"5:1101111111", []int{3, 0, 1, 2, 4}, []int{0, 1, 2, 3, 4}, []int{1, 2, 1, 1, 0}, 0},
	{"5:0110001001", []int{3, 4, 2, 1, 0}, []int{0, 3, 1, 4, 2}, []int{3, 2, 2, 4, 2}, 2},
	{"6:101111111111101", []int{2, 0, 1, 5, 3, 4}, []int{0, 1, 2, 3, 4, 5}, []int{3, 3, 3, 0, 0, 0}, 0},
	{"6:111101111111111", []int{5, 0, 1, 2, 3, 4}, []int{0, 1, 2, 3, 4, 5}, []int{1, 8, 4, 2, 1, 1}, 1},
	{"7:111111111111111111111", []int{0, 1, 2, 3, 4, 5, 6}, []int{0, 1, 2, 3, 4, 5, 6}, []int{1, 0, 0, 0, 0, 0, 0}, 0},
	{"7:000000000000000000000", []int{6, 5, 4, 3, 2, 1, 0}, []int{6, 5, 4, 3, 2, 1, 0}, []int{0, 0, 0, 0, 0, 0, 1}, 0},
	// No tour of 7 players has more ways.
	{"7:110100110101101110111", []int{6, 3, 5, 0, 4, 1, 2}, []int{0, 1, 2, 3, 4, 5, 6}, []int{27, 27, 27, 27, 27, 27, 27}, 24},
	{"7:011111011111111101111", []int{2, 1, 0, 5, 3, 4, 6}, []int{0, 2, 1, 3, 4, 5, 6}, []int{3, 3, 3, 0, 0, 0, 0}, 0},
	{"7:010101111010100111011", []int{5, 1, 3, 0, 6, 2, 4}, []int{1, 3, 5, 0, 2, 4, 6}, []int{0, 3, 0, 3, 0, 3, 0}, 0},
	{"7:111110111111111111111", []int{6, 0, 1, 2, 3, 4, 5}, []int{0, 1, 2, 3, 4, 5, 6}, []int{1, 16, 8, 4, 2, 1, 1}, 1},
	{"8:1111111111111111111111111111", []int{0, 1, 2, 3, 4, 5, 6, 7}, []int{0, 1, 2, 3, 4, 5, 6, 7}, []int{1, 0, 0, 0, 0, 0, 0, 0}, 0},
	{"8:0000000000000000000000000000", []int{7, 6, 5, 4, 3, 2, 1, 0}, []int{7, 6, 5, 4, 3, 2, 1, 0}, []int{0, 0, 0, 0, 0, 0, 0, 1}, 0},
	// All beat those after them, but the last one beats the first one.
	{"8:1111110111111111111111111111", []int{7, 0, 1, 2, 3, 4, 5, 6}, []int{0, 1, 2, 3, 4, 5, 6, 7}, []int{1, 32, 16, 8, 4, 2, 1, 1}, 1},
	{"8:1011111111111111110111011111", []int{2, 0, 1, 5, 4, 3, 6, 7}, []int{0, 1, 2, 3, 5, 4, 6, 7}, []int{3, 3, 3, 0, 0, 0, 0, 0}, 0},
	{"8:1011111111111101111111111101", []int{4, 2, 0, 1, 3, 7, 5, 6}, []int{0, 1, 2, 3, 4, 5, 6, 7}, []int{9, 9, 3, 3, 3, 0, 0, 0}, 0},
	{"8:1010111101010100010000110011", []int{7, 4, 6, 5, 2, 0, 3, 1}, []int{0, 1, 2, 7, 4, 6, 5, 3}, []int{64, 19, 37, 19, 50, 53, 51, 38}, 19},
	{"8:1111000111100111101111111111", []int{5, 6, 7, 0, 1, 2, 3, 4}, []int{0, 1, 2, 3, 4, 5, 6, 7}, []int{77, 87, 99, 100, 75, 67, 63, 61}, 49},
}

func TestWrittenFullWays(t *testing.T) {
	for _, w := range writtenWays {
		tour := mustParse(t, w.text)
		if got := impl.FullWay(tour); !slices.Equal(got, w.full) {
			t.Errorf("FullWay(%s) = %v, want %v", w.text, got, w.full)
		}
		if got := impl.FirstFullWay(tour); !slices.Equal(got, w.first) {
			t.Errorf("FirstFullWay(%s) = %v, want %v", w.text, got, w.first)
		}
		for a, want := range w.from {
			if got := impl.CountWaysFrom(tour, a); got != want {
				t.Errorf("CountWaysFrom(%s, %d) = %d, want %d", w.text, a, got, want)
			}
		}
		if got, want := impl.CountFullWays(tour), sumOf(w.from); got != want {
			t.Errorf("CountFullWays(%s) = %d, want %d", w.text, got, want)
		}
		if got := impl.CountFullCycles(tour); got != w.cycles {
			t.Errorf("CountFullCycles(%s) = %d, want %d", w.text, got, w.cycles)
		}
		for _, way := range [][]int{w.full, w.first} {
			if !impl.IsWay(tour, way) {
				t.Errorf("IsWay(%s, %v) = false, want true", w.text, way)
			}
		}
	}
}

func TestWrittenCycles(t *testing.T) {
	cases := []struct {
		text string
		a, k int
		want []int
	}{
		{"1:", 0, 1, nil},
		{"2:1", 0, 2, nil},
		{"2:1", 0, 1, nil},
		{"2:0", 0, 3, nil},
		{"3:101", 0, 3, []int{0, 1, 2}},
		{"3:101", 1, 3, []int{1, 2, 0}},
		{"3:101", 2, 3, []int{2, 0, 1}},
		{"3:010", 0, 3, []int{0, 2, 1}},
		{"3:101", 0, 0, nil},
		{"3:101", 0, 1, nil},
		{"3:101", 0, 2, nil},
		{"3:101", 0, 4, nil},
		{"3:111", 0, 3, nil},
		// 0, 1, 2 is a way of three players, but 2 does not beat 0.
		{"4:110111", 0, 3, []int{0, 1, 3}},
		{"4:110111", 1, 3, []int{1, 3, 0}},
		{"4:110111", 2, 3, []int{2, 3, 0}},
		{"4:110111", 3, 3, []int{3, 0, 1}},
		{"4:110111", 0, 4, []int{0, 1, 2, 3}},
		{"4:110111", 3, 4, []int{3, 0, 1, 2}},
		{"4:110111", 0, 5, nil},
		{"4:111101", 0, 3, nil},
		{"4:111101", 1, 3, []int{1, 2, 3}},
		{"4:111101", 1, 4, nil},
		{"5:1100110111", 0, 4, []int{0, 1, 2, 3}},
		{"5:1100110111", 4, 5, []int{4, 0, 1, 2, 3}},
		// 0, 3, 1, 4, 2 is the first way through all players, but 2 does not beat 0.
		{"5:0110001001", 0, 5, []int{0, 3, 2, 1, 4}},
		{"7:110100110101101110111", 0, 3, []int{0, 1, 3}},
		{"7:010101111010100111011", 2, 3, []int{2, 4, 6}},
		{"7:010101111010100111011", 0, 3, nil},
		{"8:1111110111111111111111111111", 0, 3, []int{0, 1, 7}},
		{"8:1111110111111111111111111111", 4, 3, []int{4, 7, 0}},
		{"8:1111110111111111111111111111", 7, 8, []int{7, 0, 1, 2, 3, 4, 5, 6}},
		{"8:1111110111111111111111111111", 3, 8, []int{3, 4, 5, 6, 7, 0, 1, 2}},
		{"8:1111111111111111111111111010", 5, 3, []int{5, 7, 6}},
		{"8:1111111111111111111111111010", 5, 8, nil},
	}
	for _, c := range cases {
		checkCycle(t, known{text: c.text, tour: mustParse(t, c.text)}, c.a, c.k, c.want)
	}
}

func TestWrittenWaysBetween(t *testing.T) {
	cases := []struct {
		text string
		a, b int
		want []int
	}{
		{"1:", 0, 0, []int{0}},
		{"2:1", 0, 0, []int{0}},
		{"2:1", 1, 1, []int{1}},
		{"2:1", 0, 1, []int{0, 1}},
		{"2:1", 1, 0, nil},
		{"3:101", 1, 0, []int{1, 2, 0}},
		{"3:111", 0, 2, []int{0, 2}},
		{"3:111", 2, 0, nil},
		// 0, 1, 2 comes before in lexicographic order, but is longer.
		{"4:110111", 0, 2, []int{0, 2}},
		// 0, 1, 2, 3 comes before, but is longer; 0, 2, 3 is as short.
		{"4:110111", 0, 3, []int{0, 1, 3}},
		{"4:110111", 2, 1, []int{2, 3, 0, 1}},
		{"4:110111", 3, 3, []int{3}},
		{"4:111101", 0, 3, []int{0, 3}},
		{"4:111101", 1, 3, []int{1, 2, 3}},
		{"4:111101", 3, 0, nil},
		{"7:110100110101101110111", 0, 3, []int{0, 1, 3}},
		{"7:110100110101101110111", 0, 6, []int{0, 2, 6}},
		{"7:010101111010100111011", 5, 3, []int{5, 1, 3}},
		{"7:010101111010100111011", 4, 1, nil},
		{"8:1111111111111111111111111111", 0, 7, []int{0, 7}},
		{"8:0000000000000000000000000000", 0, 7, nil},
		{"8:1111110111111111111111111111", 6, 1, []int{6, 7, 0, 1}},
		{"8:1111110111111111111111111111", 0, 7, []int{0, 1, 7}},
		// All beat those before them, but each one is beaten by the one before.
		{"8:1000000100000100001000100101", 0, 7, []int{0, 1, 2, 3, 4, 5, 6, 7}},
		{"8:1000000100000100001000100101", 1, 6, []int{1, 2, 3, 4, 5, 6}},
	}
	for _, c := range cases {
		checkBetween(t, known{text: c.text, tour: mustParse(t, c.text)}, c.a, c.b, c.want)
	}
}

// checkWayAndCycle compares IsWay and IsCycle with what is wanted.
func checkWayAndCycle(t *testing.T, k known, list []int, isWay bool, isCycle bool) {
	t.Helper()
	if got := impl.IsWay(k.tour, list); got != isWay {
		t.Errorf("IsWay(%s, %v) = %v, want %v", k.text, list, got, isWay)
	}
	if got := impl.IsCycle(k.tour, list); got != isCycle {
		t.Errorf("IsCycle(%s, %v) = %v, want %v", k.text, list, got, isCycle)
	}
}

// checkCycle compares CycleThrough with the cycle that is wanted, or with none if it is nil.
func checkCycle(t *testing.T, k known, a int, players int, want []int) {
	t.Helper()
	if got, ok := impl.CycleThrough(k.tour, a, players); ok != (want != nil) || !slices.Equal(got, want) {
		t.Errorf("CycleThrough(%s, %d, %d) = %v, %v, want %v", k.text, a, players, got, ok, want)
	}
}

// checkBetween compares WayBetween with the way that is wanted, or with none if it is nil.
func checkBetween(t *testing.T, k known, a int, b int, want []int) {
	t.Helper()
	if got, ok := impl.WayBetween(k.tour, a, b); ok != (want != nil) || !slices.Equal(got, want) {
		t.Errorf("WayBetween(%s, %d, %d) = %v, %v, want %v", k.text, a, b, got, ok, want)
	}
}

func TestIsWayOfAllLists(t *testing.T) {
	for n := 1; n <= 4; n++ {
		for _, k := range knownTours(n, 64) {
			for length := range n + 2 {
				listsOf(length, numbersTo(-1, n), func(list []int) {
					checkWayAndCycle(t, k, list, isWayIn(k, list), isCycleIn(k, list))
				})
			}
		}
	}
}

func TestIsWayOfDifferentPlayers(t *testing.T) {
	for n := 5; n <= 8; n++ {
		arrangements := arrangementsOf(n)
		for _, k := range knownTours(n, []int{64, 24, 8, 3}[n-5]) {
			for _, list := range arrangements {
				checkWayAndCycle(t, k, list, isWayIn(k, list), isCycleIn(k, list))
			}
		}
	}
}

func TestShortWays(t *testing.T) {
	for _, k := range someKnownTours() {
		checkWayAndCycle(t, k, nil, true, false)
		checkWayAndCycle(t, k, []int{}, true, false)
		for a := range k.tour.Size {
			checkWayAndCycle(t, k, []int{a}, true, false)
			for b := range k.tour.Size {
				checkWayAndCycle(t, k, []int{a, b}, k.beats[a][b], false)
			}
		}
	}
}

// TestWaysAndCyclesOfAllWays also turns each cycle round so that it begins with another player.
func TestWaysAndCyclesOfAllWays(t *testing.T) {
	for _, w := range wayTours() {
		for _, way := range w.ways {
			isCycle := isCycleIn(w.known, way)
			checkWayAndCycle(t, w.known, way, true, isCycle)
			if isCycle {
				checkWayAndCycle(t, w.known, append(slices.Clone(way[1:]), way[0]), true, true)
				// The first player at the end once more, as a cycle is often written, is no way.
				checkWayAndCycle(t, w.known, append(slices.Clone(way), way[0]), false, false)
			}
		}
	}
}

// TestListsNearAWay changes real ways and cycles: a player twice, other numbers than players, and lists that are too long.
func TestListsNearAWay(t *testing.T) {
	for _, w := range writtenWays {
		k := known{text: w.text, tour: mustParse(t, w.text)}
		for _, way := range [][]int{w.full, w.first} {
			turned := slices.Clone(way)
			slices.Reverse(turned)
			lists := [][]int{
				append(slices.Clone(way), 0), append(slices.Clone(way), way...), append([]int{0}, way...),
				append(slices.Clone(way), make([]int, 1000)...), append([]int{-1}, way...), append(slices.Clone(way), k.tour.Size),
			}
			if len(way) > 1 {
				lists = append(lists, turned)
			}
			for at, a := range way {
				lists = append(lists, slices.Insert(slices.Clone(way), at, a))
				for _, odd := range append([]int{k.tour.Size}, oddInts...) {
					lists = append(lists, slices.Replace(slices.Clone(way), at, at+1, odd), slices.Insert(slices.Clone(way), at, odd), []int{odd})
				}
				for _, power := range []int{8, 32, 64, 256, 1 << 32, math.MinInt} {
					lists = append(lists, slices.Replace(slices.Clone(way), at, at+1, a+power))
				}
			}
			for _, list := range lists {
				checkWayAndCycle(t, k, list, false, false)
			}
		}
	}
}

func TestFullWay(t *testing.T) {
	for _, k := range allKnownTours() {
		got := impl.FullWay(k.tour)
		if want := insertedWayIn(k); !slices.Equal(got, want) {
			t.Errorf("FullWay(%s) = %v, want %v", k.text, got, want)
		}
		if len(got) != k.tour.Size || !isWayIn(k, got) {
			t.Errorf("FullWay(%s) = %v, which is no way through all players", k.text, got)
		}
	}
	for _, k := range builtTours() {
		if got, want := impl.FullWay(k.tour), insertedWayIn(k.known); !slices.Equal(got, want) {
			t.Errorf("FullWay(%s) = %v, want %v", k.text, got, want)
		}
	}
}

func TestFullWays(t *testing.T) {
	for _, w := range wayTours() {
		full := w.fullWays()
		if got := impl.CountFullWays(w.tour); got != len(full) {
			t.Errorf("CountFullWays(%s) = %d, want %d", w.text, got, len(full))
		}
		if got := impl.FirstFullWay(w.tour); !slices.Equal(got, full[0]) {
			t.Errorf("FirstFullWay(%s) = %v, want %v", w.text, got, full[0])
		}
		for a := range w.tour.Size {
			want := countIf(full, func(way []int) bool { return way[0] == a })
			if got := impl.CountWaysFrom(w.tour, a); got != want {
				t.Errorf("CountWaysFrom(%s, %d) = %d, want %d", w.text, a, got, want)
			}
		}
		want := countIf(full, func(way []int) bool { return way[0] == 0 && isCycleIn(w.known, way) })
		if got := impl.CountFullCycles(w.tour); got != want {
			t.Errorf("CountFullCycles(%s) = %d, want %d", w.text, got, want)
		}
	}
}

// TestNumbersOfWays counts by sets of players, in many more tours, and checks that the number of ways through all players is odd.
func TestNumbersOfWays(t *testing.T) {
	tours := allKnownTours()
	for _, k := range builtTours() {
		tours = append(tours, k.known)
	}
	for _, k := range tours {
		from, cycles := countWaysIn(k)
		for a, want := range from {
			if got := impl.CountWaysFrom(k.tour, a); got != want {
				t.Errorf("CountWaysFrom(%s, %d) = %d, want %d", k.text, a, got, want)
			}
		}
		if got := impl.CountFullWays(k.tour); got != sumOf(from) || got%2 != 1 {
			t.Errorf("CountFullWays(%s) = %d, want %d, which is odd", k.text, got, sumOf(from))
		}
		if got := impl.CountFullCycles(k.tour); got != cycles {
			t.Errorf("CountFullCycles(%s) = %d, want %d", k.text, got, cycles)
		}
		first := impl.FirstFullWay(k.tour)
		if len(first) != k.tour.Size || !isWayIn(k, first) || from[first[0]] == 0 || slices.Max(append([]int{0}, from[:first[0]]...)) > 0 {
			t.Errorf("FirstFullWay(%s) = %v, but the numbers of ways are %v", k.text, first, from)
		}
	}
}

// TestAllToursTogether compares the sums over all tours of n players: each order is a way in every tour with these n - 1 results.
func TestAllToursTogether(t *testing.T) {
	greatest := []int{0, 1, 1, 3, 5, 15, 45}
	orders := 1
	for n := 1; n <= 6; n++ {
		orders *= n
		pairs := n * (n - 1) / 2
		ways, cycles, most := 0, 0, 0
		for code := range 1 << pairs {
			tour := knownTour(n, code).tour
			count := impl.CountFullWays(tour)
			ways += count
			most = max(most, count)
			cycles += impl.CountFullCycles(tour)
		}
		if want := orders << (pairs - n + 1); ways != want {
			t.Errorf("CountFullWays of all tours of %d players = %d, want %d", n, ways, want)
		}
		if most != greatest[n] {
			t.Errorf("the greatest CountFullWays of tours of %d players = %d, want %d", n, most, greatest[n])
		}
		want := 0
		if n >= 3 {
			want = orders / n << (pairs - n)
		}
		if cycles != want {
			t.Errorf("CountFullCycles of all tours of %d players = %d, want %d", n, cycles, want)
		}
	}
}

func TestCycleThrough(t *testing.T) {
	for _, w := range wayTours() {
		for a := range w.tour.Size {
			for players := -1; players <= 9; players++ {
				checkCycle(t, w.known, a, players, firstIf(w.ways, func(way []int) bool {
					return len(way) == players && isCycleIn(w.known, way) && way[0] == a
				}))
			}
		}
	}
}

// TestCyclesInStrongParts expects cycles of each length from 3 to the number of players of a strong part through each of them, and no others.
func TestCyclesInStrongParts(t *testing.T) {
	tours := allKnownTours()
	for _, k := range builtTours() {
		tours = append(tours, k.known)
	}
	for _, k := range tours {
		parts := impl.StrongParts(k.tour)
		for a := range k.tour.Size {
			most := bits.OnesCount(uint(parts[impl.PartOf(k.tour, a)]))
			for players := -1; players <= 9; players++ {
				want := players >= 3 && players <= most
				got, ok := impl.CycleThrough(k.tour, a, players)
				if ok != want || !ok && len(got) != 0 || ok && (len(got) != players || got[0] != a || !isCycleIn(k, got)) {
					t.Errorf("CycleThrough(%s, %d, %d) = %v, %v, and the strong part of %d has %d players", k.text, a, players, got, ok, a, most)
				}
			}
		}
		want := k.tour.Size >= 3 && impl.IsStrong(k.tour)
		if got := impl.CountFullCycles(k.tour); got > 0 != want {
			t.Errorf("CountFullCycles(%s) = %d, and the strong parts are %v", k.text, got, parts)
		}
	}
}

func TestCyclesOfThreeAreTriangles(t *testing.T) {
	for _, k := range allKnownTours() {
		for a := range k.tour.Size {
			_, ok := impl.CycleThrough(k.tour, a, 3)
			if want := impl.TrianglesAt(k.tour, a) > 0; ok != want {
				t.Errorf("CycleThrough(%s, %d, 3) finds a cycle: %v, want %v", k.text, a, ok, want)
			}
		}
		for _, triangle := range impl.TrianglesOf(k.tour) {
			if !impl.IsCycle(k.tour, triangle) {
				t.Errorf("IsCycle(%s, %v) = false, want true", k.text, triangle)
			}
		}
	}
}

func TestTransitiveToursHaveNoCycles(t *testing.T) {
	for n := 1; n <= 8; n++ {
		for _, order := range someOrdersOf(n) {
			k := buildTour(slices.Repeat([]int{1}, n), order).known
			for label, way := range map[string][]int{"FullWay": impl.FullWay(k.tour), "FirstFullWay": impl.FirstFullWay(k.tour)} {
				if !slices.Equal(way, order) {
					t.Errorf("%s(%s) = %v, want %v", label, k.text, way, order)
				}
			}
			if ways, cycles := impl.CountFullWays(k.tour), impl.CountFullCycles(k.tour); ways != 1 || cycles != 0 {
				t.Errorf("CountFullWays(%s) = %d, CountFullCycles = %d, want 1 and 0", k.text, ways, cycles)
			}
			for i, a := range order {
				for players := -1; players <= 9; players++ {
					checkCycle(t, k, a, players, nil)
				}
				for j, b := range order {
					var want []int
					if i == j {
						want = []int{a}
					} else if i < j {
						want = []int{a, b}
					}
					checkBetween(t, k, a, b, want)
				}
			}
		}
	}
}

func TestWayBetween(t *testing.T) {
	for _, w := range wayTours() {
		for a := range w.tour.Size {
			for b := range w.tour.Size {
				checkBetween(t, w.known, a, b, firstIf(w.ways, func(way []int) bool {
					return len(way) > 0 && way[0] == a && way[len(way)-1] == b
				}))
			}
		}
	}
}

// stepsIn returns the least number of games in a row that lead from one player to each other one, and -1 where none do.
func stepsIn(k known, a int) []int {
	steps := slices.Repeat([]int{-1}, k.tour.Size)
	steps[a] = 0
	for found := []int{a}; len(found) > 0; found = found[1:] {
		for b := range steps {
			if k.beats[found[0]][b] && steps[b] < 0 {
				steps[b] = steps[found[0]] + 1
				found = append(found, b)
			}
		}
	}
	return steps
}

func TestWaysBetweenAreShortest(t *testing.T) {
	tours := allKnownTours()
	for _, k := range builtTours() {
		tours = append(tours, k.known)
	}
	for _, k := range tours {
		for a := range k.tour.Size {
			reach := impl.ReachOf(k.tour, a)
			for b, steps := range stepsIn(k, a) {
				got, ok := impl.WayBetween(k.tour, a, b)
				if ok != (steps >= 0) || len(got) != steps+1 || ok != (reach>>b%2 == 1) {
					t.Errorf("WayBetween(%s, %d, %d) = %v, %v, want %d steps", k.text, a, b, got, ok, steps)
				}
				if ok && (!isWayIn(k, got) || got[0] != a || got[len(got)-1] != b) {
					t.Errorf("WayBetween(%s, %d, %d) = %v, which is no way there", k.text, a, b, got)
				}
			}
		}
	}
}

// TestWaysOfTurnedTours expects the same ways the other way round.
func TestWaysOfTurnedTours(t *testing.T) {
	for _, k := range allKnownTours() {
		turned, _ := impl.TurnTour(k.tour)
		if got, want := impl.CountFullWays(turned), impl.CountFullWays(k.tour); got != want {
			t.Errorf("CountFullWays(TurnTour(%s)) = %d, want %d", k.text, got, want)
		}
		if got, want := impl.CountFullCycles(turned), impl.CountFullCycles(k.tour); got != want {
			t.Errorf("CountFullCycles(TurnTour(%s)) = %d, want %d", k.text, got, want)
		}
		way := impl.FullWay(k.tour)
		isCycle := impl.IsCycle(k.tour, way)
		slices.Reverse(way)
		checkWayAndCycle(t, known{text: "turned " + k.text, tour: turned}, way, true, isCycle)
	}
}

func TestWaysForOtherNames(t *testing.T) {
	for _, k := range someKnownTours() {
		for _, names := range someOrdersOf(k.tour.Size) {
			renamed, _ := impl.RenameTour(k.tour, names)
			if got, want := impl.CountFullCycles(renamed), impl.CountFullCycles(k.tour); got != want {
				t.Errorf("CountFullCycles(%s), renamed by %v, = %d, want %d", k.text, names, got, want)
			}
			for a, name := range names {
				if got, want := impl.CountWaysFrom(renamed, name), impl.CountWaysFrom(k.tour, a); got != want {
					t.Errorf("CountWaysFrom(%s) of %d = %d, but %d for the name %d", k.text, a, want, got, name)
				}
				for b, other := range names {
					got, _ := impl.WayBetween(renamed, name, other)
					if want, _ := impl.WayBetween(k.tour, a, b); len(got) != len(want) {
						t.Errorf("WayBetween(%s), renamed by %v, of %d and %d = %v, want %d players", k.text, names, name, other, got, len(want))
					}
				}
			}
		}
	}
}

func TestWaysOfNoPlayers(t *testing.T) {
	tours := someKnownTours()
	for _, w := range writtenWays {
		tours = append(tours, known{text: w.text, tour: mustParse(t, w.text)})
	}
	for _, k := range tours {
		for _, odd := range append([]int{k.tour.Size, k.tour.Size + 1, 1 << 32, math.MaxInt - 1}, oddInts...) {
			if got := impl.CountWaysFrom(k.tour, odd); got != -1 {
				t.Errorf("CountWaysFrom(%s, %d) = %d, want -1", k.text, odd, got)
			}
			for players := -1; players <= 9; players++ {
				checkCycle(t, k, odd, players, nil)
			}
			for a := range k.tour.Size {
				checkBetween(t, k, a, odd, nil)
				checkBetween(t, k, odd, a, nil)
			}
			checkBetween(t, k, odd, odd, nil)
			checkCycle(t, k, odd, odd, nil)
		}
	}
}

func TestCyclesOfOddNumbersOfPlayers(t *testing.T) {
	for _, k := range someKnownTours() {
		for a := range k.tour.Size {
			for _, players := range append([]int{0, 1, 2, k.tour.Size + 1, k.tour.Size + 64, k.tour.Size + 1<<32, k.tour.Size + math.MinInt, -k.tour.Size, -3, 3 - 1<<32}, oddInts...) {
				if players < 3 || players > k.tour.Size {
					checkCycle(t, k, a, players, nil)
				}
			}
		}
	}
}

func TestWaysOfBrokenTours(t *testing.T) {
	tours := brokenTours()
	for _, w := range writtenWays {
		tours = append(tours, spoiled(mustParse(t, w.text))...)
	}
	for _, broken := range tours {
		k := known{text: "a broken tour", tour: broken}
		for _, list := range [][]int{nil, {}, {0}, {1}, {-1}, {0, 1}, {1, 0}, {0, 1, 2}, {0, 2, 1}, {2, 0, 1}, {0, 1, 2, 3, 4, 5, 6, 7}, {7, 6, 5, 4, 3, 2, 1, 0}, {8, 9, 10}} {
			checkWayAndCycle(t, k, list, false, false)
		}
		if got := impl.FullWay(broken); len(got) != 0 {
			t.Errorf("FullWay(%v) = %v, want nil", broken, got)
		}
		if got := impl.FirstFullWay(broken); len(got) != 0 {
			t.Errorf("FirstFullWay(%v) = %v, want nil", broken, got)
		}
		if ways, cycles := impl.CountFullWays(broken), impl.CountFullCycles(broken); ways != -1 || cycles != -1 {
			t.Errorf("CountFullWays(%v) = %d, CountFullCycles = %d, want -1", broken, ways, cycles)
		}
		for a := -1; a <= 9; a++ {
			if got := impl.CountWaysFrom(broken, a); got != -1 {
				t.Errorf("CountWaysFrom(%v, %d) = %d, want -1", broken, a, got)
			}
			for _, b := range []int{-1, 0, 1, 7, 8, a} {
				checkBetween(t, k, a, b, nil)
			}
			for _, players := range []int{math.MinInt, 0, 1, 2, 3, 4, 8, 9, math.MaxInt} {
				checkCycle(t, k, a, players, nil)
			}
		}
	}
}

func TestWaysLeaveArgumentsAsTheyAre(t *testing.T) {
	for _, w := range writtenWays {
		parsed := mustParse(t, w.text)
		winsMemory := append(parsed.Wins, 91, 92, 93)
		tour := impl.Tour{Size: parsed.Size, Wins: winsMemory[:parsed.Size]}
		for _, list := range [][]int{{}, w.full, w.first, w.first[1:], {0, 0}, {2, 1, 0}, {-1, 8}} {
			listMemory := append(slices.Clone(list), 3, -92, 1)
			argument := listMemory[:len(list)]
			checkMemory(t, "IsWay of "+w.text, func() ([]int, string) {
				return nil, strconv.FormatBool(impl.IsWay(tour, argument))
			}, winsMemory, listMemory)
			checkMemory(t, "IsCycle of "+w.text, func() ([]int, string) {
				return nil, strconv.FormatBool(impl.IsCycle(tour, argument))
			}, winsMemory, listMemory)
		}
		checkMemory(t, "FullWay of "+w.text, func() ([]int, string) { return impl.FullWay(tour), "" }, winsMemory)
		checkMemory(t, "FirstFullWay of "+w.text, func() ([]int, string) { return impl.FirstFullWay(tour), "" }, winsMemory)
		for a := range tour.Size {
			for b := range tour.Size {
				checkMemory(t, "WayBetween of "+w.text, func() ([]int, string) {
					way, _ := impl.WayBetween(tour, a, b)
					return way, ""
				}, winsMemory)
			}
			for players := range 9 {
				checkMemory(t, "CycleThrough of "+w.text, func() ([]int, string) {
					cycle, _ := impl.CycleThrough(tour, a, players)
					return cycle, ""
				}, winsMemory)
			}
		}
		checkMemory(t, "the numbers of ways of "+w.text, func() ([]int, string) {
			numbers := []string{impl.FormatInt(impl.CountFullWays(tour)), impl.FormatInt(impl.CountFullCycles(tour))}
			for a := range tour.Size {
				numbers = append(numbers, impl.FormatInt(impl.CountWaysFrom(tour, a)))
			}
			return nil, strings.Join(numbers, " ")
		}, winsMemory)
	}
}
