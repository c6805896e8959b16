package tests

import (
	"math"
	"slices"
	"strings"
	"testing"

	"loop.example/g03205/impl"
)

// knownScores counts the wins of each player.
func knownScores(k known) []int {
	scores := make([]int, k.tour.Size)
	for a := range scores {
		for b := range scores {
			if k.beats[a][b] {
				scores[a]++
			}
		}
	}
	return scores
}

// knownTriangles looks at each set of three players.
func knownTriangles(k known) int {
	triangles := 0
	for a := range k.tour.Size {
		for b := range a {
			for c := range b {
				if k.beats[a][b] == k.beats[b][c] && k.beats[b][c] == k.beats[c][a] {
					triangles++
				}
			}
		}
	}
	return triangles
}

// listsOf calls visit with each list of n of the numbers; the memory of the list is used again.
func listsOf(n int, numbers []int, visit func(list []int)) {
	list := make([]int, n)
	var fill func(at int)
	fill = func(at int) {
		if at == n {
			visit(list)
			return
		}
		for _, number := range numbers {
			list[at] = number
			fill(at + 1)
		}
	}
	fill(0)
}

// risingLists calls visit with each list of n numbers from 0 up to n that does not fall.
func risingLists(n int, visit func(list []int)) {
	list := make([]int, n)
	var fill func(at int, least int)
	fill = func(at int, least int) {
		if at == n {
			visit(list)
			return
		}
		for number := least; number < n; number++ {
			list[at] = number
			fill(at+1, number)
		}
	}
	fill(0, 0)
}

// numbersTo returns the numbers from first to last.
func numbersTo(first int, last int) []int {
	list := []int{}
	for number := first; number <= last; number++ {
		list = append(list, number)
	}
	return list
}

// scoresSuffice reports whether the scores of each set of players suffice for the games among them, and are no more in all.
func scoresSuffice(list []int) bool {
	for set := 1; set < 1<<len(list); set++ {
		sum, players := 0, 0
		for a, score := range list {
			if set&(1<<a) != 0 {
				sum += score
				players++
			}
		}
		games := players * (players - 1) / 2
		if sum < games || players == len(list) && sum > games {
			return false
		}
	}
	return true
}

// sequenceLists returns, for each size from 1 to 8, the sequences of scores.
func sequenceLists() [9][][]int {
	lists := [9][][]int{}
	for n := 1; n <= 8; n++ {
		risingLists(n, func(list []int) {
			if scoresSuffice(list) {
				lists[n] = append(lists[n], slices.Clone(list))
			}
		})
	}
	return lists
}

// realized makes the tour with these scores by searching, in each step, the player with the least one.
func realized(list []int) impl.Tour {
	n := len(list)
	left := slices.Clone(list)
	isHere := slices.Repeat([]bool{true}, n)
	least := func(isFree []bool) int {
		found := -1
		for a := n - 1; a >= 0; a-- {
			if isFree[a] && (found < 0 || left[a] <= left[found]) {
				found = a
			}
		}
		return found
	}
	tour := impl.Tour{Size: n, Wins: make([]int, n)}
	for range n {
		a := least(isHere)
		isHere[a] = false
		isOpen := slices.Clone(isHere)
		for range left[a] {
			b := least(isOpen)
			isOpen[b] = false
			tour.Wins[a] += 1 << b
		}
		for b := range n {
			if isOpen[b] {
				tour.Wins[b] += 1 << a
				left[b]--
			}
		}
	}
	return tour
}

// writtenScores are tours whose sequences and numbers are written out by hand.
var writtenScores = []struct {
	text      string
	sequence  []int
	triangles int
	regular   bool
	squares   int
}{
	{"1:", []int{0}, 0, true, 0},
	{"2:1", []int{0, 1}, 0, true, 1},
	{"2:0", []int{0, 1}, 0, true, 1},
	{"3:101", []int{1, 1, 1}, 1, true, 3},
	{"3:010", []int{1, 1, 1}, 1, true, 3},
	{"3:111", []int{0, 1, 2}, 0, false, 5},
	{"3:100", []int{0, 1, 2}, 0, false, 5},
	{"4:110111", []int{1, 1, 2, 2}, 2, true, 10},
	{"4:111101", []int{1, 1, 1, 3}, 1, false, 12},
	{"4:111111", []int{0, 1, 2, 3}, 0, false, 14},
	{"5:1100110111", []int{2, 2, 2, 2, 2}, 5, true, 20},
	{"5:1101110111", []int{1, 2, 2, 2, 3}, 4, false, 22},
	{"7:110100110101101110111", []int{3, 3, 3, 3, 3, 3, 3}, 14, true, 63},
	{"7:111111111111111111111", []int{0, 1, 2, 3, 4, 5, 6}, 0, false, 91},
	{"8:1111000111100111101111111111", []int{3, 3, 3, 3, 4, 4, 4, 4}, 20, true, 100},
	{"8:0111000111100111101111111111", []int{3, 3, 3, 3, 3, 4, 4, 5}, 19, false, 102},
	{"8:1111111111111111111111111111", []int{0, 1, 2, 3, 4, 5, 6, 7}, 0, false, 140},
	{"8:0000000000000000000000000000", []int{0, 1, 2, 3, 4, 5, 6, 7}, 0, false, 140},
	{"8:1111110111111111111111111111", []int{1, 1, 2, 3, 4, 5, 6, 6}, 6, false, 128},
}

func TestWrittenSequences(t *testing.T) {
	for _, w := range writtenScores {
		tour, ok := impl.ParseTour(w.text)
		if !ok {
			t.Fatalf("ParseTour(%q) fails", w.text)
		}
		if got := impl.SequenceOf(tour); !slices.Equal(got, w.sequence) {
			t.Errorf("SequenceOf(%s) = %v, want %v", w.text, got, w.sequence)
		}
		if !impl.IsLandau(w.sequence) {
			t.Errorf("IsLandau(%v) = false, want true", w.sequence)
		}
		if got := impl.CountTriangles(tour); got != w.triangles {
			t.Errorf("CountTriangles(%s) = %d, want %d", w.text, got, w.triangles)
		}
		if got := impl.IsRegular(tour); got != w.regular {
			t.Errorf("IsRegular(%s) = %v, want %v", w.text, got, w.regular)
		}
		if got := impl.SumOfSquares(tour); got != w.squares {
			t.Errorf("SumOfSquares(%s) = %d, want %d", w.text, got, w.squares)
		}
	}
}

func TestNumbersOfScores(t *testing.T) {
	for _, k := range allKnownTours() {
		scores := knownScores(k)
		squares := 0
		for _, score := range scores {
			squares += score * score
		}
		if got := impl.SumOfSquares(k.tour); got != squares {
			t.Errorf("SumOfSquares(%s) = %d, want %d", k.text, got, squares)
		}
		if got, want := impl.CountTriangles(k.tour), knownTriangles(k); got != want {
			t.Errorf("CountTriangles(%s) = %d, want %d", k.text, got, want)
		}
		slices.Sort(scores)
		if got := impl.SequenceOf(k.tour); !slices.Equal(got, scores) {
			t.Errorf("SequenceOf(%s) = %v, want %v", k.text, got, scores)
		}
		want := scores[len(scores)-1]-scores[0] <= 1
		if got := impl.IsRegular(k.tour); got != want {
			t.Errorf("IsRegular(%s) = %v, want %v", k.text, got, want)
		}
	}
}

func TestScoresOfBrokenTours(t *testing.T) {
	for _, broken := range brokenTours() {
		if got := impl.SequenceOf(broken); len(got) != 0 {
			t.Errorf("SequenceOf(%v) = %v, want nil", broken, got)
		}
		if got := impl.CountTriangles(broken); got != -1 {
			t.Errorf("CountTriangles(%v) = %d, want -1", broken, got)
		}
		if impl.IsRegular(broken) {
			t.Errorf("IsRegular(%v) = true, want false", broken)
		}
		if got := impl.SumOfSquares(broken); got != -1 {
			t.Errorf("SumOfSquares(%v) = %d, want -1", broken, got)
		}
	}
}

// TestIsLandauOfTours compares the lists for which IsLandau is true with the sequences of all tours.
func TestIsLandauOfTours(t *testing.T) {
	for n := 1; n <= 6; n++ {
		isSequence := map[[6]int]bool{}
		for _, k := range knownTours(n, 1<<15) {
			scores := knownScores(k)
			slices.Sort(scores)
			var key [6]int
			copy(key[:], scores)
			isSequence[key] = true
		}
		listsOf(n, numbersTo(-1, n), func(list []int) {
			var key [6]int
			copy(key[:], list)
			if got := impl.IsLandau(list); got != isSequence[key] {
				t.Errorf("IsLandau(%v) = %v, want %v", list, got, isSequence[key])
			}
		})
		if got := impl.CountSequences(n); got != len(isSequence) {
			t.Errorf("CountSequences(%d) = %d, want %d", n, got, len(isSequence))
		}
	}
}

// TestIsLandauOfManyScores tries the lists of 7 and 8 numbers that do not fall, and some that do.
func TestIsLandauOfManyScores(t *testing.T) {
	for n := 7; n <= 8; n++ {
		risingLists(n, func(list []int) {
			want := scoresSuffice(list)
			if got := impl.IsLandau(list); got != want {
				t.Errorf("IsLandau(%v) = %v, want %v", list, got, want)
			}
			falling := slices.Clone(list)
			slices.Reverse(falling)
			if want = want && list[0] == list[n-1]; impl.IsLandau(falling) != want {
				t.Errorf("IsLandau(%v) = %v, want %v", falling, !want, want)
			}
		})
	}
}

// TestIsLandauMissedByOne uses the sequence 0, 1, 2 and so on, in which every sum is reached exactly.
func TestIsLandauMissedByOne(t *testing.T) {
	for n := 1; n <= 8; n++ {
		exact := numbersTo(0, n-1)
		if !impl.IsLandau(exact) {
			t.Errorf("IsLandau(%v) = false, want true", exact)
		}
		for at := range n {
			for _, change := range []int{-1, 1} {
				list := slices.Clone(exact)
				list[at] += change
				if impl.IsLandau(list) {
					t.Errorf("IsLandau(%v) = true, want false", list)
				}
			}
			if at+1 == n {
				continue
			}
			// Here the sum of the first at + 1 numbers alone is wrong.
			list := slices.Clone(exact)
			list[at]--
			list[at+1]++
			if impl.IsLandau(list) {
				t.Errorf("IsLandau(%v) = true, want false", list)
			}
		}
	}
}

// brokenLists returns lists that are no scores of a tour, in whatever order.
func brokenLists() [][]int {
	lists := [][]int{
		nil, {}, {-1}, {1}, {2}, {math.MaxInt}, {math.MinInt}, {1 << 32}, {-1, 2}, {0, 0}, {1, 1}, {0, 2}, {-1, 1},
		{0, 0, 3}, {0, 0, 2}, {1, 1, 2}, {0, 1, 1}, {0, 1, 3}, {-1, 2, 2}, {0, 0, 0}, {2, 2, 2}, {-1, 1, 3},
		{0, 0, 3, 3}, {0, 1, 1, 4}, {1, 1, 1, 2}, {1, 1, 1, 4}, {2, 2, 2, 2}, {0, 0, 2, 4}, {1, 1, 2, 1000}, {1, 1, 2, 1001},
		{0, 1, 2, 2, 5}, {1, 1, 1, 1, 6}, {0, 0, 3, 3, 4}, {2, 2, 2, 2, 1}, {2, 2, 2, 2, 3},
		{0, 1, 2, 3, 4, 5, 6, 8}, {0, 1, 2, 3, 4, 5, 6, 6}, {0, 1, 2, 3, 4, 5, 5, 8}, {3, 3, 3, 3, 4, 4, 4, 3}, {3, 3, 3, 3, 4, 4, 4, 5},
		{0, 1, 2, 3, 4, 5, 6, 7, 8}, {4, 4, 4, 4, 4, 4, 4, 4, 4}, {0, 1, 2, 3, 4, 5, 6, 7, 0}, {0, 1, 2, 3, 4, 5, 6, 7, -1},
		make([]int, 8), make([]int, 9), make([]int, 1000), slices.Repeat([]int{7}, 16),
		// Sums that are right only modulo 2 to the power of 32 or 64.
		{0, 1 + 1<<32}, {0, 1, 2 + 1<<32}, {math.MinInt, math.MinInt + 1}, {math.MinInt, math.MinInt, 3},
		{1, 1, math.MaxInt, math.MinInt + 4}, {0, math.MaxInt, math.MaxInt, 5}, {0, math.MaxInt, math.MaxInt, math.MaxInt},
		{1, 1 << 62, 1 << 62, 1 << 62, 1 << 62, 9}, {3, 3, 3, 3, 1 << 62, 1 << 62, 1 << 62, 1 << 62},
	}
	for _, exact := range [][]int{{0}, {1, 1, 1}, {1, 1, 2, 2}, {2, 2, 2, 2, 2}, {3, 3, 3, 3, 4, 4, 4, 4}} {
		for at := range exact {
			for _, other := range []int{-1, -2, 8, 1000, 1001, 1 << 32, math.MaxInt, math.MinInt} {
				list := slices.Clone(exact)
				list[at] = other
				lists = append(lists, list)
			}
		}
	}
	return lists
}

func TestBrokenLists(t *testing.T) {
	for _, list := range brokenLists() {
		falling := slices.Sorted(slices.Values(list))
		rising := slices.Clone(falling)
		slices.Reverse(falling)
		for _, other := range [][]int{list, rising, falling} {
			if impl.IsLandau(other) {
				t.Errorf("IsLandau(%v) = true, want false", other)
			}
			if got, ok := impl.RealizeScores(other); !isNothing(got, ok) {
				t.Errorf("RealizeScores(%v) = %v, %v, want nothing", other, got, ok)
			}
		}
	}
}

func TestWrittenIsLandau(t *testing.T) {
	cases := []struct {
		list []int
		want bool
	}{
		{[]int{0}, true},
		{[]int{0, 1}, true},
		{[]int{1, 0}, false},
		{[]int{1, 1, 1}, true},
		{[]int{0, 1, 2}, true},
		{[]int{2, 1, 0}, false},
		{[]int{0, 2, 1}, false},
		{[]int{1, 0, 2}, false},
		{[]int{0, 2, 2, 2}, true},
		{[]int{1, 1, 1, 3}, true},
		{[]int{3, 1, 1, 1}, false},
		{[]int{2, 2, 2, 2, 2}, true},
		{[]int{1, 1, 2, 3, 3}, true},
		{[]int{1, 1, 3, 2, 3}, false},
		{[]int{1, 1, 1, 4, 4, 4}, true},
		{[]int{3, 3, 3, 3, 3, 3, 3}, true},
		{[]int{3, 3, 3, 3, 4, 4, 4, 4}, true},
		{[]int{4, 4, 4, 4, 3, 3, 3, 3}, false},
		{[]int{1, 1, 1, 3, 5, 5, 6, 6}, true},
		{[]int{1, 1, 1, 3, 6, 5, 5, 6}, false},
	}
	for _, c := range cases {
		if got := impl.IsLandau(c.list); got != c.want {
			t.Errorf("IsLandau(%v) = %v, want %v", c.list, got, c.want)
		}
	}
}

func TestWrittenRealizations(t *testing.T) {
	cases := []struct {
		list []int
		text string
	}{
		{[]int{0}, "1:"},
		{[]int{1, 0}, "2:1"},
		{[]int{0, 1}, "2:0"},
		{[]int{1, 1, 1}, "3:101"},
		{[]int{2, 1, 0}, "3:111"},
		{[]int{1, 2, 0}, "3:011"},
		{[]int{0, 1, 2}, "3:000"},
		{[]int{2, 2, 1, 1}, "4:110111"},
		{[]int{1, 1, 2, 2}, "4:100101"},
		{[]int{1, 3, 1, 1}, "4:010111"},
		{[]int{2, 2, 2, 2, 2}, "5:1100110111"},
		{[]int{3, 3, 3, 3, 3, 3, 3}, "7:111000111001110111111"},
		{[]int{7, 6, 5, 4, 3, 2, 1, 0}, "8:" + strings.Repeat("1", 28)},
		{[]int{0, 1, 2, 3, 4, 5, 6, 7}, "8:" + strings.Repeat("0", 28)},
	}
	for _, c := range cases {
		tour, ok := impl.RealizeScores(c.list)
		if got := impl.FormatTour(tour); !ok || got != c.text {
			t.Errorf("RealizeScores(%v) = %q, %v, want %q", c.list, got, ok, c.text)
		}
	}
}

// checkRealization compares RealizeScores with the tour that the tests make.
func checkRealization(t *testing.T, list []int) {
	t.Helper()
	tour, ok := impl.RealizeScores(list)
	if want := realized(list); !ok || !equalTours(tour, want) {
		t.Errorf("RealizeScores(%v) = %v, %v, want %v", list, tour, ok, want)
	}
	if got := impl.ScoresOf(tour); !slices.Equal(got, list) {
		t.Errorf("RealizeScores(%v) has the scores %v", list, got)
	}
	if got, want := impl.SequenceOf(tour), slices.Sorted(slices.Values(list)); !slices.Equal(got, want) {
		t.Errorf("RealizeScores(%v) has the sequence %v", list, got)
	}
}

func TestRealizeAllScores(t *testing.T) {
	for n := 1; n <= 6; n++ {
		listsOf(n, numbersTo(-1, n), func(list []int) {
			if scoresSuffice(list) {
				checkRealization(t, list)
			} else if got, ok := impl.RealizeScores(list); !isNothing(got, ok) {
				t.Errorf("RealizeScores(%v) = %v, %v, want nothing", list, got, ok)
			}
		})
	}
}

// TestRealizeManyScores takes all sequences of 7 and 8 scores in several orders.
func TestRealizeManyScores(t *testing.T) {
	lists := sequenceLists()
	for n := 7; n <= 8; n++ {
		for _, sequence := range lists[n] {
			for _, order := range someOrdersOf(n) {
				list := []int{}
				for _, at := range order {
					list = append(list, sequence[at])
				}
				checkRealization(t, list)
				slices.Reverse(list)
				checkRealization(t, list)
			}
		}
	}
}

func TestWrittenSlack(t *testing.T) {
	cases := []struct {
		list  []int
		slack []int
	}{
		{[]int{0}, []int{0}},
		{[]int{1000}, []int{1000}},
		{[]int{0, 0}, []int{0, -1}},
		{[]int{1, 1, 1}, []int{1, 1, 0}},
		{[]int{2, 1, 0}, []int{2, 2, 0}},
		{[]int{0, 1, 2}, []int{0, 0, 0}},
		{[]int{0, 0, 0}, []int{0, -1, -3}},
		{[]int{1, 1, 2, 2}, []int{1, 1, 1, 0}},
		{[]int{1000, 0, 1000, 0}, []int{1000, 999, 1997, 1994}},
		{[]int{2, 2, 2, 2, 2}, []int{2, 3, 3, 2, 0}},
		{[]int{0, 0, 0, 0, 0, 0, 0, 0}, []int{0, -1, -3, -6, -10, -15, -21, -28}},
		{[]int{7, 6, 5, 4, 3, 2, 1, 0}, []int{7, 12, 15, 16, 15, 12, 7, 0}},
		{[]int{1000, 1000, 1000, 1000, 1000, 1000, 1000, 1000}, []int{1000, 1999, 2997, 3994, 4990, 5985, 6979, 7972}},
	}
	for _, c := range cases {
		if got := impl.SlackOf(c.list); !slices.Equal(got, c.slack) {
			t.Errorf("SlackOf(%v) = %v, want %v", c.list, got, c.slack)
		}
	}
}

func TestSlackOfManyLists(t *testing.T) {
	for n := range 6 {
		listsOf(n, []int{-1, 0, 1, 2, 500, 1000, 1001}, func(list []int) {
			want := []int{}
			sum, games := 0, 0
			for k, number := range list {
				sum += number
				games += k
				want = append(want, sum-games)
			}
			if slices.Contains(list, -1) || slices.Contains(list, 1001) {
				want = nil
			}
			if got := impl.SlackOf(list); !slices.Equal(got, want) {
				t.Errorf("SlackOf(%v) = %v, want %v", list, got, want)
			}
		})
	}
}

func TestSlackOfRefuses(t *testing.T) {
	lists := [][]int{nil, {}, make([]int, 9), make([]int, 10), make([]int, 1000), numbersTo(0, 8), slices.Repeat([]int{4}, 9)}
	for n := 1; n <= 8; n++ {
		for at := range n {
			for _, other := range []int{-1, -2, -1000, 1001, 1002, 1 << 32, math.MaxInt, math.MinInt, math.MinInt + 1} {
				list := numbersTo(0, n-1)
				list[at] = other
				lists = append(lists, list)
			}
		}
	}
	for _, list := range lists {
		if got := impl.SlackOf(list); len(got) != 0 {
			t.Errorf("SlackOf(%v) = %v, want nil", list, got)
		}
	}
}

// TestSlackShowsLandau compares SlackOf with IsLandau for all lists that do not fall.
func TestSlackShowsLandau(t *testing.T) {
	for n := 1; n <= 8; n++ {
		risingLists(n, func(list []int) {
			slack := impl.SlackOf(list)
			if len(slack) != n {
				t.Fatalf("SlackOf(%v) = %v", list, slack)
			}
			want := slices.Min(slack) >= 0 && slack[n-1] == 0
			if got := impl.IsLandau(list); got != want {
				t.Errorf("IsLandau(%v) = %v, but SlackOf is %v", list, got, slack)
			}
		})
	}
}

// oddSizes are numbers of players that no tour has.
var oddSizes = append([]int{0, 10, 16, 100, 1 << 21, 1 << 31, 1<<32 + 1}, slices.DeleteFunc(slices.Clone(oddInts), func(n int) bool { return n == 8 })...)

func TestMostTriangles(t *testing.T) {
	for n, want := range []int{-1, 0, 0, 1, 2, 5, 8, 14, 20, -1, -1} {
		if got := impl.MostTriangles(n); got != want {
			t.Errorf("MostTriangles(%d) = %d, want %d", n, got, want)
		}
	}
	for _, n := range oddSizes {
		if got := impl.MostTriangles(n); got != -1 {
			t.Errorf("MostTriangles(%d) = %d, want -1", n, got)
		}
	}
}

// TestMostTrianglesOfTours compares MostTriangles with all tours of up to 6 players, and with tours of all sequences of 7 and 8.
func TestMostTrianglesOfTours(t *testing.T) {
	for n := 1; n <= 6; n++ {
		most := 0
		for _, k := range knownTours(n, 1<<15) {
			most = max(most, knownTriangles(k))
		}
		if got := impl.MostTriangles(n); got != most {
			t.Errorf("MostTriangles(%d) = %d, want %d", n, got, most)
		}
	}
	lists := sequenceLists()
	for n := 7; n <= 8; n++ {
		most := 0
		for _, sequence := range lists[n] {
			tour, _ := impl.RealizeScores(sequence)
			most = max(most, impl.CountTriangles(tour))
		}
		if got := impl.MostTriangles(n); got != most {
			t.Errorf("MostTriangles(%d) = %d, want %d", n, got, most)
		}
	}
}

func TestCountSequences(t *testing.T) {
	for n, want := range []int{-1, 1, 1, 2, 4, 9, 22, 59, 167, -1, -1} {
		if got := impl.CountSequences(n); got != want {
			t.Errorf("CountSequences(%d) = %d, want %d", n, got, want)
		}
	}
	for _, n := range oddSizes {
		if got := impl.CountSequences(n); got != -1 {
			t.Errorf("CountSequences(%d) = %d, want -1", n, got)
		}
	}
	lists := sequenceLists()
	for n := 1; n <= 8; n++ {
		if got := impl.CountSequences(n); got != len(lists[n]) {
			t.Errorf("CountSequences(%d) = %d, want %d", n, got, len(lists[n]))
		}
	}
}

// TestRegularSequences realizes all sequences of scores, so that those that differ by at most 1 and by 2 occur for each size.
func TestRegularSequences(t *testing.T) {
	lists := sequenceLists()
	for n := 1; n <= 8; n++ {
		for _, sequence := range lists[n] {
			tour, _ := impl.RealizeScores(sequence)
			want := sequence[n-1]-sequence[0] <= 1
			if got := impl.IsRegular(tour); got != want {
				t.Errorf("IsRegular of a tour with the scores %v = %v, want %v", sequence, got, want)
			}
			if got := impl.CountTriangles(tour) == impl.MostTriangles(n); got != want {
				t.Errorf("A tour with the scores %v has the most triangles: %v, want %v", sequence, got, want)
			}
		}
	}
}

// TestNumbersStayForOtherNames checks that the sequence and all that depends on it is the same for renamed players, and for what is realized again.
func TestNumbersStayForOtherNames(t *testing.T) {
	for _, k := range someKnownTours() {
		same := []impl.Tour{}
		again, _ := impl.RealizeScores(impl.ScoresOf(k.tour))
		turned, _ := impl.TurnTour(k.tour)
		for _, names := range someOrdersOf(k.tour.Size) {
			renamed, _ := impl.RenameTour(k.tour, names)
			same = append(same, renamed)
		}
		for _, other := range append(same, again) {
			if !slices.Equal(impl.SequenceOf(other), impl.SequenceOf(k.tour)) || impl.SumOfSquares(other) != impl.SumOfSquares(k.tour) {
				t.Errorf("%s and %s have other scores", k.text, impl.FormatTour(other))
			}
		}
		for _, other := range append(same, again, turned) {
			if impl.CountTriangles(other) != impl.CountTriangles(k.tour) || impl.IsRegular(other) != impl.IsRegular(k.tour) {
				t.Errorf("%s and %s have other triangles", k.text, impl.FormatTour(other))
			}
		}
	}
}

func TestScoresLeaveToursAsTheyAre(t *testing.T) {
	for _, k := range someKnownTours() {
		memory := append(slices.Clone(k.tour.Wins), 91, 92, 93)
		tour := impl.Tour{Size: k.tour.Size, Wins: memory[:k.tour.Size]}
		calls := map[string]func() ([]int, string){
			"SequenceOf":     func() ([]int, string) { return impl.SequenceOf(tour), "" },
			"CountTriangles": func() ([]int, string) { return nil, impl.FormatInt(impl.CountTriangles(tour)) },
			"IsRegular":      func() ([]int, string) { impl.IsRegular(tour); return nil, "" },
			"SumOfSquares":   func() ([]int, string) { return nil, impl.FormatInt(impl.SumOfSquares(tour)) },
		}
		for function, call := range calls {
			checkMemory(t, function+" of "+k.text, call, memory)
		}
	}
}

func TestScoresLeaveListsAsTheyAre(t *testing.T) {
	lists := [][]int{{}, {0}, {1, 0}, {1, 1, 1}, {2, 0, 1}, {1, 1, 2, 2}, {2, 1, 2, 1}, {0, 0, 3}, {4, 3, 4, 3, 4, 3, 4, 3}, {7, 0, 6, 1, 5, 2, 4, 3}, {0, 1, 2, 3, 4, 5, 6, 7}, {8, 7, 6, 5, 4, 3, 2, 1, 0}, {5, 1001}}
	for _, list := range lists {
		memory := append(slices.Clone(list), 3, -92, 1)
		argument := memory[:len(list)]
		calls := map[string]func() ([]int, string){
			"IsLandau": func() ([]int, string) { impl.IsLandau(argument); return nil, "" },
			"RealizeScores": func() ([]int, string) {
				tour, _ := impl.RealizeScores(argument)
				return tour.Wins, impl.FormatTour(tour)
			},
			"SlackOf": func() ([]int, string) { return impl.SlackOf(argument), "" },
		}
		for function, call := range calls {
			checkMemory(t, function, call, memory)
		}
	}
}
