package tests

import (
	"slices"
	"testing"

	"loop.example/g03205/impl"
)

// trianglesIn looks at each list of three players.
func trianglesIn(beats [8][8]bool) [][]int {
	list := [][]int{}
	for a := range 8 {
		for b := a + 1; b < 8; b++ {
			for c := a + 1; c < 8; c++ {
				if beats[a][b] && beats[b][c] && beats[c][a] {
					list = append(list, []int{a, b, c})
				}
			}
		}
	}
	return list
}

// reversedIn returns the results with those between the three players the other way round.
func reversedIn(beats [8][8]bool, players []int) [8][8]bool {
	was := beats
	for _, a := range players {
		for _, b := range players {
			beats[a][b] = was[b][a]
		}
	}
	return beats
}

// packedIn takes the triangles in order and marks the pairs of those taken.
func packedIn(beats [8][8]bool) [][]int {
	taken := [][]int{}
	isMarked := [8][8]bool{}
	for _, list := range trianglesIn(beats) {
		a, b, c := list[0], list[1], list[2]
		if isMarked[a][b] || isMarked[b][c] || isMarked[c][a] {
			continue
		}
		taken = append(taken, list)
		for _, pair := range [][2]int{{a, b}, {b, c}, {c, a}} {
			isMarked[pair[0]][pair[1]] = true
			isMarked[pair[1]][pair[0]] = true
		}
	}
	return taken
}

// wayIn tries all lists of at most so many triangles in lexicographic order, and returns the first one that leads from one tour to the other one.
func wayIn(from [8][8]bool, to [8][8]bool, most int) ([][]int, bool) {
	if from == to {
		return [][]int{}, true
	}
	if most == 0 {
		return nil, false
	}
	for _, list := range trianglesIn(from) {
		if rest, ok := wayIn(reversedIn(from, list), to, most-1); ok {
			return append([][]int{list}, rest...), true
		}
	}
	return nil, false
}

// shortestWayIn tries ever longer lists; there must be a way.
func shortestWayIn(from [8][8]bool, to [8][8]bool) [][]int {
	for most := 0; ; most++ {
		if way, ok := wayIn(from, to, most); ok {
			return way
		}
	}
}

func equalLists(a, b [][]int) bool { return slices.EqualFunc(a, b, slices.Equal) }

// mustParse returns the tour with a text.
func mustParse(t *testing.T, text string) impl.Tour {
	t.Helper()
	tour, ok := impl.ParseTour(text)
	if !ok {
		t.Fatalf("ParseTour(%q) fails", text)
	}
	return tour
}

// writtenTriangles are tours whose triangles are written out by hand: all, those of PackTriangles, and the numbers of those at each player.
var writtenTriangles = []struct {
	text   string
	all    [][]int
	packed [][]int
	at     []int
}{
	{"1:", nil, nil, []int{0}},
	{"2:1", nil, nil, []int{0, 0}},
	{"2:0", nil, nil, []int{0, 0}},
	{"3:111", nil, nil, []int{0, 0, 0}},
	{"3:000", nil, nil, []int{0, 0, 0}},
	{"3:100", nil, nil, []int{0, 0, 0}},
	{"3:101", [][]int{{0, 1, 2}}, [][]int{{0, 1, 2}}, []int{1, 1, 1}},
	{"3:010", [][]int{{0, 2, 1}}, [][]int{{0, 2, 1}}, []int{1, 1, 1}},
	{"4:111111", nil, nil, []int{0, 0, 0, 0}},
	{"4:111101", [][]int{{1, 2, 3}}, [][]int{{1, 2, 3}}, []int{0, 1, 1, 1}},
	{"4:011011", [][]int{{0, 2, 1}}, [][]int{{0, 2, 1}}, []int{1, 1, 1, 0}},
	// Two triangles with a pair in common.
	{"4:110111", [][]int{{0, 1, 3}, {0, 2, 3}}, [][]int{{0, 1, 3}}, []int{2, 1, 1, 2}},
	{"5:1111111111", nil, nil, []int{0, 0, 0, 0, 0}},
	{"5:1011111111", [][]int{{0, 1, 2}}, [][]int{{0, 1, 2}}, []int{1, 1, 1, 0, 0}},
	// The first and the last triangle have only a player in common.
	{"5:1011111101", [][]int{{0, 1, 2}, {0, 4, 2}, {2, 3, 4}}, [][]int{{0, 1, 2}, {2, 3, 4}}, []int{2, 1, 3, 1, 2}},
	{"5:1110111111", [][]int{{0, 1, 4}, {0, 2, 4}, {0, 3, 4}}, [][]int{{0, 1, 4}}, []int{3, 1, 1, 1, 3}},
	{"5:1101110111", [][]int{{0, 1, 3}, {0, 2, 3}, {1, 2, 4}, {1, 3, 4}}, [][]int{{0, 1, 3}, {1, 2, 4}}, []int{2, 3, 2, 3, 2}},
	// As many as there can be.
	{"5:1100110111", [][]int{{0, 1, 3}, {0, 2, 3}, {0, 2, 4}, {1, 2, 4}, {1, 3, 4}}, [][]int{{0, 1, 3}, {0, 2, 4}}, []int{3, 3, 3, 3, 3}},
	// Two triangles without a common player.
	{"6:101111111111101", [][]int{{0, 1, 2}, {3, 4, 5}}, [][]int{{0, 1, 2}, {3, 4, 5}}, []int{1, 1, 1, 1, 1, 1}},
	{"7:111111111111111111111", nil, nil, []int{0, 0, 0, 0, 0, 0, 0}},
	{"7:011111011111111101111", [][]int{{0, 2, 1}, {3, 4, 5}}, [][]int{{0, 2, 1}, {3, 4, 5}}, []int{1, 1, 1, 1, 1, 1, 0}},
	{"7:111110111111111111111", [][]int{{0, 1, 6}, {0, 2, 6}, {0, 3, 6}, {0, 4, 6}, {0, 5, 6}}, [][]int{{0, 1, 6}}, []int{5, 1, 1, 1, 1, 1, 5}},
	{"7:101111111111011111101", [][]int{{0, 1, 2}, {0, 4, 2}, {2, 3, 4}, {2, 6, 4}, {4, 5, 6}}, [][]int{{0, 1, 2}, {2, 3, 4}, {4, 5, 6}}, []int{2, 1, 4, 1, 4, 1, 2}},
	{
		"7:110100110101101110111",
		[][]int{{0, 1, 3}, {0, 1, 5}, {0, 2, 3}, {0, 2, 6}, {0, 4, 5}, {0, 4, 6}, {1, 2, 4}, {1, 2, 6}, {1, 3, 4}, {1, 5, 6}, {2, 3, 5}, {2, 4, 5}, {3, 4, 6}, {3, 5, 6}},
		[][]int{{0, 1, 3}, {0, 2, 6}, {0, 4, 5}, {1, 2, 4}, {1, 5, 6}, {2, 3, 5}, {3, 4, 6}},
		[]int{6, 6, 6, 6, 6, 6, 6},
	},
	{"8:1111111111111111111111111111", nil, nil, []int{0, 0, 0, 0, 0, 0, 0, 0}},
	{"8:1111111111111111111111111010", [][]int{{5, 7, 6}}, [][]int{{5, 7, 6}}, []int{0, 0, 0, 0, 0, 1, 1, 1}},
	{"8:1011111111111111110111011111", [][]int{{0, 1, 2}, {3, 5, 4}}, [][]int{{0, 1, 2}, {3, 5, 4}}, []int{1, 1, 1, 1, 1, 1, 0, 0}},
	{"8:1011111111111101111111111101", [][]int{{0, 1, 2}, {0, 4, 2}, {2, 3, 4}, {5, 6, 7}}, [][]int{{0, 1, 2}, {2, 3, 4}, {5, 6, 7}}, []int{2, 1, 3, 1, 2, 1, 1, 1}},
	{"8:1111110111111111111111111111", [][]int{{0, 1, 7}, {0, 2, 7}, {0, 3, 7}, {0, 4, 7}, {0, 5, 7}, {0, 6, 7}}, [][]int{{0, 1, 7}}, []int{6, 1, 1, 1, 1, 1, 1, 6}},
	{
		"8:1111000111100111101111111111",
		[][]int{
			{0, 1, 5}, {0, 2, 5}, {0, 2, 6}, {0, 3, 5}, {0, 3, 6}, {0, 3, 7}, {0, 4, 5}, {0, 4, 6}, {0, 4, 7}, {1, 2, 6},
			{1, 3, 6}, {1, 3, 7}, {1, 4, 6}, {1, 4, 7}, {1, 5, 6}, {1, 5, 7}, {2, 3, 7}, {2, 4, 7}, {2, 5, 7}, {2, 6, 7},
		},
		[][]int{{0, 1, 5}, {0, 2, 6}, {0, 3, 7}, {1, 3, 6}, {1, 4, 7}, {2, 5, 7}},
		[]int{9, 8, 7, 6, 6, 7, 8, 9},
	},
}

func TestWrittenTriangles(t *testing.T) {
	for _, w := range writtenTriangles {
		tour := mustParse(t, w.text)
		if got := impl.TrianglesOf(tour); !equalLists(got, w.all) {
			t.Errorf("TrianglesOf(%s) = %v, want %v", w.text, got, w.all)
		}
		if got := impl.PackTriangles(tour); !equalLists(got, w.packed) {
			t.Errorf("PackTriangles(%s) = %v, want %v", w.text, got, w.packed)
		}
		for a, want := range w.at {
			if got := impl.TrianglesAt(tour, a); got != want {
				t.Errorf("TrianglesAt(%s, %d) = %d, want %d", w.text, a, got, want)
			}
		}
		for _, list := range w.all {
			if !impl.IsTriangle(tour, list) {
				t.Errorf("IsTriangle(%s, %v) = false, want true", w.text, list)
			}
		}
	}
}

func TestTrianglesOf(t *testing.T) {
	for _, k := range allKnownTours() {
		want := trianglesIn(k.beats)
		got := impl.TrianglesOf(k.tour)
		if !equalLists(got, want) {
			t.Errorf("TrianglesOf(%s) = %v, want %v", k.text, got, want)
		}
		if !slices.IsSortedFunc(got, slices.Compare) {
			t.Errorf("TrianglesOf(%s) = %v, which is not in lexicographic order", k.text, got)
		}
		if count := impl.CountTriangles(k.tour); len(got) != count {
			t.Errorf("TrianglesOf(%s) has %d triangles, CountTriangles is %d", k.text, len(got), count)
		}
	}
	for _, broken := range brokenTours() {
		if got := impl.TrianglesOf(broken); len(got) != 0 {
			t.Errorf("TrianglesOf(%v) = %v, want nil", broken, got)
		}
	}
}

// TestTrianglesForOtherNames renames the players of each triangle and puts the least one first again.
func TestTrianglesForOtherNames(t *testing.T) {
	for _, k := range someKnownTours() {
		for _, names := range someOrdersOf(k.tour.Size) {
			renamed, _ := impl.RenameTour(k.tour, names)
			want := [][]int{}
			for _, list := range impl.TrianglesOf(k.tour) {
				a, b, c := names[list[0]], names[list[1]], names[list[2]]
				for a > b || a > c {
					a, b, c = b, c, a
				}
				want = append(want, []int{a, b, c})
			}
			slices.SortFunc(want, slices.Compare)
			if got := impl.TrianglesOf(renamed); !equalLists(got, want) {
				t.Errorf("TrianglesOf(%s), renamed by %v, = %v, want %v", k.text, names, got, want)
			}
			for a, name := range names {
				if got, want := impl.TrianglesAt(renamed, name), impl.TrianglesAt(k.tour, a); got != want {
					t.Errorf("TrianglesAt(%s) of %d = %d, but %d for the name %d", k.text, a, want, got, name)
				}
			}
		}
	}
}

// TestTrianglesOfTurnedTours expects the same triangles in the other direction.
func TestTrianglesOfTurnedTours(t *testing.T) {
	for _, k := range allKnownTours() {
		turned, _ := impl.TurnTour(k.tour)
		want := [][]int{}
		for _, list := range impl.TrianglesOf(k.tour) {
			want = append(want, []int{list[0], list[2], list[1]})
		}
		slices.SortFunc(want, slices.Compare)
		if got := impl.TrianglesOf(turned); !equalLists(got, want) {
			t.Errorf("TrianglesOf(TurnTour(%s)) = %v, want %v", k.text, got, want)
		}
	}
}

// toursToTryLists returns all tours of up to 4 players, some greater ones, and those with the written triangles.
func toursToTryLists(t *testing.T) []known {
	list := []known{}
	for n := 1; n <= 4; n++ {
		list = append(list, knownTours(n, 64)...)
	}
	for n := 5; n <= 8; n++ {
		list = append(list, knownTours(n, 12)...)
	}
	for _, w := range writtenTriangles {
		k := known{text: w.text, tour: mustParse(t, w.text)}
		for _, list := range w.all {
			for i, a := range list {
				k.beats[a][list[(i+1)%3]] = true
			}
		}
		list = append(list, k)
	}
	return list
}

// checkList compares IsTriangle and ReverseTriangle for a list with the triangles that are wanted.
func checkList(t *testing.T, k known, wanted [][]int, list []int) {
	t.Helper()
	want := slices.ContainsFunc(wanted, func(other []int) bool { return slices.Equal(other, list) })
	if got := impl.IsTriangle(k.tour, list); got != want {
		t.Errorf("IsTriangle(%s, %v) = %v, want %v", k.text, list, got, want)
	}
	got, ok := impl.ReverseTriangle(k.tour, list)
	if ok != want || !want && !isNothing(got, ok) {
		t.Errorf("ReverseTriangle(%s, %v) = %v, %v, want %v", k.text, list, got, ok, want)
	}
}

func TestIsTriangleOfAllLists(t *testing.T) {
	for _, k := range toursToTryLists(t) {
		wanted := trianglesIn(k.beats)
		for length := range 4 {
			listsOf(length, numbersTo(-1, k.tour.Size), func(list []int) { checkList(t, k, wanted, list) })
		}
	}
	for n := 1; n <= 4; n++ {
		for _, k := range knownTours(n, 64) {
			wanted := trianglesIn(k.beats)
			listsOf(4, numbersTo(-1, n), func(list []int) { checkList(t, k, wanted, list) })
		}
	}
}

// TestListsNearATriangle changes real triangles: their direction, their first player, their length, and one of their numbers.
func TestListsNearATriangle(t *testing.T) {
	for _, w := range writtenTriangles {
		k := known{text: w.text, tour: mustParse(t, w.text)}
		for _, list := range w.all {
			a, b, c := list[0], list[1], list[2]
			lists := [][]int{
				nil, {}, {a}, {a, b}, {b, c}, {c, a}, {b, c, a}, {c, a, b}, {a, c, b}, {c, b, a}, {b, a, c},
				{a, b, a}, {a, b, b}, {a, a, b}, {a, a, a}, {c, c, a}, {a, c, c},
				{a, b, c, a}, {a, b, c, b}, {a, b, c, c}, {a, b, c, 0}, {a, a, b, c}, {a, b, c, -1}, {-1, a, b, c}, {a, b, c, a, b, c},
				append(slices.Clone(list), make([]int, 1000)...),
			}
			for at := range list {
				for _, odd := range append([]int{k.tour.Size}, oddInts...) {
					changed := slices.Clone(list)
					changed[at] = odd
					lists = append(lists, changed)
					for _, power := range []int{8, 32, 64, 1 << 32} {
						changed = slices.Clone(list)
						changed[at] += power
						lists = append(lists, changed)
					}
				}
			}
			for _, other := range lists {
				checkList(t, k, nil, other)
			}
		}
	}
}

func TestTrianglesOfBrokenTours(t *testing.T) {
	tours := brokenTours()
	for _, w := range writtenTriangles {
		tours = append(tours, spoiled(mustParse(t, w.text))...)
	}
	for _, broken := range tours {
		if got := impl.TrianglesOf(broken); len(got) != 0 {
			t.Errorf("TrianglesOf(%v) = %v, want nil", broken, got)
		}
		if got := impl.PackTriangles(broken); len(got) != 0 {
			t.Errorf("PackTriangles(%v) = %v, want nil", broken, got)
		}
		for _, list := range [][]int{nil, {0, 1, 2}, {0, 2, 1}, {0, 1, 3}, {1, 2, 3}, {3, 4, 5}, {0, 6, 7}, {0, 0, 0}, {0, 8, 9}} {
			if impl.IsTriangle(broken, list) {
				t.Errorf("IsTriangle(%v, %v) = true, want false", broken, list)
			}
			if got, ok := impl.ReverseTriangle(broken, list); !isNothing(got, ok) {
				t.Errorf("ReverseTriangle(%v, %v) = %v, %v, want nothing", broken, list, got, ok)
			}
		}
		for a := -1; a <= 9; a++ {
			if got := impl.TrianglesAt(broken, a); got != -1 {
				t.Errorf("TrianglesAt(%v, %d) = %d, want -1", broken, a, got)
			}
		}
	}
}

// winsOf returns the Wins of n players with these results.
func winsOf(n int, beats [8][8]bool) []int {
	wins := make([]int, n)
	for a := range n {
		for b := range n {
			if beats[a][b] {
				wins[a] += 1 << b
			}
		}
	}
	return wins
}

func TestWrittenReversals(t *testing.T) {
	cases := []struct {
		text     string
		list     []int
		reversed string
	}{
		{"3:101", []int{0, 1, 2}, "3:010"},
		{"3:010", []int{0, 2, 1}, "3:101"},
		{"4:110111", []int{0, 1, 3}, "4:011101"},
		{"4:110111", []int{0, 2, 3}, "4:101110"},
		{"4:111101", []int{1, 2, 3}, "4:111010"},
		{"5:1100110111", []int{0, 2, 4}, "5:1001110101"},
		{"5:1101110111", []int{1, 3, 4}, "5:1101101110"},
		{"8:1111110111111111111111111111", []int{0, 6, 7}, "8:1111101111111111111111111110"},
	}
	for _, c := range cases {
		reversed, ok := impl.ReverseTriangle(mustParse(t, c.text), c.list)
		if got := impl.FormatTour(reversed); !ok || got != c.reversed {
			t.Errorf("ReverseTriangle(%s, %v) = %q, %v, want %q", c.text, c.list, got, ok, c.reversed)
		}
	}
}

func TestReverseTriangle(t *testing.T) {
	for _, k := range allKnownTours() {
		for _, list := range trianglesIn(k.beats) {
			want := impl.Tour{Size: k.tour.Size, Wins: winsOf(k.tour.Size, reversedIn(k.beats, list))}
			got, ok := impl.ReverseTriangle(k.tour, list)
			if !ok || !equalTours(got, want) {
				t.Errorf("ReverseTriangle(%s, %v) = %v, %v, want %v", k.text, list, got, ok, want)
				continue
			}
			if !slices.Equal(impl.ScoresOf(got), impl.ScoresOf(k.tour)) || impl.CountTriangles(got) != impl.CountTriangles(k.tour) {
				t.Errorf("ReverseTriangle(%s, %v) changes the scores or the number of triangles", k.text, list)
			}
			if different := impl.CountDifferent(k.tour, got); different != 3 {
				t.Errorf("ReverseTriangle(%s, %v) changes %d results", k.text, list, different)
			}
			back, ok := impl.ReverseTriangle(got, []int{list[0], list[2], list[1]})
			if !ok || !equalTours(back, k.tour) {
				t.Errorf("ReverseTriangle(%s, %v) does not come back: %v, %v", k.text, list, back, ok)
			}
		}
	}
}

func TestPackTriangles(t *testing.T) {
	for _, k := range allKnownTours() {
		if got, want := impl.PackTriangles(k.tour), packedIn(k.beats); !equalLists(got, want) {
			t.Errorf("PackTriangles(%s) = %v, want %v", k.text, got, want)
		}
	}
}

func TestTrianglesAt(t *testing.T) {
	for _, k := range allKnownTours() {
		list := trianglesIn(k.beats)
		for a := range k.tour.Size {
			want := 0
			for _, triangle := range list {
				if triangle[0] == a || triangle[1] == a || triangle[2] == a {
					want++
				}
			}
			if got := impl.TrianglesAt(k.tour, a); got != want {
				t.Errorf("TrianglesAt(%s, %d) = %d, want %d", k.text, a, got, want)
			}
		}
	}
	for _, k := range someKnownTours() {
		for _, a := range append([]int{k.tour.Size, k.tour.Size + 1, 1 << 32}, oddInts...) {
			if got := impl.TrianglesAt(k.tour, a); got != -1 {
				t.Errorf("TrianglesAt(%s, %d) = %d, want -1", k.text, a, got)
			}
		}
	}
}

// TestTrianglesAtAddUp counts each triangle at its three players.
func TestTrianglesAtAddUp(t *testing.T) {
	for _, k := range allKnownTours() {
		sum := 0
		for a := range k.tour.Size {
			sum += impl.TrianglesAt(k.tour, a)
		}
		if want := 3 * impl.CountTriangles(k.tour); sum != want {
			t.Errorf("TrianglesAt(%s) adds up to %d, want %d", k.text, sum, want)
		}
	}
}

// checkWay compares both functions with the shortest way that is wanted, or with none if it is nil.
func checkWay(t *testing.T, from, to impl.Tour, want [][]int) {
	t.Helper()
	steps := len(want)
	if want == nil {
		steps = -1
	}
	if got := impl.TriangleSteps(from, to); got != steps {
		t.Errorf("TriangleSteps of %v and %v = %d, want %d", from, to, got, steps)
	}
	if got, ok := impl.TriangleWay(from, to); ok != (want != nil) || !equalLists(got, want) {
		t.Errorf("TriangleWay of %v and %v = %v, %v, want %v", from, to, got, ok, want)
	}
}

func TestWrittenWays(t *testing.T) {
	cases := []struct {
		from string
		to   string
		way  [][]int
	}{
		{"1:", "1:", [][]int{}},
		{"2:1", "2:1", [][]int{}},
		{"2:1", "2:0", nil},
		{"3:101", "3:101", [][]int{}},
		{"3:101", "3:010", [][]int{{0, 1, 2}}},
		{"3:010", "3:101", [][]int{{0, 2, 1}}},
		{"3:101", "3:111", nil},
		{"3:111", "3:110", nil},
		{"4:110111", "4:110111", [][]int{}},
		{"4:110111", "4:011101", [][]int{{0, 1, 3}}},
		{"4:110111", "4:101011", nil},
		{"4:110111", "4:111111", nil},
		// The sequences of scores are the same, but the scores are those of other players.
		{"4:110111", "4:100111", nil},
		// 0, 1, 3 and then 1, 2, 3 is a shortest way as well.
		{"4:100111", "4:001010", [][]int{{0, 1, 2}, {0, 2, 3}}},
		// The same triangles in the other order are a shortest way as well.
		{"5:1110101101", "5:0111100010", [][]int{{0, 1, 4}, {2, 3, 4}}},
		{"5:0011100100", "5:1100110110", [][]int{{0, 3, 1}, {0, 4, 2}}},
		// There are 8 shortest ways from the first one, and 40 from each of the others.
		{"5:1011110101", "5:1110011010", [][]int{{0, 1, 2}, {0, 4, 1}, {2, 3, 4}}},
		{"5:1100110111", "5:0011001000", [][]int{{0, 1, 3}, {0, 2, 4}, {1, 2, 3}, {1, 3, 4}}},
		{"5:0011001000", "5:1100110111", [][]int{{0, 3, 1}, {0, 4, 2}, {1, 3, 2}, {1, 4, 3}}},
		{"5:1010110011", "5:0101001100", [][]int{{0, 1, 2}, {0, 2, 4}, {0, 3, 2}, {1, 3, 4}}},
	}
	for _, c := range cases {
		checkWay(t, mustParse(t, c.from), mustParse(t, c.to), c.way)
	}
}

// TestAllWays takes all pairs of tours of up to 5 players with the same scores.
func TestAllWays(t *testing.T) {
	for n := 1; n <= 5; n++ {
		groups := map[[8]int][]known{}
		for _, k := range knownTours(n, 1024) {
			var scores [8]int
			copy(scores[:], knownScores(k))
			groups[scores] = append(groups[scores], k)
		}
		for _, group := range groups {
			for _, from := range group {
				for _, to := range group {
					checkWay(t, from.tour, to.tour, shortestWayIn(from.beats, to.beats))
				}
			}
		}
	}
}

// TestWaysLeadThere reverses the triangles of each way one after the other.
func TestWaysLeadThere(t *testing.T) {
	tours := knownTours(5, 1024)
	for _, from := range tours {
		// Renaming a regular tour or one with equal scores may keep the scores.
		for _, names := range someOrdersOf(5) {
			to, _ := impl.RenameTour(from.tour, names)
			way, ok := impl.TriangleWay(from.tour, to)
			if same := slices.Equal(impl.ScoresOf(to), knownScores(from)); ok != same {
				t.Errorf("TriangleWay of %s and %s finds a way: %v, want %v", from.text, impl.FormatTour(to), ok, same)
			}
			at := from.tour
			for _, list := range way {
				next, isTriangle := impl.ReverseTriangle(at, list)
				if !isTriangle {
					t.Errorf("TriangleWay of %s and %s = %v, with a list that is no triangle", from.text, impl.FormatTour(to), way)
				}
				at = next
			}
			if ok && !impl.SameTour(at, to) {
				t.Errorf("TriangleWay of %s and %s = %v leads to %v", from.text, impl.FormatTour(to), way, at)
			}
			if there, back := impl.TriangleSteps(from.tour, to), impl.TriangleSteps(to, from.tour); there != back {
				t.Errorf("TriangleSteps of %s and %s = %d, but %d back", from.text, impl.FormatTour(to), there, back)
			}
		}
	}
}

// TestNoWays takes tours of different Size, of too many players, and with different scores.
func TestNoWays(t *testing.T) {
	tours := someKnownTours()
	for _, from := range tours {
		for _, to := range tours {
			if from.tour.Size != to.tour.Size || from.tour.Size > 5 || !slices.Equal(knownScores(from), knownScores(to)) {
				checkWay(t, from.tour, to.tour, nil)
			}
		}
	}
	for _, from := range knownTours(4, 64) {
		for _, to := range knownTours(4, 64) {
			if !slices.Equal(knownScores(from), knownScores(to)) {
				checkWay(t, from.tour, to.tour, nil)
			}
		}
	}
	for n := 6; n <= 8; n++ {
		for _, k := range knownTours(n, 64) {
			checkWay(t, k.tour, k.tour, nil)
			for _, list := range trianglesIn(k.beats) {
				reversed, _ := impl.ReverseTriangle(k.tour, list)
				checkWay(t, k.tour, reversed, nil)
			}
		}
	}
}

func TestNoWaysOfBrokenTours(t *testing.T) {
	for _, broken := range brokenTours() {
		checkWay(t, broken, broken, nil)
		checkWay(t, broken, impl.Tour{}, nil)
		checkWay(t, impl.Tour{}, broken, nil)
	}
	for n := 1; n <= 5; n++ {
		for _, k := range knownTours(n, 16) {
			for _, broken := range spoiled(k.tour) {
				checkWay(t, broken, broken, nil)
				checkWay(t, broken, k.tour, nil)
				checkWay(t, k.tour, broken, nil)
			}
		}
	}
}

// checkLists calls a function twice and writes into each list of its result in between. The memories are those of its arguments; spare memory is included everywhere.
func checkLists(t *testing.T, label string, call func() [][]int, memories ...[]int) {
	t.Helper()
	was := slices.Concat(memories...)
	result := call()
	before := [][]int{}
	for i, list := range result {
		before = append(before, slices.Clone(list))
		result[i] = list[:cap(list)]
	}
	for i, list := range result {
		for at := range list {
			list[at] = -77 - i
		}
	}
	for i, list := range result {
		if slices.ContainsFunc(list, func(number int) bool { return number != -77-i }) {
			t.Fatalf("%s returns %v, of which the list %d shares memory with another one", label, before, i)
		}
	}
	clear(result[:cap(result)])
	if is := slices.Concat(memories...); !slices.Equal(is, was) {
		t.Fatalf("%s changes or returns the memory of an argument: %v, before %v", label, is, was)
	}
	if again := call(); !equalLists(again, before) {
		t.Fatalf("%s returns %v and then %v", label, before, again)
	}
}

func TestTrianglesLeaveToursAsTheyAre(t *testing.T) {
	for _, w := range writtenTriangles {
		parsed := mustParse(t, w.text)
		memory := append(parsed.Wins, 91, 92, 93)
		tour := impl.Tour{Size: parsed.Size, Wins: memory[:parsed.Size]}
		checkLists(t, "TrianglesOf "+w.text, func() [][]int { return impl.TrianglesOf(tour) }, memory)
		checkLists(t, "PackTriangles of "+w.text, func() [][]int { return impl.PackTriangles(tour) }, memory)
		checkMemory(t, "TrianglesAt of "+w.text, func() ([]int, string) {
			return nil, impl.FormatInt(impl.TrianglesAt(tour, 0))
		}, memory)
	}
}

func TestReversalsLeaveArgumentsAsTheyAre(t *testing.T) {
	for _, w := range writtenTriangles {
		parsed := mustParse(t, w.text)
		winsMemory := append(parsed.Wins, 91, 92, 93)
		tour := impl.Tour{Size: parsed.Size, Wins: winsMemory[:parsed.Size]}
		for _, list := range append(slices.Clone(w.all), nil, []int{0, 0, 0}, []int{2, 0, 1}, []int{2, 1, 0}, []int{3, 2, 1, 0}) {
			listMemory := append(slices.Clone(list), 3, -92, 1)
			argument := listMemory[:len(list)]
			checkMemory(t, "IsTriangle of "+w.text, func() ([]int, string) {
				impl.IsTriangle(tour, argument)
				return nil, ""
			}, winsMemory, listMemory)
			checkMemory(t, "ReverseTriangle of "+w.text, func() ([]int, string) {
				reversed, _ := impl.ReverseTriangle(tour, argument)
				return reversed.Wins, impl.FormatTour(reversed)
			}, winsMemory, listMemory)
		}
	}
}

func TestWaysLeaveToursAsTheyAre(t *testing.T) {
	for n := 1; n <= 6; n++ {
		tours := knownTours(n, 40)
		for _, from := range tours {
			turned, _ := impl.TurnTour(from.tour)
			for _, to := range []impl.Tour{tours[0].tour, turned, from.tour} {
				fromMemory := append(slices.Clone(from.tour.Wins), 91, 92, 93)
				toMemory := append(slices.Clone(to.Wins), 94, 95, 96)
				t1 := impl.Tour{Size: n, Wins: fromMemory[:n]}
				t2 := impl.Tour{Size: n, Wins: toMemory[:n]}
				label := " of " + from.text + " and " + impl.FormatTour(to)
				checkLists(t, "TriangleWay"+label, func() [][]int {
					way, _ := impl.TriangleWay(t1, t2)
					return way
				}, fromMemory, toMemory)
				checkMemory(t, "TriangleSteps"+label, func() ([]int, string) {
					return nil, impl.FormatInt(impl.TriangleSteps(t1, t2))
				}, fromMemory, toMemory)
				checkLists(t, "TriangleWay to itself"+label, func() [][]int {
					way, _ := impl.TriangleWay(t1, t1)
					return way
				}, fromMemory)
			}
		}
	}
}
