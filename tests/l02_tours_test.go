package tests

import (
	"math"
	"slices"
	"strings"
	"testing"

	"loop.example/g03205/impl"
)

// known is a tour together with its results and its text, which are not computed by the program.
type known struct {
	beats [8][8]bool
	text  string
	tour  impl.Tour
}

// knownTour returns the tour of n players whose results are the digits of code, that of the first pair last.
func knownTour(n int, code int) known {
	k := known{text: string([]byte{byte('0' + n), ':'}), tour: impl.Tour{Size: n, Wins: make([]int, n)}}
	for a := range n {
		for b := a + 1; b < n; b++ {
			if code%2 == 1 {
				k.text += "1"
				k.beats[a][b] = true
			} else {
				k.text += "0"
				k.beats[b][a] = true
			}
			code /= 2
		}
	}
	power := 1
	for b := range n {
		for a := range n {
			if k.beats[a][b] {
				k.tour.Wins[a] += power
			}
		}
		power *= 2
	}
	return k
}

// knownTours returns tours of n players: all of them if there are at most most, and otherwise about as many.
func knownTours(n int, most int) []known {
	codes := 1 << (n * (n - 1) / 2)
	step := 1
	if codes > most {
		// An odd step changes the results of all pairs from tour to tour.
		step = codes/most | 1
	}
	list := []known{}
	for code := 0; code < codes; code += step {
		list = append(list, knownTour(n, code))
	}
	if step > 1 {
		list = append(list, knownTour(n, codes-1))
	}
	return list
}

// allKnownTours returns all tours of up to 5 players and some of 6, 7 and 8.
func allKnownTours() []known {
	list := []known{}
	for n := 1; n <= 8; n++ {
		list = append(list, knownTours(n, 1024)...)
	}
	return list
}

// someKnownTours returns a few tours of each size.
func someKnownTours() []known {
	list := []known{}
	for n := 1; n <= 8; n++ {
		list = append(list, knownTours(n, 4)...)
	}
	return list
}

// writtenTours are tours whose numbers and texts are written out by hand.
var writtenTours = []struct {
	text   string
	wins   []int
	scores []int
	turned string
}{
	{"1:", []int{0}, []int{0}, "1:"},
	{"2:1", []int{2, 0}, []int{1, 0}, "2:0"},
	{"2:0", []int{0, 1}, []int{0, 1}, "2:1"},
	{"3:101", []int{2, 4, 1}, []int{1, 1, 1}, "3:010"},
	{"3:010", []int{4, 1, 2}, []int{1, 1, 1}, "3:101"},
	{"3:111", []int{6, 4, 0}, []int{2, 1, 0}, "3:000"},
	{"3:000", []int{0, 1, 3}, []int{0, 1, 2}, "3:111"},
	{"3:100", []int{2, 0, 3}, []int{1, 0, 2}, "3:011"},
	{"4:110111", []int{6, 12, 8, 1}, []int{2, 2, 1, 1}, "4:001000"},
	// Who beats those that are 1, 2 and 4 places after them in a circle of 7.
	{"7:110100110101101110111", []int{22, 44, 88, 49, 98, 69, 11}, []int{3, 3, 3, 3, 3, 3, 3}, "7:001011001010010001000"},
	{"7:111111111111111111111", []int{126, 124, 120, 112, 96, 64, 0}, []int{6, 5, 4, 3, 2, 1, 0}, "7:000000000000000000000"},
	{"8:1111111111111111111111111111", []int{254, 252, 248, 240, 224, 192, 128, 0}, []int{7, 6, 5, 4, 3, 2, 1, 0}, "8:0000000000000000000000000000"},
	{"8:0000000000000000000000000000", []int{0, 1, 3, 7, 15, 31, 63, 127}, []int{0, 1, 2, 3, 4, 5, 6, 7}, "8:1111111111111111111111111111"},
	{"8:1111110111111111111111111111", []int{126, 252, 248, 240, 224, 192, 128, 1}, []int{6, 6, 5, 4, 3, 2, 1, 1}, "8:0000001000000000000000000000"},
}

// oddInts are ints that are numbers of no player, however many there are.
var oddInts = []int{-1, -2, -8, 8, 9, 31, 32, 63, 64, 65, 256, math.MinInt, math.MinInt + 1, math.MaxInt}

// brokenTours returns values that are no tours.
func brokenTours() []impl.Tour {
	full := []int{510, 508, 504, 496, 480, 448, 384, 256, 0}
	list := []impl.Tour{
		{},
		{Size: 0, Wins: []int{}},
		{Size: 0, Wins: []int{0}},
		{Size: -1},
		{Size: -1, Wins: []int{0}},
		{Size: 8},
		{Size: 9},
		{Size: 9, Wins: full},
		{Size: 9, Wins: full[:8]},
		{Size: 8, Wins: full},
		{Size: 10, Wins: append([]int{1022}, full...)},
		{Size: 64, Wins: make([]int, 64)},
		{Size: 65, Wins: make([]int, 65)},
		{Size: math.MaxInt},
		{Size: math.MinInt},
		{Size: math.MinInt, Wins: []int{0}},
		{Size: 1},
		{Size: 1, Wins: []int{0, 0}},
		// Players who beat themselves.
		{Size: 1, Wins: []int{1}},
		{Size: 2, Wins: []int{3, 0}},
		{Size: 2, Wins: []int{2, 2}},
		{Size: 3, Wins: []int{2, 6, 1}},
		// Two who beat each other, and two of whom none beats the other one.
		{Size: 2, Wins: []int{2, 1}},
		{Size: 2, Wins: []int{0, 0}},
		{Size: 3, Wins: []int{6, 4, 1}},
		{Size: 3, Wins: []int{2, 4, 0}},
		{Size: 4, Wins: []int{6, 12, 8, 3}},
		{Size: 4, Wins: []int{6, 4, 8, 1}},
		// Negative numbers and too great powers of 2.
		{Size: 1, Wins: []int{-1}},
		{Size: 1, Wins: []int{2}},
		{Size: 1, Wins: []int{256}},
		{Size: 1, Wins: []int{math.MinInt}},
		{Size: 2, Wins: []int{-2, 0}},
		{Size: 2, Wins: []int{math.MinInt + 2, 0}},
		{Size: 2, Wins: []int{6, 0}},
		{Size: 2, Wins: []int{2, 4}},
		{Size: 2, Wins: []int{1<<62 + 2, 0}},
		{Size: 2, Wins: []int{1<<32 + 2, 0}},
		{Size: 3, Wins: []int{2, 4, 9}},
		{Size: 3, Wins: []int{2, -4, 1}},
		{Size: 8, Wins: []int{510, 252, 248, 240, 224, 192, 128, 0}},
		{Size: 8, Wins: []int{254, 252, 248, 240, 224, 192, 128, math.MinInt}},
	}
	for _, k := range someKnownTours() {
		list = append(list, spoiled(k.tour)...)
	}
	return list
}

// spoiled returns what a tour becomes by one wrong number, number too few or too many, or other Size.
func spoiled(t impl.Tour) []impl.Tour {
	list := []impl.Tour{
		{Size: t.Size - 1, Wins: t.Wins},
		{Size: t.Size + 1, Wins: t.Wins},
		{Size: -t.Size, Wins: t.Wins},
		{Size: t.Size, Wins: t.Wins[:t.Size-1]},
		{Size: t.Size, Wins: append(slices.Clone(t.Wins), 0)},
	}
	for a := range t.Size {
		for bit := range 64 {
			wins := slices.Clone(t.Wins)
			wins[a] ^= 1 << bit
			list = append(list, impl.Tour{Size: t.Size, Wins: wins})
		}
	}
	return list
}

func equalTours(t, u impl.Tour) bool { return t.Size == u.Size && slices.Equal(t.Wins, u.Wins) }

// isNothing reports whether these are the results of a function that fails.
func isNothing(t impl.Tour, ok bool) bool { return !ok && t.Size == 0 && len(t.Wins) == 0 }

// ordersOf returns all orders of the numbers from 0 up to n.
func ordersOf(n int) [][]int {
	orders := [][]int{{}}
	for k := range n {
		longer := [][]int{}
		for _, order := range orders {
			for at := range k + 1 {
				longer = append(longer, slices.Insert(slices.Clone(order), at, k))
			}
		}
		orders = longer
	}
	return orders
}

// someOrdersOf returns at most 24 orders of the numbers from 0 up to n, with the one in which they ascend.
func someOrdersOf(n int) [][]int {
	if n <= 4 {
		return ordersOf(n)
	}
	list := [][]int{}
	for _, factor := range []int{1, 2, 3, 5, 7} {
		for shift := range 4 {
			order := []int{}
			for k := range n {
				order = append(order, (k*factor+shift)%n)
			}
			if sorted := slices.Sorted(slices.Values(order)); len(slices.Compact(sorted)) == n {
				list = append(list, order)
			}
		}
	}
	// An order that no shift of a circle gives.
	mixed := list[0]
	mixed = append(slices.Clone(mixed[2:]), mixed[1], mixed[0])
	return append(list, mixed)
}

func TestWrittenTours(t *testing.T) {
	for _, w := range writtenTours {
		want := impl.Tour{Size: len(w.wins), Wins: w.wins}
		if !impl.TourOk(want) {
			t.Errorf("TourOk(%v) = false", want)
		}
		if got := impl.FormatTour(want); got != w.text {
			t.Errorf("FormatTour(%v) = %q, want %q", want, got, w.text)
		}
		if got, ok := impl.ParseTour(w.text); !ok || !equalTours(got, want) {
			t.Errorf("ParseTour(%q) = %v, %v, want %v", w.text, got, ok, want)
		}
		if got := impl.ScoresOf(want); !slices.Equal(got, w.scores) {
			t.Errorf("ScoresOf(%s) = %v, want %v", w.text, got, w.scores)
		}
		turned, ok := impl.TurnTour(want)
		if got := impl.FormatTour(turned); !ok || got != w.turned {
			t.Errorf("TurnTour(%s) = %q, %v, want %q", w.text, got, ok, w.turned)
		}
	}
}

func TestMaxPlayers(t *testing.T) {
	if impl.MaxPlayers != 8 {
		t.Errorf("MaxPlayers = %d, want 8", impl.MaxPlayers)
	}
}

func TestTourOk(t *testing.T) {
	for _, k := range allKnownTours() {
		if !impl.TourOk(k.tour) {
			t.Errorf("TourOk(%v) = false, want true", k.tour)
		}
	}
	for _, broken := range brokenTours() {
		if impl.TourOk(broken) {
			t.Errorf("TourOk(%v) = true, want false", broken)
		}
	}
}

// TestTourOkOfAllSmallNumbers tries all lists of numbers from -1 up to a power of 2 that is too great.
func TestTourOkOfAllSmallNumbers(t *testing.T) {
	for n := 1; n <= 4; n++ {
		isKnown := map[[4]int]bool{}
		for _, k := range knownTours(n, 64) {
			isKnown[[4]int(append(slices.Clone(k.tour.Wins), 0, 0, 0))] = true
		}
		numbers := 1<<n + 2
		lists := 1
		for range n {
			lists *= numbers
		}
		for code := range lists {
			wins := []int{}
			for rest := code; len(wins) < n; rest /= numbers {
				wins = append(wins, rest%numbers-1)
			}
			want := isKnown[[4]int(append(slices.Clone(wins), 0, 0, 0))]
			if got := impl.TourOk(impl.Tour{Size: n, Wins: wins}); got != want {
				t.Errorf("TourOk of Size %d and Wins %v = %v, want %v", n, wins, got, want)
			}
		}
	}
}

func TestDoesBeat(t *testing.T) {
	for _, k := range allKnownTours() {
		for a := -1; a <= k.tour.Size; a++ {
			for b := -1; b <= k.tour.Size; b++ {
				want := a >= 0 && b >= 0 && a < k.tour.Size && b < k.tour.Size && k.beats[a][b]
				if got := impl.DoesBeat(k.tour, a, b); got != want {
					t.Errorf("DoesBeat(%s, %d, %d) = %v, want %v", k.text, a, b, got, want)
				}
			}
		}
	}
	for _, k := range someKnownTours() {
		for _, odd := range oddInts {
			if impl.DoesBeat(k.tour, 0, odd) || impl.DoesBeat(k.tour, odd, 0) || impl.DoesBeat(k.tour, odd, odd) {
				t.Errorf("DoesBeat(%s) = true for %d, which is no player", k.text, odd)
			}
		}
	}
	for _, broken := range brokenTours() {
		for a := -1; a <= 8; a++ {
			for b := -1; b <= 8; b++ {
				if impl.DoesBeat(broken, a, b) {
					t.Errorf("DoesBeat(%v, %d, %d) = true, want false", broken, a, b)
				}
			}
		}
	}
}

func TestScores(t *testing.T) {
	for _, k := range allKnownTours() {
		want := []int{}
		for a := range k.tour.Size {
			score := 0
			for b := range k.tour.Size {
				if k.beats[a][b] {
					score++
				}
			}
			want = append(want, score)
			if got := impl.ScoreOf(k.tour, a); got != score {
				t.Errorf("ScoreOf(%s, %d) = %d, want %d", k.text, a, got, score)
			}
		}
		if got := impl.ScoresOf(k.tour); !slices.Equal(got, want) {
			t.Errorf("ScoresOf(%s) = %v, want %v", k.text, got, want)
		}
		for _, a := range append([]int{k.tour.Size}, oddInts...) {
			if got := impl.ScoreOf(k.tour, a); got != -1 {
				t.Errorf("ScoreOf(%s, %d) = %d, want -1", k.text, a, got)
			}
		}
	}
	for _, broken := range brokenTours() {
		if got := impl.ScoresOf(broken); len(got) != 0 {
			t.Errorf("ScoresOf(%v) = %v, want nil", broken, got)
		}
		for a := -1; a <= 9; a++ {
			if got := impl.ScoreOf(broken, a); got != -1 {
				t.Errorf("ScoreOf(%v, %d) = %d, want -1", broken, a, got)
			}
		}
	}
}

func TestTurnTour(t *testing.T) {
	for _, k := range allKnownTours() {
		turned, ok := impl.TurnTour(k.tour)
		want := impl.Tour{Size: k.tour.Size, Wins: make([]int, k.tour.Size)}
		for a := range k.tour.Size {
			for b := range k.tour.Size {
				if k.beats[b][a] {
					want.Wins[a] += 1 << b
				}
			}
		}
		if !ok || !equalTours(turned, want) {
			t.Errorf("TurnTour(%s) = %v, %v, want %v", k.text, turned, ok, want)
		}
		if back, ok := impl.TurnTour(turned); !ok || !equalTours(back, k.tour) {
			t.Errorf("TurnTour(TurnTour(%s)) = %v, %v, want %v", k.text, back, ok, k.tour)
		}
	}
	for _, broken := range brokenTours() {
		if got, ok := impl.TurnTour(broken); !isNothing(got, ok) {
			t.Errorf("TurnTour(%v) = %v, %v, want nothing", broken, got, ok)
		}
	}
}

func TestRenameTour(t *testing.T) {
	for _, k := range allKnownTours() {
		for _, names := range someOrdersOf(k.tour.Size) {
			want := impl.Tour{Size: k.tour.Size, Wins: make([]int, k.tour.Size)}
			back := make([]int, len(names))
			for a, name := range names {
				back[name] = a
				for b, other := range names {
					if k.beats[a][b] {
						want.Wins[name] += 1 << other
					}
				}
			}
			renamed, ok := impl.RenameTour(k.tour, names)
			if !ok || !equalTours(renamed, want) {
				t.Errorf("RenameTour(%s, %v) = %v, %v, want %v", k.text, names, renamed, ok, want)
			}
			if again, ok := impl.RenameTour(renamed, back); !ok || !equalTours(again, k.tour) {
				t.Errorf("RenameTour(%s, %v) does not come back: %v, %v", k.text, names, again, ok)
			}
		}
	}
}

func TestRenameTourByWrittenNames(t *testing.T) {
	cases := []struct {
		text    string
		names   []int
		renamed string
	}{
		{"4:110111", []int{1, 2, 3, 0}, "4:100111"},
		{"4:110111", []int{3, 0, 1, 2}, "4:110101"},
		{"4:110111", []int{0, 1, 2, 3}, "4:110111"},
		{"3:111", []int{2, 0, 1}, "3:100"},
		{"3:111", []int{1, 2, 0}, "3:001"},
		{"2:1", []int{1, 0}, "2:0"},
		{"1:", []int{0}, "1:"},
		{"7:110100110101101110111", []int{1, 2, 3, 4, 5, 6, 0}, "7:110100110101101110111"},
		{"8:1111111111111111111111111111", []int{7, 6, 5, 4, 3, 2, 1, 0}, "8:0000000000000000000000000000"},
	}
	for _, c := range cases {
		tour, _ := impl.ParseTour(c.text)
		renamed, ok := impl.RenameTour(tour, c.names)
		if got := impl.FormatTour(renamed); !ok || got != c.renamed {
			t.Errorf("RenameTour(%s, %v) = %q, %v, want %q", c.text, c.names, got, ok, c.renamed)
		}
	}
}

// brokenNames returns lists that are no names of n players.
func brokenNames(n int) [][]int {
	identity := []int{}
	for k := range n {
		identity = append(identity, k)
	}
	list := [][]int{nil, {}, identity[:n-1], append(slices.Clone(identity), n), append(slices.Clone(identity), 0), append(slices.Clone(identity), -1)}
	for at := range n {
		for _, other := range append([]int{n, n + 1, (at + 1) % n}, oddInts...) {
			if other != at {
				names := slices.Clone(identity)
				names[at] = other
				list = append(list, names)
			}
		}
	}
	return list
}

func TestRenameTourRefusesOtherNames(t *testing.T) {
	for _, k := range someKnownTours() {
		for _, names := range brokenNames(k.tour.Size) {
			if got, ok := impl.RenameTour(k.tour, names); !isNothing(got, ok) {
				t.Errorf("RenameTour(%s, %v) = %v, %v, want nothing", k.text, names, got, ok)
			}
		}
	}
	for _, broken := range brokenTours() {
		for n := range 10 {
			identity := []int{0, 1, 2, 3, 4, 5, 6, 7, 8}[:n]
			if got, ok := impl.RenameTour(broken, identity); !isNothing(got, ok) {
				t.Errorf("RenameTour(%v, %v) = %v, %v, want nothing", broken, identity, got, ok)
			}
		}
	}
}

func TestFlipGame(t *testing.T) {
	for _, k := range allKnownTours() {
		for a := -1; a <= k.tour.Size; a++ {
			for b := -1; b <= k.tour.Size; b++ {
				flipped, ok := impl.FlipGame(k.tour, a, b)
				if a < 0 || b < 0 || a == k.tour.Size || b == k.tour.Size || a == b {
					if !isNothing(flipped, ok) {
						t.Errorf("FlipGame(%s, %d, %d) = %v, %v, want nothing", k.text, a, b, flipped, ok)
					}
					continue
				}
				want := slices.Clone(k.tour.Wins)
				if k.beats[a][b] {
					want[a] -= 1 << b
					want[b] += 1 << a
				} else {
					want[a] += 1 << b
					want[b] -= 1 << a
				}
				if !ok || flipped.Size != k.tour.Size || !slices.Equal(flipped.Wins, want) {
					t.Errorf("FlipGame(%s, %d, %d) = %v, %v, want %v", k.text, a, b, flipped, ok, want)
				}
				if again, ok := impl.FlipGame(flipped, b, a); !ok || !equalTours(again, k.tour) {
					t.Errorf("FlipGame(%s) of %d and %d does not come back: %v, %v", k.text, a, b, again, ok)
				}
			}
		}
	}
}

func TestFlipGameRefuses(t *testing.T) {
	for _, k := range someKnownTours() {
		for _, odd := range oddInts {
			for _, pair := range [][2]int{{0, odd}, {odd, 0}, {odd, odd}} {
				if got, ok := impl.FlipGame(k.tour, pair[0], pair[1]); !isNothing(got, ok) {
					t.Errorf("FlipGame(%s, %v) = %v, %v, want nothing", k.text, pair, got, ok)
				}
			}
		}
	}
	for _, broken := range brokenTours() {
		for _, pair := range [][2]int{{0, 0}, {0, 1}, {1, 0}, {1, 2}, {7, 0}, {7, 8}, {-1, 0}} {
			if got, ok := impl.FlipGame(broken, pair[0], pair[1]); !isNothing(got, ok) {
				t.Errorf("FlipGame(%v, %v) = %v, %v, want nothing", broken, pair, got, ok)
			}
		}
	}
}

func TestPartTour(t *testing.T) {
	for n := 1; n <= 8; n++ {
		for _, k := range knownTours(n, 64) {
			for set := 1; set < 1<<n; set++ {
				players := []int{}
				for a := range n {
					if set/(1<<a)%2 == 1 {
						players = append(players, a)
					}
				}
				want := impl.Tour{Size: len(players), Wins: make([]int, len(players))}
				for i, a := range players {
					for j, b := range players {
						if k.beats[a][b] {
							want.Wins[i] += 1 << j
						}
					}
				}
				if part, ok := impl.PartTour(k.tour, set); !ok || !equalTours(part, want) {
					t.Errorf("PartTour(%s, %d) = %v, %v, want %v", k.text, set, part, ok, want)
				}
			}
		}
	}
}

func TestPartTourOfWrittenSets(t *testing.T) {
	cases := []struct {
		text string
		set  int
		part string
	}{
		{"4:110111", 11, "3:101"},
		{"4:110111", 15, "4:110111"},
		{"4:110111", 9, "2:0"},
		{"4:110111", 14, "3:111"},
		{"4:110111", 8, "1:"},
		{"2:1", 3, "2:1"},
		{"2:1", 2, "1:"},
		{"1:", 1, "1:"},
		{"7:110100110101101110111", 1 + 2 + 8, "3:101"},
		{"7:110100110101101110111", 2 + 4 + 16, "3:101"},
		{"7:110100110101101110111", 1 + 2 + 4, "3:111"},
		{"8:1111110111111111111111111111", 1 + 64 + 128, "3:101"},
	}
	for _, c := range cases {
		tour, _ := impl.ParseTour(c.text)
		part, ok := impl.PartTour(tour, c.set)
		if got := impl.FormatTour(part); !ok || got != c.part {
			t.Errorf("PartTour(%s, %d) = %q, %v, want %q", c.text, c.set, got, ok, c.part)
		}
	}
}

func TestPartTourRefuses(t *testing.T) {
	for _, k := range someKnownTours() {
		all := 1<<k.tour.Size - 1
		for _, set := range []int{0, -1, -2, all + 1, all + 2, all + all + 1, -all, math.MinInt, math.MinInt + 1, math.MaxInt, 1 << 62, 1 << 32} {
			if got, ok := impl.PartTour(k.tour, set); !isNothing(got, ok) {
				t.Errorf("PartTour(%s, %d) = %v, %v, want nothing", k.text, set, got, ok)
			}
		}
	}
	for _, broken := range brokenTours() {
		for _, set := range []int{-1, 0, 1, 2, 3, 7, 255, 511} {
			if got, ok := impl.PartTour(broken, set); !isNothing(got, ok) {
				t.Errorf("PartTour(%v, %d) = %v, %v, want nothing", broken, set, got, ok)
			}
		}
	}
}

// differentResults counts, from the texts of two tours, the pairs with different results; -1 for different sizes.
func differentResults(a, b known) int {
	if a.tour.Size != b.tour.Size {
		return -1
	}
	different := 0
	for i := range a.text {
		if a.text[i] != b.text[i] {
			different++
		}
	}
	return different
}

func TestCompareTours(t *testing.T) {
	list := []known{}
	for n := 1; n <= 8; n++ {
		list = append(list, knownTours(n, 64)...)
	}
	for _, a := range list {
		for _, b := range list {
			want := differentResults(a, b)
			if got := impl.CountDifferent(a.tour, b.tour); got != want {
				t.Errorf("CountDifferent(%s, %s) = %d, want %d", a.text, b.text, got, want)
			}
			if got := impl.SameTour(a.tour, b.tour); got != (want == 0) {
				t.Errorf("SameTour(%s, %s) = %v, want %v", a.text, b.text, got, want == 0)
			}
		}
	}
}

func TestCompareBrokenTours(t *testing.T) {
	for _, broken := range brokenTours() {
		others := []impl.Tour{broken, {}}
		for _, k := range someKnownTours() {
			others = append(others, k.tour)
		}
		for _, other := range others {
			if impl.SameTour(broken, other) || impl.SameTour(other, broken) {
				t.Errorf("SameTour of %v and %v = true, want false", broken, other)
			}
			if a, b := impl.CountDifferent(broken, other), impl.CountDifferent(other, broken); a != -1 || b != -1 {
				t.Errorf("CountDifferent of %v and %v = %d and %d, want -1", broken, other, a, b)
			}
		}
	}
}

func TestTextsOfTours(t *testing.T) {
	for _, k := range allKnownTours() {
		if got := impl.FormatTour(k.tour); got != k.text {
			t.Errorf("FormatTour(%v) = %q, want %q", k.tour, got, k.text)
		}
		if got, ok := impl.ParseTour(k.text); !ok || !equalTours(got, k.tour) {
			t.Errorf("ParseTour(%q) = %v, %v, want %v", k.text, got, ok, k.tour)
		}
	}
	for _, broken := range brokenTours() {
		if got := impl.FormatTour(broken); got != "" {
			t.Errorf("FormatTour(%v) = %q, want the empty string", broken, got)
		}
	}
}

func TestParseTourRefusesOtherTexts(t *testing.T) {
	texts := []string{
		"", ":", "::", "1", "2", "21", "3101", "8", "1:1", "1:0", "1::", ":1:", "1: ", " 1:", "1 :", "1:\n", "1;", "\x001:", "1:\x00",
		"0", "0:", "0:0", "0:1", "-0:", "00:", "-1:", "-2:1", "+1:", "+2:1", "+3:101", "01:", "02:1", "03:101", "003:101",
		"9:", "9:1", "9:" + strings.Repeat("1", 36), "9:" + strings.Repeat("1", 28), "10:", "10:" + strings.Repeat("0", 45), "11:", "12:1", "16:",
		"18446744073709551617:", "18446744073709551619:101", "4294967299:101", "259:101", "9223372036854775807:", "-9223372036854775808:",
		"2:", "2:01", "2:11", "2:2", "2:-", "2:/", "2:\xff", "2:\x00", "2:\x01", "2: ", "2:1 ", "2:1\n", "2:1:", "2::1", "2:one", "2:+", "2:\u0661",
		"3:10", "3:1", "3:", "3:1011", "3:10101", "3:102", "3:201", "3:121", "3:1 1", "3:1,0,1", "3:-101", "3:+10", "3:0x1", "3:10\xff", "3:\xff01", "3:1\x80" + "1",
		"3,101", "3 101", "3.101", "3;101", "three:101", "\uff13:101", "3\uff1a101", "3:\uff11\uff10\uff11", "3:1\u0660",
		"8:", "8:" + strings.Repeat("1", 27), "8:" + strings.Repeat("1", 29), "8:" + strings.Repeat("1", 5000), "8:" + strings.Repeat("1", 27) + "2", strings.Repeat("8", 5000) + ":",
		"8:" + strings.Repeat("2", 28), "7:" + strings.Repeat("1", 28), "8:" + strings.Repeat("1", 21),
	}
	for _, text := range texts {
		if got, ok := impl.ParseTour(text); !isNothing(got, ok) {
			t.Errorf("ParseTour(%.60q) = %v, %v, want nothing", text, got, ok)
		}
	}
}

func TestParseTourOfEveryShortText(t *testing.T) {
	wanted := map[string]impl.Tour{}
	for n := 1; n <= 3; n++ {
		for _, k := range knownTours(n, 8) {
			wanted[k.text] = k.tour
		}
	}
	for _, text := range textsOver("0123:-\xff", 6) {
		want, isWanted := wanted[text]
		if got, ok := impl.ParseTour(text); ok != isWanted || !equalTours(got, want) {
			t.Errorf("ParseTour(%q) = %v, %v, want %v, %v", text, got, ok, want, isWanted)
		}
	}
}

func TestParseTourForEveryByte(t *testing.T) {
	for _, b := range everyByte() {
		if got, ok := impl.ParseTour("3:1" + b + "1"); ok != (b == "0" || b == "1") {
			t.Errorf("ParseTour(%q) = %v, %v", "3:1"+b+"1", got, ok)
		}
		if got, ok := impl.ParseTour("3" + b + "101"); ok != (b == ":") {
			t.Errorf("ParseTour(%q) = %v, %v", "3"+b+"101", got, ok)
		}
		if got, ok := impl.ParseTour(b + ":101"); ok != (b == "3") {
			t.Errorf("ParseTour(%q) = %v, %v", b+":101", got, ok)
		}
		for _, text := range []string{b + "3:101", "3:101" + b} {
			if got, ok := impl.ParseTour(text); !isNothing(got, ok) {
				t.Errorf("ParseTour(%q) = %v, %v, want nothing", text, got, ok)
			}
		}
	}
}

func TestOneDifferenceIsOneGame(t *testing.T) {
	for _, k := range allKnownTours() {
		for a := range k.tour.Size {
			for b := range a {
				flipped, _ := impl.FlipGame(k.tour, a, b)
				if impl.CountDifferent(k.tour, flipped) != 1 || impl.SameTour(k.tour, flipped) {
					t.Errorf("FlipGame(%s, %d, %d) = %s", k.text, a, b, impl.FormatTour(flipped))
				}
			}
		}
		turned, _ := impl.TurnTour(k.tour)
		if pairs := len(k.text) - 2; impl.CountDifferent(k.tour, turned) != pairs {
			t.Errorf("TurnTour(%s) = %s", k.text, impl.FormatTour(turned))
		}
	}
}

// callsOn returns calls of the functions with the tour t, of which each one returns the list or the text that the function makes.
func callsOn(t impl.Tour, names []int) map[string]func() ([]int, string) {
	tour := func(u impl.Tour, ok bool) ([]int, string) { return u.Wins, impl.FormatTour(u) }
	set := 1<<t.Size - 1
	return map[string]func() ([]int, string){
		"TourOk":         func() ([]int, string) { impl.TourOk(t); return nil, "" },
		"DoesBeat":       func() ([]int, string) { impl.DoesBeat(t, 1, 0); return nil, "" },
		"ScoreOf":        func() ([]int, string) { impl.ScoreOf(t, 0); return nil, "" },
		"ScoresOf":       func() ([]int, string) { return impl.ScoresOf(t), "" },
		"TurnTour":       func() ([]int, string) { return tour(impl.TurnTour(t)) },
		"RenameTour":     func() ([]int, string) { return tour(impl.RenameTour(t, names)) },
		"FlipGame":       func() ([]int, string) { return tour(impl.FlipGame(t, 0, t.Size-1)) },
		"PartTour":       func() ([]int, string) { return tour(impl.PartTour(t, set)) },
		"PartTour of 1":  func() ([]int, string) { return tour(impl.PartTour(t, 1)) },
		"SameTour":       func() ([]int, string) { impl.SameTour(t, t); return nil, "" },
		"CountDifferent": func() ([]int, string) { impl.CountDifferent(t, t); return nil, "" },
		"FormatTour":     func() ([]int, string) { return nil, impl.FormatTour(t) },
		"ParseTour":      func() ([]int, string) { return tour(impl.ParseTour(impl.FormatTour(t))) },
	}
}

// checkMemory calls a function twice and writes into the memory of its result in between. The memories are those of its arguments, spare memory included.
func checkMemory(t *testing.T, label string, call func() ([]int, string), memories ...[]int) {
	t.Helper()
	was := slices.Concat(memories...)
	result, text := call()
	before := slices.Clone(result)
	result = result[:cap(result)]
	for i := range result {
		result[i] = -77
	}
	if is := slices.Concat(memories...); !slices.Equal(is, was) {
		t.Fatalf("%s changes or returns the memory of an argument: %v, before %v", label, is, was)
	}
	if again, sameText := call(); !slices.Equal(again, before) || sameText != text {
		t.Fatalf("%s returns %v, %q and then %v, %q", label, before, text, again, sameText)
	}
}

func TestToursStayAsTheyAre(t *testing.T) {
	for _, k := range someKnownTours() {
		n := k.tour.Size
		for _, names := range someOrdersOf(n) {
			winsMemory := append(slices.Clone(k.tour.Wins), 91, 92, 93)
			namesMemory := append(slices.Clone(names), 94, 95, 96)
			tour := impl.Tour{Size: n, Wins: winsMemory[:n]}
			for function, call := range callsOn(tour, namesMemory[:n]) {
				checkMemory(t, function+" of "+k.text, call, winsMemory, namesMemory)
			}
		}
	}
}
