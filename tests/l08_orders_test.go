package tests

import (
	"fmt"
	"math"
	"slices"
	"strconv"
	"strings"
	"sync"
	"testing"

	"loop.example/g03205/impl"
)

// backIn looks, for each game, whether its winner is later in an order than its loser.
func backIn(k known, order []int) [][]int {
	list := [][]int{}
	for a := range k.tour.Size {
		for b := range k.tour.Size {
			if k.beats[a][b] && slices.Index(order, a) > slices.Index(order, b) {
				list = append(list, []int{a, b})
			}
		}
	}
	return list
}

func reversalsIn(k known, order []int) int {
	count := 0
	for i, earlier := range order {
		for _, later := range order[i+1:] {
			if k.beats[later][earlier] {
				count++
			}
		}
	}
	return count
}

// bestOrders are the fewest reversals in orders of a tour, the first one of the orders with so few, and their number.
type bestOrders struct {
	fewest int
	first  []int
	count  int
}

// bestIn goes through the orders in lexicographic order, but leaves those that begin with more reversals than a whole order has.
func bestIn(k known) bestOrders {
	n := k.tour.Size
	best := bestOrders{fewest: n * n}
	var lengthen func(order []int, reversals int)
	lengthen = func(order []int, reversals int) {
		if reversals > best.fewest {
			return
		}
		if len(order) == n {
			if reversals < best.fewest {
				best = bestOrders{fewest: reversals, first: slices.Clone(order)}
			}
			best.count++
			return
		}
		for a := range n {
			if !slices.Contains(order, a) {
				longer := append(slices.Clone(order), a)
				lengthen(longer, reversalsIn(k, longer))
			}
		}
	}
	lengthen(nil, 0)
	return best
}

// movedTo puts a player to another place in an order.
func movedTo(order []int, from int, to int) []int {
	others := slices.Concat(order[:from], order[from+1:])
	return slices.Concat(others[:to], order[from:from+1], others[to:])
}

// betterMovesIn returns the moves of one player that make the reversals less: the indices of the player and of the new place, in lexicographic order.
func betterMovesIn(k known, order []int) [][2]int {
	moves := [][2]int{}
	for from := range order {
		for to := range order {
			if reversalsIn(k, movedTo(order, from, to)) < reversalsIn(k, order) {
				moves = append(moves, [2]int{from, to})
			}
		}
	}
	return moves
}

// improvedIn makes the first one of the moves as long as there is one.
func improvedIn(k known, order []int) []int {
	if moves := betterMovesIn(k, order); len(moves) > 0 {
		return improvedIn(k, movedTo(order, moves[0][0], moves[0][1]))
	}
	return order
}

// toursForOrders returns all tours of up to 5 players, some of 6, 7 and 8, some of several strong parts, and those that are written out.
var toursForOrders = sync.OnceValue(func() []known {
	list := []known{}
	for n := 1; n <= 8; n++ {
		list = append(list, knownTours(n, []int{0, 1, 2, 8, 64, 1024, 512, 256, 128}[n])...)
	}
	for i, k := range builtTours() {
		if k.tour.Size <= 5 || i%5 == 0 {
			list = append(list, k.known)
		}
	}
	for _, w := range writtenOrders {
		list = append(list, knownWithText(w.text))
	}
	return list
})

// fewToursForOrders returns a few tours of each size and those that are written out.
func fewToursForOrders() []known {
	list := someKnownTours()
	for _, w := range writtenOrders {
		list = append(list, knownWithText(w.text))
	}
	return list
}

// manyOrdersOf returns the orders of someOrdersOf, and each one the other way round as well.
func manyOrdersOf(n int) [][]int {
	orders := someOrdersOf(n)
	for _, order := range someOrdersOf(n) {
		slices.Reverse(order)
		orders = append(orders, order)
	}
	return orders
}

// writtenOrders are tours with their FewestReversals, their BestOrder, their CountBestOrders and their FeedbackGames.
var writtenOrders = []struct {
	text   string
	fewest int
	best   []int
	count  int
	games  [][]int
}{
	{"1:", 0, []int{0}, 1, nil},
	{"2:1", 0, []int{0, 1}, 1, nil},
	{"2:0", 0, []int{1, 0}, 1, nil},
	{"3:111", 0, []int{0, 1, 2}, 1, nil},
	{"3:000", 0, []int{2, 1, 0}, 1, nil},
	{"3:100", 0, []int{2, 0, 1}, 1, nil},
	// Three in a circle can begin anywhere.
	{"3:101", 1, []int{0, 1, 2}, 3, [][]int{{2, 0}}},
	{"3:010", 1, []int{0, 2, 1}, 3, [][]int{{1, 0}}},
	{"4:111111", 0, []int{0, 1, 2, 3}, 1, nil},
	{"4:000000", 0, []int{3, 2, 1, 0}, 1, nil},
	{"4:111101", 1, []int{0, 1, 2, 3}, 3, [][]int{{3, 1}}},
	{"4:011011", 1, []int{0, 2, 1, 3}, 3, [][]int{{1, 0}}},
	{"4:110111", 1, []int{0, 1, 2, 3}, 1, [][]int{{3, 0}}},
	{"4:001000", 1, []int{3, 2, 1, 0}, 1, [][]int{{0, 3}}},
	{"5:1111111111", 0, []int{0, 1, 2, 3, 4}, 1, nil},
	{"5:0000000000", 0, []int{4, 3, 2, 1, 0}, 1, nil},
	{"5:1100110111", 3, []int{0, 1, 2, 3, 4}, 5, [][]int{{3, 0}, {4, 0}, {4, 1}}},
	{"5:1101110111", 2, []int{0, 1, 2, 3, 4}, 1, [][]int{{3, 0}, {4, 1}}},
	{"5:1101111111", 1, []int{0, 1, 2, 3, 4}, 1, [][]int{{3, 0}}},
	{"5:1111101111", 1, []int{0, 1, 2, 3, 4}, 3, [][]int{{3, 1}}},
	// The first way through all players, 0, 3, 1, 4, 2, has three reversals.
	{"5:0110001001", 2, []int{3, 1, 4, 0, 2}, 1, [][]int{{0, 3}, {2, 1}}},
	// Two circles can begin anywhere, each one whatever the other one does.
	{"6:101111111111101", 2, []int{0, 1, 2, 3, 4, 5}, 9, [][]int{{2, 0}, {5, 3}}},
	{"6:111101111111111", 1, []int{0, 1, 2, 3, 4, 5}, 1, [][]int{{5, 0}}},
	{"6:101100101000101", 4, []int{0, 4, 1, 5, 3, 2}, 3, [][]int{{2, 0}, {2, 1}, {3, 4}, {5, 0}}},
	{"7:111111111111111111111", 0, []int{0, 1, 2, 3, 4, 5, 6}, 1, nil},
	{"7:000000000000000000000", 0, []int{6, 5, 4, 3, 2, 1, 0}, 1, nil},
	{"7:110100110101101110111", 7, []int{0, 1, 2, 3, 4, 5, 6}, 21, [][]int{{3, 0}, {4, 1}, {5, 0}, {5, 2}, {6, 0}, {6, 1}, {6, 3}}},
	{"7:010101111010100111011", 2, []int{1, 3, 5, 0, 2, 4, 6}, 9, [][]int{{5, 1}, {6, 2}}},
	{"7:011111011111111101111", 2, []int{0, 2, 1, 3, 4, 5, 6}, 9, [][]int{{1, 0}, {5, 3}}},
	{"7:001010010111101111000", 4, []int{2, 1, 0, 3, 6, 5, 4}, 5, [][]int{{4, 0}, {4, 1}, {5, 2}, {6, 0}}},
	{"7:111110111111111111111", 1, []int{0, 1, 2, 3, 4, 5, 6}, 1, [][]int{{6, 0}}},
	{"8:1111111111111111111111111111", 0, []int{0, 1, 2, 3, 4, 5, 6, 7}, 1, nil},
	{"8:0000000000000000000000000000", 0, []int{7, 6, 5, 4, 3, 2, 1, 0}, 1, nil},
	// All beat those after them, but the last one beats the first one.
	{"8:1111110111111111111111111111", 1, []int{0, 1, 2, 3, 4, 5, 6, 7}, 1, [][]int{{7, 0}}},
	{"8:1000000100000100001000100101", 3, []int{6, 7, 4, 5, 2, 3, 0, 1}, 1, [][]int{{1, 2}, {3, 4}, {5, 6}}},
	{"8:1011111111111101111111111101", 3, []int{0, 1, 2, 3, 4, 5, 6, 7}, 15, [][]int{{2, 0}, {4, 2}, {7, 5}}},
	{"8:1010111101010100010000110011", 5, []int{4, 0, 6, 5, 2, 7, 3, 1}, 1, [][]int{{1, 2}, {1, 4}, {1, 6}, {2, 0}, {7, 4}}},
	{"8:1101000011100101010111010111", 7, []int{2, 3, 5, 6, 7, 0, 1, 4}, 1, [][]int{{0, 2}, {1, 3}, {1, 5}, {4, 2}, {4, 3}, {4, 6}, {6, 2}}},
	{"8:0010110001100001100011000011", 8, []int{3, 2, 6, 1, 5, 7, 4, 0}, 15, [][]int{{0, 3}, {0, 5}, {0, 6}, {4, 2}, {4, 3}, {5, 3}, {7, 1}, {7, 2}}},
	{"8:1111000111100111101111111111", 6, []int{0, 1, 2, 3, 4, 5, 6, 7}, 1, [][]int{{5, 0}, {6, 0}, {6, 1}, {7, 0}, {7, 1}, {7, 2}}},
}

// checkBest compares the functions that take nothing but a tour with what is wanted.
func checkBest(t *testing.T, k known, want bestOrders) {
	t.Helper()
	if got := impl.FewestReversals(k.tour); got != want.fewest {
		t.Errorf("FewestReversals(%s) = %d, want %d", k.text, got, want.fewest)
	}
	if got := impl.BestOrder(k.tour); !slices.Equal(got, want.first) {
		t.Errorf("BestOrder(%s) = %v, want %v", k.text, got, want.first)
	}
	if got := impl.CountBestOrders(k.tour); got != want.count {
		t.Errorf("CountBestOrders(%s) = %d, want %d", k.text, got, want.count)
	}
	if got, games := impl.FeedbackGames(k.tour), backIn(k, want.first); !equalLists(got, games) {
		t.Errorf("FeedbackGames(%s) = %v, want %v", k.text, got, games)
	}
}

func TestWrittenBestOrders(t *testing.T) {
	for _, w := range writtenOrders {
		k := knownWithText(w.text)
		checkBest(t, k, bestOrders{w.fewest, w.best, w.count})
		for _, got := range [][][]int{impl.FeedbackGames(k.tour), impl.BackGames(k.tour, w.best)} {
			if !equalLists(got, w.games) {
				t.Errorf("the BackGames of the BestOrder of %s are %v, want %v", w.text, got, w.games)
			}
		}
	}
}

func TestBestOrders(t *testing.T) {
	severalOrders, mostReversals := 0, 0
	for _, k := range toursForOrders() {
		want := bestIn(k)
		checkBest(t, k, want)
		if want.count > 1 {
			severalOrders++
		}
		mostReversals = max(mostReversals, want.fewest)
	}
	if severalOrders == 0 || mostReversals != 8 {
		t.Errorf("%d tours have several best orders, and the greatest FewestReversals is %d, want 8", severalOrders, mostReversals)
	}
}

// TestBestOrdersOfAllOrders takes the numbers of reversals of all orders, as CountReversals returns them.
func TestBestOrdersOfAllOrders(t *testing.T) {
	for n := 1; n <= 7; n++ {
		orders := ordersOf(n)
		slices.SortFunc(orders, slices.Compare)
		for _, k := range knownTours(n, []int{0, 1, 2, 8, 64, 64, 32, 8}[n]) {
			want := bestOrders{fewest: n * n}
			for _, order := range orders {
				reversals := impl.CountReversals(k.tour, order)
				if reversals < want.fewest {
					want = bestOrders{fewest: reversals, first: order}
				}
				if reversals == want.fewest {
					want.count++
				}
			}
			checkBest(t, k, want)
		}
	}
}

// TestBestOrdersOfParts builds the best orders of those of the strong parts, which stand one after the other in them.
func TestBestOrdersOfParts(t *testing.T) {
	for _, k := range builtTours() {
		want := bestOrders{count: 1}
		for _, part := range k.parts {
			players := membersOf(part)
			tour, _ := impl.PartTour(k.tour, part)
			for _, i := range impl.BestOrder(tour) {
				want.first = append(want.first, players[i])
			}
			want.fewest += impl.FewestReversals(tour)
			want.count *= impl.CountBestOrders(tour)
		}
		checkBest(t, k.known, want)
	}
}

// TestBestOrdersAreWays checks that in a best order, and in any settled one, each player beats the next one: otherwise they could exchange their places.
func TestBestOrdersAreWays(t *testing.T) {
	for _, k := range toursForOrders() {
		best := impl.BestOrder(k.tour)
		for _, order := range [][]int{best, impl.ImproveOrder(k.tour, numbersTo(0, k.tour.Size-1))} {
			if !impl.OrderOk(k.tour, order) || !impl.IsWay(k.tour, order) || !impl.IsSettled(k.tour, order) {
				t.Errorf("%v is no settled order of %s", order, k.text)
			}
		}
		if got := impl.ImproveOrder(k.tour, best); !slices.Equal(got, best) {
			t.Errorf("ImproveOrder(%s, %v) = %v, but it is the BestOrder", k.text, best, got)
		}
	}
}

// TestFewestReversalsAndTriangles checks that each triangle has a reversal, and that there are none without triangles.
func TestFewestReversalsAndTriangles(t *testing.T) {
	for _, k := range toursForOrders() {
		fewest := impl.FewestReversals(k.tour)
		if got, want := fewest == 0, impl.IsTransitive(k.tour); got != want {
			t.Errorf("FewestReversals(%s) = %d, and IsTransitive = %v", k.text, fewest, want)
		}
		if packed := len(impl.PackTriangles(k.tour)); fewest < packed {
			t.Errorf("FewestReversals(%s) = %d, but %d triangles have no pair in common", k.text, fewest, packed)
		}
		if order, ok := impl.TransitiveOrder(k.tour); ok && !slices.Equal(impl.BestOrder(k.tour), order) {
			t.Errorf("BestOrder(%s) = %v, but TransitiveOrder = %v", k.text, impl.BestOrder(k.tour), order)
		}
		for _, triangle := range impl.TrianglesOf(k.tour) {
			isBack := slices.ContainsFunc(impl.FeedbackGames(k.tour), func(game []int) bool {
				return slices.Contains(triangle, game[0]) && slices.Contains(triangle, game[1])
			})
			if !isBack {
				t.Errorf("FeedbackGames(%s) = %v has no game of the triangle %v", k.text, impl.FeedbackGames(k.tour), triangle)
			}
		}
	}
}

// TestBestOrdersOfTurnedTours expects as many reversals in as many orders, which are those of the tour before the other way round.
func TestBestOrdersOfTurnedTours(t *testing.T) {
	for _, k := range toursForOrders() {
		turned, _ := impl.TurnTour(k.tour)
		if got, want := impl.FewestReversals(turned), impl.FewestReversals(k.tour); got != want {
			t.Errorf("FewestReversals(TurnTour(%s)) = %d, want %d", k.text, got, want)
		}
		if got, want := impl.CountBestOrders(turned), impl.CountBestOrders(k.tour); got != want {
			t.Errorf("CountBestOrders(TurnTour(%s)) = %d, want %d", k.text, got, want)
		}
		best := impl.BestOrder(turned)
		slices.Reverse(best)
		if got, want := impl.CountReversals(k.tour, best), impl.FewestReversals(k.tour); got != want {
			t.Errorf("CountReversals(%s, %v) = %d, want %d", k.text, best, got, want)
		}
	}
}

func TestBestOrdersForOtherNames(t *testing.T) {
	for _, k := range fewToursForOrders() {
		for _, names := range someOrdersOf(k.tour.Size) {
			renamed, _ := impl.RenameTour(k.tour, names)
			label := fmt.Sprintf("%s, renamed by %v", k.text, names)
			if got, want := impl.FewestReversals(renamed), impl.FewestReversals(k.tour); got != want {
				t.Errorf("FewestReversals(%s) = %d, want %d", label, got, want)
			}
			if got, want := impl.CountBestOrders(renamed), impl.CountBestOrders(k.tour); got != want {
				t.Errorf("CountBestOrders(%s) = %d, want %d", label, got, want)
			}
			// Where there is but one best order, it is that of the new names.
			named := []int{}
			for _, a := range impl.BestOrder(k.tour) {
				named = append(named, names[a])
			}
			if got := impl.BestOrder(renamed); slices.Compare(got, named) > 0 || impl.CountBestOrders(k.tour) == 1 && !slices.Equal(got, named) {
				t.Errorf("BestOrder(%s) = %v, but %v is as good", label, got, named)
			}
			for _, order := range someOrdersOf(k.tour.Size)[:min(5, len(names))] {
				named := []int{}
				for _, a := range order {
					named = append(named, names[a])
				}
				if got, want := impl.CountReversals(renamed, named), impl.CountReversals(k.tour, order); got != want {
					t.Errorf("CountReversals(%s) of %v = %d, want %d", label, named, got, want)
				}
				// The moves go by the places and not by the names of the players.
				improved := impl.ImproveOrder(k.tour, order)
				for i, a := range improved {
					improved[i] = names[a]
				}
				if got := impl.ImproveOrder(renamed, named); !slices.Equal(got, improved) {
					t.Errorf("ImproveOrder(%s) of %v = %v, want %v", label, named, got, improved)
				}
			}
		}
	}
}

// TestBestOrderAgain calls the functions many times, as the order in which a map is ranged over differs from time to time.
func TestBestOrderAgain(t *testing.T) {
	for _, w := range writtenOrders {
		k := knownWithText(w.text)
		for range 30 {
			checkBest(t, k, bestOrders{w.fewest, w.best, w.count})
		}
	}
}

// checkOrder compares all functions with an order, but those that improve it, with what the tests compute.
func checkOrder(t *testing.T, k known, order []int) {
	t.Helper()
	if !impl.OrderOk(k.tour, order) {
		t.Errorf("OrderOk(%s, %v) = false, want true", k.text, order)
	}
	if got, want := impl.CountReversals(k.tour, order), reversalsIn(k, order); got != want {
		t.Errorf("CountReversals(%s, %v) = %d, want %d", k.text, order, got, want)
	}
	games := backIn(k, order)
	if got := impl.BackGames(k.tour, order); !equalLists(got, games) {
		t.Errorf("BackGames(%s, %v) = %v, want %v", k.text, order, got, games)
	}
	beats := k.beats
	for _, game := range games {
		beats = reversedIn(beats, game)
	}
	want := impl.Tour{Size: k.tour.Size, Wins: winsOf(k.tour.Size, beats)}
	if got, ok := impl.StraightenBy(k.tour, order); !ok || !equalTours(got, want) {
		t.Errorf("StraightenBy(%s, %v) = %v, %v, want %v", k.text, order, got, ok, want)
	}
}

// checkImprovement compares ImproveOrder and IsSettled with what the tests compute.
func checkImprovement(t *testing.T, k known, order []int) {
	t.Helper()
	if got, want := impl.ImproveOrder(k.tour, order), improvedIn(k, order); !slices.Equal(got, want) {
		t.Errorf("ImproveOrder(%s, %v) = %v, want %v", k.text, order, got, want)
	}
	if got, want := impl.IsSettled(k.tour, order), len(betterMovesIn(k, order)) == 0; got != want {
		t.Errorf("IsSettled(%s, %v) = %v, want %v", k.text, order, got, want)
	}
}

func TestAllOrders(t *testing.T) {
	for n := 1; n <= 7; n++ {
		orders := ordersOf(n)
		for _, k := range knownTours(n, []int{0, 1, 2, 8, 64, 128, 12, 1}[n]) {
			for _, order := range orders {
				checkOrder(t, k, order)
			}
		}
	}
}

func TestSomeOrders(t *testing.T) {
	for _, k := range toursForOrders() {
		for _, order := range manyOrdersOf(k.tour.Size) {
			checkOrder(t, k, order)
		}
	}
}

func TestAllImprovements(t *testing.T) {
	for n := 1; n <= 6; n++ {
		orders := ordersOf(n)
		for _, k := range knownTours(n, []int{0, 1, 2, 8, 64, 64, 4}[n]) {
			for _, order := range orders {
				checkImprovement(t, k, order)
			}
		}
	}
}

func TestSomeImprovements(t *testing.T) {
	for n := 5; n <= 8; n++ {
		for _, k := range knownTours(n, []int{64, 64, 32, 24}[n-5]) {
			for _, order := range manyOrdersOf(n) {
				checkImprovement(t, k, order)
			}
		}
	}
	for _, w := range writtenOrders {
		k := knownWithText(w.text)
		for _, order := range manyOrdersOf(k.tour.Size) {
			checkImprovement(t, k, order)
		}
	}
}

// writtenImprovements are orders of tours, the moves that ImproveOrder makes, each one by the index of the player and that of the new place, and the order at the end.
var writtenImprovements = []struct {
	text     string
	order    []int
	moves    [][2]int
	improved []int
}{
	{"1:", []int{0}, nil, []int{0}},
	{"2:1", []int{0, 1}, nil, []int{0, 1}},
	{"2:1", []int{1, 0}, [][2]int{{0, 1}}, []int{0, 1}},
	{"2:0", []int{0, 1}, [][2]int{{0, 1}}, []int{1, 0}},
	{"3:111", []int{0, 1, 2}, nil, []int{0, 1, 2}},
	// The first player goes back one place alone, though two places would be better.
	{"3:111", []int{2, 1, 0}, [][2]int{{0, 1}, {1, 2}, {0, 1}}, []int{0, 1, 2}},
	// The second player goes before the third one goes to the front at once.
	{"3:111", []int{1, 2, 0}, [][2]int{{1, 2}, {0, 1}}, []int{0, 1, 2}},
	{"3:111", []int{2, 0, 1}, [][2]int{{0, 1}, {1, 2}}, []int{0, 1, 2}},
	{"3:101", []int{0, 1, 2}, nil, []int{0, 1, 2}},
	{"3:101", []int{2, 1, 0}, [][2]int{{0, 1}}, []int{1, 2, 0}},
	// The last player goes to the front at once: they beat the two others, but not the first one after them.
	{"4:110111", []int{1, 2, 3, 0}, [][2]int{{3, 0}}, []int{0, 1, 2, 3}},
	{"4:110111", []int{3, 2, 1, 0}, [][2]int{{0, 1}, {0, 3}, {0, 1}}, []int{1, 3, 0, 2}},
	{"4:100011", []int{3, 0, 2, 1}, [][2]int{{0, 3}, {0, 1}}, []int{2, 0, 1, 3}},
	// The order at the end has two reversals, and the best one has one.
	{"4:011101", []int{2, 3, 0, 1}, [][2]int{{0, 3}, {0, 1}}, []int{0, 3, 1, 2}},
	{"4:101110", []int{3, 2, 1, 0}, [][2]int{{0, 3}, {0, 1}}, []int{1, 2, 0, 3}},
	{"4:010010", []int{0, 2, 3, 1}, [][2]int{{0, 3}, {0, 1}}, []int{3, 2, 1, 0}},
	// No move makes these better, but there are better orders.
	{"4:001010", []int{1, 3, 2, 0}, nil, []int{1, 3, 2, 0}},
	{"4:100110", []int{3, 0, 1, 2}, nil, []int{3, 0, 1, 2}},
	{"5:0110100111", []int{4, 0, 3, 1, 2}, nil, []int{4, 0, 3, 1, 2}},
	{"6:101001011110011", []int{2, 3, 1, 4, 5, 0}, nil, []int{2, 3, 1, 4, 5, 0}},
	{"5:1010010011", []int{3, 4, 1, 0, 2}, [][2]int{{0, 3}, {1, 2}, {4, 0}}, []int{2, 4, 0, 1, 3}},
	{"5:0110101101", []int{3, 1, 2, 0, 4}, [][2]int{{0, 3}, {1, 2}, {4, 1}}, []int{1, 4, 0, 2, 3}},
	{"5:0000011001", []int{4, 2, 3, 1, 0}, [][2]int{{0, 3}, {0, 1}}, []int{3, 2, 1, 4, 0}},
	{"6:101101001010101", []int{2, 0, 3, 4, 5, 1}, [][2]int{{0, 5}, {3, 0}}, []int{5, 0, 3, 4, 1, 2}},
	{"6:010110110101101", []int{0, 2, 1, 3, 5, 4}, [][2]int{{0, 3}, {4, 1}}, []int{2, 5, 1, 3, 0, 4}},
	{"6:110000110101110", []int{1, 3, 5, 4, 2, 0}, [][2]int{{0, 5}, {3, 0}}, []int{2, 3, 5, 4, 0, 1}},
	{"6:101011011100111", []int{5, 4, 2, 0, 1, 3}, [][2]int{{0, 1}, {1, 4}, {1, 4}, {5, 0}}, []int{3, 4, 0, 1, 5, 2}},
	{"7:010110001101100100110", []int{0, 6, 2, 3, 4, 5, 1}, [][2]int{{0, 1}, {5, 2}, {5, 6}}, []int{6, 0, 5, 2, 3, 1, 4}},
	{"7:000011110100000111101", []int{4, 3, 1, 2, 0, 6, 5}, [][2]int{{0, 1}, {3, 6}, {4, 1}}, []int{3, 6, 4, 1, 0, 5, 2}},
	{"7:010001110101101110100", []int{2, 4, 6, 1, 5, 0, 3}, [][2]int{{0, 5}, {0, 1}, {6, 1}}, []int{6, 3, 4, 1, 5, 0, 2}},
	{"7:111111111111111111111", []int{1, 2, 3, 4, 5, 6, 0}, [][2]int{{5, 6}, {4, 5}, {3, 4}, {2, 3}, {1, 2}, {0, 1}}, []int{0, 1, 2, 3, 4, 5, 6}},
	{"8:1010010011000011111100010010", []int{6, 7, 3, 5, 1, 0, 2, 4}, [][2]int{{0, 1}, {2, 5}, {3, 4}, {6, 0}}, []int{2, 7, 6, 5, 0, 1, 3, 4}},
	{"8:1101110001010101100001001110", []int{7, 5, 3, 2, 1, 6, 4, 0}, [][2]int{{0, 1}, {1, 2}, {1, 6}, {7, 0}}, []int{0, 5, 7, 2, 1, 6, 4, 3}},
	{"8:1100110100111110001001000101", []int{6, 7, 4, 0, 2, 3, 5, 1}, [][2]int{{2, 5}, {2, 5}, {2, 7}, {1, 2}, {5, 0}}, []int{5, 6, 3, 7, 4, 0, 1, 2}},
	{"8:0010001000110001101101111110", []int{7, 4, 2, 5, 0, 1, 3, 6}, [][2]int{{0, 1}, {1, 4}, {5, 2}, {5, 6}, {5, 0}}, []int{3, 4, 2, 1, 5, 0, 7, 6}},
	{"8:1111110111111111111111111111", []int{7, 0, 1, 2, 3, 4, 5, 6}, [][2]int{{0, 3}, {3, 4}, {4, 5}, {5, 6}, {6, 7}}, []int{0, 1, 2, 3, 4, 5, 6, 7}},
}

func TestWrittenImprovements(t *testing.T) {
	for _, w := range writtenImprovements {
		tour := mustParse(t, w.text)
		order := w.order
		for _, move := range w.moves {
			if impl.IsSettled(tour, order) {
				t.Errorf("IsSettled(%s, %v) = true, want false", w.text, order)
			}
			if got := impl.ImproveOrder(tour, order); !slices.Equal(got, w.improved) {
				t.Errorf("ImproveOrder(%s, %v) = %v, want %v", w.text, order, got, w.improved)
			}
			next := movedTo(order, move[0], move[1])
			if impl.CountReversals(tour, next) >= impl.CountReversals(tour, order) {
				t.Errorf("CountReversals(%s, %v) = %d, but %d for %v", w.text, next, impl.CountReversals(tour, next), impl.CountReversals(tour, order), order)
			}
			order = next
		}
		if !slices.Equal(order, w.improved) {
			t.Errorf("the moves %v of %v lead to %v, want %v", w.moves, w.order, order, w.improved)
		}
		if !impl.IsSettled(tour, order) {
			t.Errorf("IsSettled(%s, %v) = false, want true", w.text, order)
		}
		if got := impl.ImproveOrder(tour, order); !slices.Equal(got, order) {
			t.Errorf("ImproveOrder(%s, %v) = %v, want it unchanged", w.text, order, got)
		}
	}
}

// TestSettledOrders checks that improved orders are settled, that best orders are, and that some settled ones are not best.
func TestSettledOrders(t *testing.T) {
	onlySettled := 0
	for _, k := range toursForOrders() {
		fewest := impl.FewestReversals(k.tour)
		for _, order := range someOrdersOf(k.tour.Size) {
			improved := impl.ImproveOrder(k.tour, order)
			reversals := impl.CountReversals(k.tour, improved)
			if !impl.IsSettled(k.tour, improved) || reversals < fewest || reversals > impl.CountReversals(k.tour, order) {
				t.Errorf("ImproveOrder(%s, %v) = %v with %d reversals, the fewest are %d", k.text, order, improved, reversals, fewest)
			}
			if impl.CountReversals(k.tour, order) == fewest && !impl.IsSettled(k.tour, order) {
				t.Errorf("IsSettled(%s, %v) = false, but it has the fewest reversals", k.text, order)
			}
			if reversals > fewest {
				onlySettled++
			}
		}
	}
	if onlySettled == 0 {
		t.Error("all settled orders are best ones")
	}
}

// TestMostReversals takes transitive tours, whose order the other way round has a reversal for each pair.
func TestMostReversals(t *testing.T) {
	for n := 1; n <= 8; n++ {
		for _, order := range manyOrdersOf(n) {
			k := buildTour(slices.Repeat([]int{1}, n), order).known
			turned := slices.Clone(order)
			slices.Reverse(turned)
			if got := impl.CountReversals(k.tour, order); got != 0 {
				t.Errorf("CountReversals(%s, %v) = %d, want 0", k.text, order, got)
			}
			if got, want := impl.CountReversals(k.tour, turned), n*(n-1)/2; got != want {
				t.Errorf("CountReversals(%s, %v) = %d, want %d", k.text, turned, got, want)
			}
			if got, want := len(impl.BackGames(k.tour, turned)), n*(n-1)/2; got != want || len(impl.BackGames(k.tour, order)) != 0 {
				t.Errorf("BackGames(%s, %v) are %d games, want %d, and those of %v are %v", k.text, turned, got, want, order, impl.BackGames(k.tour, order))
			}
			opposite, _ := impl.TurnTour(k.tour)
			if got, ok := impl.StraightenBy(k.tour, turned); !ok || !equalTours(got, opposite) {
				t.Errorf("StraightenBy(%s, %v) = %v, %v, want %v", k.text, turned, got, ok, opposite)
			}
			if got, ok := impl.StraightenBy(k.tour, order); !ok || !equalTours(got, k.tour) {
				t.Errorf("StraightenBy(%s, %v) = %v, %v, want %v", k.text, order, got, ok, k.tour)
			}
			for _, start := range [][]int{order, turned, numbersTo(0, n-1)} {
				if got := impl.ImproveOrder(k.tour, start); !slices.Equal(got, order) {
					t.Errorf("ImproveOrder(%s, %v) = %v, want %v", k.text, start, got, order)
				}
				if got := impl.IsSettled(k.tour, start); got != slices.Equal(start, order) {
					t.Errorf("IsSettled(%s, %v) = %v", k.text, start, got)
				}
			}
			checkBest(t, k, bestOrders{0, order, 1})
		}
	}
}

// TestTurnedOrders checks that each pair is a reversal either in an order or in the same one the other way round.
func TestTurnedOrders(t *testing.T) {
	for _, k := range toursForOrders() {
		n := k.tour.Size
		for _, order := range someOrdersOf(n) {
			turned := slices.Clone(order)
			slices.Reverse(turned)
			if there, back := impl.CountReversals(k.tour, order), impl.CountReversals(k.tour, turned); there+back != n*(n-1)/2 {
				t.Errorf("CountReversals(%s, %v) = %d, and %d the other way round", k.text, order, there, back)
			}
			games := append(impl.BackGames(k.tour, order), impl.BackGames(k.tour, turned)...)
			slices.SortFunc(games, slices.Compare)
			if len(slices.CompactFunc(games, slices.Equal)) != n*(n-1)/2 {
				t.Errorf("BackGames(%s, %v) = %v, with those the other way round", k.text, order, games)
			}
		}
	}
}

// TestStraightenedTours checks that reversing all BackGames makes a tour transitive with this order.
func TestStraightenedTours(t *testing.T) {
	for _, k := range toursForOrders() {
		for _, order := range append(manyOrdersOf(k.tour.Size), impl.BestOrder(k.tour)) {
			straight, ok := impl.StraightenBy(k.tour, order)
			if got, isTransitive := impl.TransitiveOrder(straight); !ok || !isTransitive || !slices.Equal(got, order) {
				t.Errorf("StraightenBy(%s, %v) = %v, %v, with the order %v", k.text, order, straight, ok, got)
			}
			games := impl.BackGames(k.tour, order)
			if got := impl.CountReversals(k.tour, order); got != len(games) || got != impl.CountDifferent(k.tour, straight) {
				t.Errorf("CountReversals(%s, %v) = %d, but %d BackGames, and StraightenBy changes %d results", k.text, order, got, len(games), impl.CountDifferent(k.tour, straight))
			}
			if !slices.IsSortedFunc(games, slices.Compare) {
				t.Errorf("BackGames(%s, %v) = %v, which is not in lexicographic order", k.text, order, games)
			}
			flipped := k.tour
			for _, game := range games {
				if !impl.DoesBeat(k.tour, game[0], game[1]) {
					t.Errorf("BackGames(%s, %v) = %v, but %d does not beat %d", k.text, order, games, game[0], game[1])
				}
				flipped, _ = impl.FlipGame(flipped, game[0], game[1])
			}
			if !impl.SameTour(flipped, straight) {
				t.Errorf("StraightenBy(%s, %v) = %v, but the BackGames flipped make %v", k.text, order, straight, flipped)
			}
		}
	}
}

func TestFeedbackGamesAreReversed(t *testing.T) {
	for _, k := range toursForOrders() {
		games := impl.FeedbackGames(k.tour)
		if len(games) != impl.FewestReversals(k.tour) {
			t.Errorf("FeedbackGames(%s) = %v, want %d games", k.text, games, impl.FewestReversals(k.tour))
		}
		flipped := k.tour
		for _, game := range games {
			flipped, _ = impl.FlipGame(flipped, game[0], game[1])
		}
		if got, ok := impl.TransitiveOrder(flipped); !ok || !slices.Equal(got, impl.BestOrder(k.tour)) {
			t.Errorf("with FeedbackGames(%s) = %v flipped, the order is %v, %v, want %v", k.text, games, got, ok, impl.BestOrder(k.tour))
		}
	}
}

func TestWrittenBackGames(t *testing.T) {
	cases := []struct {
		text     string
		order    []int
		games    [][]int
		straight string
	}{
		{"1:", []int{0}, nil, "1:"},
		{"2:1", []int{0, 1}, nil, "2:1"},
		{"2:1", []int{1, 0}, [][]int{{0, 1}}, "2:0"},
		{"2:0", []int{0, 1}, [][]int{{1, 0}}, "2:1"},
		{"3:101", []int{0, 1, 2}, [][]int{{2, 0}}, "3:111"},
		{"3:101", []int{2, 1, 0}, [][]int{{0, 1}, {1, 2}}, "3:000"},
		// By the winner and not by the places: 2 is later than 0.
		{"3:101", []int{1, 0, 2}, [][]int{{0, 1}, {2, 0}}, "3:011"},
		{"4:110111", []int{0, 1, 2, 3}, [][]int{{3, 0}}, "4:111111"},
		{"4:110111", []int{3, 2, 1, 0}, [][]int{{0, 1}, {0, 2}, {1, 2}, {1, 3}, {2, 3}}, "4:000000"},
		{"4:110111", []int{1, 3, 0, 2}, [][]int{{0, 1}, {2, 3}}, "4:010110"},
		{"5:1010010011", []int{3, 4, 1, 0, 2}, [][]int{{0, 1}, {0, 3}, {1, 3}, {2, 0}, {2, 1}, {2, 4}}, "5:0100100001"},
		{"8:1111110111111111111111111111", []int{7, 0, 1, 2, 3, 4, 5, 6}, [][]int{{1, 7}, {2, 7}, {3, 7}, {4, 7}, {5, 7}, {6, 7}}, "8:1111110111110111101110110100"},
		{"8:1111111111111111111111111111", []int{0, 1, 2, 3, 4, 5, 6, 7}, nil, "8:1111111111111111111111111111"},
	}
	for _, c := range cases {
		tour := mustParse(t, c.text)
		if got := impl.BackGames(tour, c.order); !equalLists(got, c.games) {
			t.Errorf("BackGames(%s, %v) = %v, want %v", c.text, c.order, got, c.games)
		}
		if got := impl.CountReversals(tour, c.order); got != len(c.games) {
			t.Errorf("CountReversals(%s, %v) = %d, want %d", c.text, c.order, got, len(c.games))
		}
		straight, ok := impl.StraightenBy(tour, c.order)
		if got := impl.FormatTour(straight); !ok || got != c.straight {
			t.Errorf("StraightenBy(%s, %v) = %q, %v, want %q", c.text, c.order, got, ok, c.straight)
		}
	}
}

// checkNoOrder expects that a list is no order of a tour to any function.
func checkNoOrder(t *testing.T, tour impl.Tour, order []int) {
	t.Helper()
	if impl.OrderOk(tour, order) || impl.IsSettled(tour, order) {
		t.Errorf("OrderOk(%v, %v) = %v, IsSettled = %v, want false", tour, order, impl.OrderOk(tour, order), impl.IsSettled(tour, order))
	}
	if got := impl.CountReversals(tour, order); got != -1 {
		t.Errorf("CountReversals(%v, %v) = %d, want -1", tour, order, got)
	}
	if got := impl.ImproveOrder(tour, order); len(got) != 0 {
		t.Errorf("ImproveOrder(%v, %v) = %v, want nil", tour, order, got)
	}
	if got := impl.BackGames(tour, order); len(got) != 0 {
		t.Errorf("BackGames(%v, %v) = %v, want nil", tour, order, got)
	}
	if got, ok := impl.StraightenBy(tour, order); !isNothing(got, ok) {
		t.Errorf("StraightenBy(%v, %v) = %v, %v, want nothing", tour, order, got, ok)
	}
}

// TestOrderOkOfAllLists tries all lists of numbers from -1 to Size that are at most one too long.
func TestOrderOkOfAllLists(t *testing.T) {
	for n := 1; n <= 4; n++ {
		orders := ordersOf(n)
		tours := knownTours(n, 8)
		for length := range n + 2 {
			listsOf(length, numbersTo(-1, n), func(list []int) {
				isOrder := slices.ContainsFunc(orders, func(order []int) bool { return slices.Equal(order, list) })
				for _, k := range tours {
					if isOrder {
						checkOrder(t, k, list)
					} else {
						checkNoOrder(t, k.tour, list)
					}
				}
			})
		}
	}
}

func TestBrokenOrders(t *testing.T) {
	for _, k := range fewToursForOrders() {
		n := k.tour.Size
		lists := brokenNames(n)
		for _, order := range manyOrdersOf(n) {
			lists = append(lists, order[1:], order[:n-1], append(slices.Clone(order), order[0]), append([]int{n}, order...), append(slices.Clone(order), order...))
			for at := range n {
				for _, other := range append([]int{n, -order[at] - 1, order[at] + n, order[at] - 64, order[at] + 64, order[at] + 1<<32, order[at] + math.MinInt, order[(at+1)%n]}, oddInts...) {
					list := slices.Clone(order)
					if list[at] != other {
						list[at] = other
						lists = append(lists, list)
					}
				}
			}
		}
		lists = append(lists, make([]int, 1000), slices.Repeat([]int{math.MaxInt}, n), slices.Repeat([]int{math.MinInt}, n))
		for _, list := range lists {
			checkNoOrder(t, k.tour, list)
		}
	}
}

func TestOrdersOfBrokenTours(t *testing.T) {
	tours := brokenTours()
	for _, w := range writtenOrders {
		tours = append(tours, spoiled(mustParse(t, w.text))...)
	}
	for _, broken := range tours {
		if fewest, count := impl.FewestReversals(broken), impl.CountBestOrders(broken); fewest != -1 || count != -1 {
			t.Errorf("FewestReversals(%v) = %d, CountBestOrders = %d, want -1", broken, fewest, count)
		}
		if best, games := impl.BestOrder(broken), impl.FeedbackGames(broken); len(best) != 0 || len(games) != 0 {
			t.Errorf("BestOrder(%v) = %v, FeedbackGames = %v, want nil", broken, best, games)
		}
		for n := range 10 {
			order := numbersTo(0, n-1)
			checkNoOrder(t, broken, order)
			slices.Reverse(order)
			checkNoOrder(t, broken, order)
		}
		for _, list := range [][]int{nil, {-1}, {8}, {0, 0}, {1, 2}, {math.MaxInt, math.MinInt}} {
			checkNoOrder(t, broken, list)
		}
	}
}

func TestBestOrdersLeaveToursAsTheyAre(t *testing.T) {
	for _, k := range fewToursForOrders() {
		memory := append(slices.Clone(k.tour.Wins), 91, 92, 93)
		tour := impl.Tour{Size: k.tour.Size, Wins: memory[:k.tour.Size]}
		checkMemory(t, "BestOrder of "+k.text, func() ([]int, string) { return impl.BestOrder(tour), "" }, memory)
		checkLists(t, "FeedbackGames of "+k.text, func() [][]int { return impl.FeedbackGames(tour) }, memory)
		checkMemory(t, "FewestReversals and CountBestOrders of "+k.text, func() ([]int, string) {
			return []int{impl.FewestReversals(tour), impl.CountBestOrders(tour)}, ""
		}, memory)
	}
}

func TestOrdersLeaveArgumentsAsTheyAre(t *testing.T) {
	for _, k := range fewToursForOrders() {
		n := k.tour.Size
		best := impl.BestOrder(k.tour)
		for _, order := range append(manyOrdersOf(n), best, best[1:], append([]int{0}, best...), []int{}, []int{-1, 8}) {
			winsMemory := append(slices.Clone(k.tour.Wins), 91, 92, 93)
			orderMemory := append(slices.Clone(order), 3, -92, 1)
			tour := impl.Tour{Size: n, Wins: winsMemory[:n]}
			argument := orderMemory[:len(order)]
			label := fmt.Sprintf(" of %s, %v", k.text, order)
			checkMemory(t, "ImproveOrder"+label, func() ([]int, string) { return impl.ImproveOrder(tour, argument), "" }, winsMemory, orderMemory)
			checkLists(t, "BackGames"+label, func() [][]int { return impl.BackGames(tour, argument) }, winsMemory, orderMemory)
			checkMemory(t, "StraightenBy"+label, func() ([]int, string) {
				straight, _ := impl.StraightenBy(tour, argument)
				return straight.Wins, impl.FormatTour(straight)
			}, winsMemory, orderMemory)
			checkMemory(t, "OrderOk, CountReversals and IsSettled"+label, func() ([]int, string) {
				return nil, strings.Join([]string{
					strconv.FormatBool(impl.OrderOk(tour, argument)),
					strconv.Itoa(impl.CountReversals(tour, argument)),
					strconv.FormatBool(impl.IsSettled(tour, argument)),
				}, " ")
			}, winsMemory, orderMemory)
		}
	}
}

// TestOrdersOfSeveralCalls holds the results of several calls and writes into one of them after the other.
func TestOrdersOfSeveralCalls(t *testing.T) {
	for _, k := range fewToursForOrders() {
		best := impl.BestOrder(k.tour)
		results := [][]int{best}
		for range 3 {
			straight, _ := impl.StraightenBy(k.tour, best)
			results = append(results, impl.BestOrder(k.tour), impl.ImproveOrder(k.tour, best), straight.Wins)
			results = append(results, impl.BackGames(k.tour, best)...)
			results = append(results, impl.FeedbackGames(k.tour)...)
		}
		for i, list := range results {
			for at := range list {
				list[at] = -100 - i
			}
		}
		for i, list := range results {
			if slices.ContainsFunc(list, func(number int) bool { return number != -100-i }) {
				t.Errorf("the result %d of %s shares memory with another one", i, k.text)
			}
		}
		if text := impl.FormatTour(k.tour); text != k.text {
			t.Errorf("the tour %s has become %q", k.text, text)
		}
	}
}

// TestKindsOfTours checks that the tours of these tests are of all the kinds that matter.
func TestKindsOfTours(t *testing.T) {
	var transitive, strong, regular, inParts [9]int
	for _, k := range toursForOrders() {
		n := k.tour.Size
		parts := len(partsIn(k))
		scores := knownScores(k)
		switch {
		case isTransitiveIn(k.beats, 255):
			transitive[n]++
		case parts > 1:
			inParts[n]++
		case slices.Max(scores)-slices.Min(scores) <= 1:
			regular[n]++
		default:
			strong[n]++
		}
	}
	for _, c := range []struct {
		name   string
		counts [9]int
		// least is the least size of such tours.
		least int
	}{
		{"transitive tours", transitive, 1},
		{"tours of several strong parts", inParts, 4},
		{"strong tours with nearly equal scores", regular, 3},
		{"other strong tours", strong, 5},
	} {
		for n := c.least; n <= 8; n++ {
			if c.counts[n] == 0 {
				t.Errorf("there are no %s of %d players", c.name, n)
			}
		}
	}
}
