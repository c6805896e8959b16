package tests

import (
	"math/bits"
	"slices"
	"strings"
	"testing"

	"loop.example/g03205/impl"
)

// knownBy returns the tour of n players with these results.
func knownBy(n int, beats [8][8]bool) known {
	code := 0
	digit := 1
	for a := range n {
		for b := a + 1; b < n; b++ {
			if beats[a][b] {
				code += digit
			}
			digit *= 2
		}
	}
	return knownTour(n, code)
}

// reachesIn joins ways over ever more players in between; everybody reaches themselves.
func reachesIn(k known) [8][8]bool {
	reaches := k.beats
	for a := range k.tour.Size {
		reaches[a][a] = true
	}
	for between := range k.tour.Size {
		for a := range k.tour.Size {
			for b := range k.tour.Size {
				if reaches[a][between] && reaches[between][b] {
					reaches[a][b] = true
				}
			}
		}
	}
	return reaches
}

// reachSetsIn returns the set of the players whom each one reaches.
func reachSetsIn(k known) []int {
	reaches := reachesIn(k)
	sets := make([]int, k.tour.Size)
	for a := range sets {
		for b := range sets {
			if reaches[a][b] {
				sets[a] += 1 << b
			}
		}
	}
	return sets
}

func isStrongIn(k known) bool {
	for _, set := range reachSetsIn(k) {
		if set != 1<<k.tour.Size-1 {
			return false
		}
	}
	return true
}

// partsIn puts players together who reach each other, and then each part before those whose players its players beat.
func partsIn(k known) []int {
	reaches := reachesIn(k)
	parts := []int{}
	for a := range k.tour.Size {
		part := 0
		for b := range k.tour.Size {
			if reaches[a][b] && reaches[b][a] {
				part += 1 << b
			}
		}
		if !slices.Contains(parts, part) {
			parts = append(parts, part)
		}
	}
	slices.SortFunc(parts, func(p, q int) int {
		switch {
		case p == q:
			return 0
		case k.beats[bits.TrailingZeros(uint(p))][bits.TrailingZeros(uint(q))]:
			return -1
		}
		return 1
	})
	return parts
}

// isTransitiveIn looks for three players of a set of whom each one beats exactly one of the others.
func isTransitiveIn(beats [8][8]bool, set int) bool {
	return !slices.ContainsFunc(trianglesIn(beats), func(list []int) bool {
		return set>>list[0]%2 == 1 && set>>list[1]%2 == 1 && set>>list[2]%2 == 1
	})
}

func largestTransitiveIn(k known) int {
	for players := k.tour.Size; ; players-- {
		for set := range 1 << k.tour.Size {
			if bits.OnesCount(uint(set)) == players && isTransitiveIn(k.beats, set) {
				return set
			}
		}
	}
}

// weakestIn returns nil for a tour that is not strong.
func weakestIn(k known) [][]int {
	if !isStrongIn(k) {
		return nil
	}
	list := [][]int{}
	for a := range k.tour.Size {
		for b := range k.tour.Size {
			if k.beats[a][b] && !isStrongIn(knownBy(k.tour.Size, reversedIn(k.beats, []int{a, b}))) {
				list = append(list, []int{a, b})
			}
		}
	}
	return list
}

// writtenParts are tours whose sets are written out by hand: those whom each player reaches, the strong parts, and the largest transitive one; and the games of WeakestGames.
var writtenParts = []struct {
	text    string
	reach   []int
	parts   []int
	largest int
	weakest [][]int
}{
	{"1:", []int{1}, []int{1}, 1, nil},
	{"2:1", []int{3, 2}, []int{1, 2}, 3, nil},
	{"2:0", []int{1, 3}, []int{2, 1}, 3, nil},
	{"3:111", []int{7, 6, 4}, []int{1, 2, 4}, 7, nil},
	{"3:000", []int{1, 3, 7}, []int{4, 2, 1}, 7, nil},
	{"3:100", []int{3, 2, 7}, []int{4, 1, 2}, 7, nil},
	// Each game is needed, whichever way the circle goes.
	{"3:101", []int{7, 7, 7}, []int{7}, 3, [][]int{{0, 1}, {1, 2}, {2, 0}}},
	{"3:010", []int{7, 7, 7}, []int{7}, 3, [][]int{{0, 2}, {1, 0}, {2, 1}}},
	{"4:111111", []int{15, 14, 12, 8}, []int{1, 2, 4, 8}, 15, nil},
	// A part of three players is the last one, and then the first one.
	{"4:111101", []int{15, 14, 14, 14}, []int{1, 14}, 7, nil},
	{"4:011011", []int{15, 15, 15, 8}, []int{7, 8}, 11, nil},
	{"4:110111", []int{15, 15, 15, 15}, []int{15}, 7, [][]int{{0, 1}, {2, 3}, {3, 0}}},
	{"4:001000", []int{15, 15, 15, 15}, []int{15}, 7, [][]int{{0, 3}, {1, 0}, {3, 2}}},
	// It is in the middle.
	{"5:1111101111", []int{31, 30, 30, 30, 16}, []int{1, 14, 16}, 23, nil},
	{"5:1101111111", []int{31, 31, 31, 31, 16}, []int{15, 16}, 23, nil},
	// It is strong with any one game flipped.
	{"5:1100110111", []int{31, 31, 31, 31, 31}, []int{31}, 7, nil},
	// 0, 1 and 4 would be a set before in lexicographic order, but it is the number 19.
	{"5:0110001001", []int{31, 31, 31, 31, 31}, []int{31}, 13, [][]int{{0, 3}, {2, 1}}},
	{"7:111111111111111111111", []int{127, 126, 124, 120, 112, 96, 64}, []int{1, 2, 4, 8, 16, 32, 64}, 127, nil},
	{"7:000000000000000000000", []int{1, 3, 7, 15, 31, 63, 127}, []int{64, 32, 16, 8, 4, 2, 1}, 127, nil},
	{"7:110100110101101110111", []int{127, 127, 127, 127, 127, 127, 127}, []int{127}, 7, nil},
	{"7:011111011111111101111", []int{127, 127, 127, 120, 120, 120, 64}, []int{7, 56, 64}, 91, nil},
	// 1, 3 and 5 beat 0, who beats 2, 4 and 6.
	{"7:010101111010100111011", []int{85, 127, 84, 127, 84, 127, 84}, []int{42, 1, 84}, 31, nil},
	{"8:1111111111111111111111111111", []int{255, 254, 252, 248, 240, 224, 192, 128}, []int{1, 2, 4, 8, 16, 32, 64, 128}, 255, nil},
	{"8:0000000000000000000000000000", []int{1, 3, 7, 15, 31, 63, 127, 255}, []int{128, 64, 32, 16, 8, 4, 2, 1}, 255, nil},
	{"8:1111111111111111111111111010", []int{255, 254, 252, 248, 240, 224, 224, 224}, []int{1, 2, 4, 8, 16, 224}, 127, nil},
	{"8:1011111111111111110111011111", []int{255, 255, 255, 248, 248, 248, 192, 128}, []int{7, 56, 64, 128}, 219, nil},
	{"8:1011111111111101111111111101", []int{255, 255, 255, 255, 255, 224, 224, 224}, []int{31, 224}, 123, nil},
	// All beat those after them, but the last one beats the first one.
	{"8:1111110111111111111111111111", []int{255, 255, 255, 255, 255, 255, 255, 255}, []int{255}, 127, [][]int{{0, 1}, {6, 7}, {7, 0}}},
	{"8:1010111101010100010000110011", []int{255, 255, 255, 255, 255, 255, 255, 255}, []int{255}, 121, [][]int{{3, 1}}},
}

func TestWrittenParts(t *testing.T) {
	for _, w := range writtenParts {
		tour := mustParse(t, w.text)
		for a, want := range w.reach {
			if got := impl.ReachOf(tour, a); got != want {
				t.Errorf("ReachOf(%s, %d) = %d, want %d", w.text, a, got, want)
			}
		}
		if got := impl.StrongParts(tour); !slices.Equal(got, w.parts) {
			t.Errorf("StrongParts(%s) = %v, want %v", w.text, got, w.parts)
		}
		if got, want := impl.IsStrong(tour), len(w.parts) == 1; got != want {
			t.Errorf("IsStrong(%s) = %v, want %v", w.text, got, want)
		}
		if got, want := impl.IsTransitive(tour), len(w.parts) == len(w.reach); got != want {
			t.Errorf("IsTransitive(%s) = %v, want %v", w.text, got, want)
		}
		if got := impl.LargestTransitive(tour); got != w.largest {
			t.Errorf("LargestTransitive(%s) = %d, want %d", w.text, got, w.largest)
		}
		if got := impl.WeakestGames(tour); !equalLists(got, w.weakest) {
			t.Errorf("WeakestGames(%s) = %v, want %v", w.text, got, w.weakest)
		}
	}
}

func TestWrittenOrders(t *testing.T) {
	cases := []struct {
		text  string
		order []int
	}{
		{"1:", []int{0}},
		{"2:1", []int{0, 1}},
		{"2:0", []int{1, 0}},
		{"3:111", []int{0, 1, 2}},
		{"3:100", []int{2, 0, 1}},
		{"3:011", []int{1, 0, 2}},
		{"4:111111", []int{0, 1, 2, 3}},
		{"4:100001", []int{2, 3, 0, 1}},
		{"7:000000000000000000000", []int{6, 5, 4, 3, 2, 1, 0}},
		{"7:010101101010101101011", []int{5, 3, 1, 0, 2, 4, 6}},
		{"8:1111111111111111111111111111", []int{0, 1, 2, 3, 4, 5, 6, 7}},
		{"8:0000000000000000000000000000", []int{7, 6, 5, 4, 3, 2, 1, 0}},
	}
	for _, c := range cases {
		tour := mustParse(t, c.text)
		if got, ok := impl.TransitiveOrder(tour); !ok || !slices.Equal(got, c.order) {
			t.Errorf("TransitiveOrder(%s) = %v, %v, want %v", c.text, got, ok, c.order)
		}
		if !impl.IsTransitive(tour) {
			t.Errorf("IsTransitive(%s) = false, want true", c.text)
		}
	}
}

// checkParts compares all functions about strong parts with the sets that are wanted.
func checkParts(t *testing.T, k known, parts []int) {
	t.Helper()
	if got := impl.StrongParts(k.tour); !slices.Equal(got, parts) {
		t.Errorf("StrongParts(%s) = %v, want %v", k.text, got, parts)
	}
	if got, want := impl.IsStrong(k.tour), len(parts) == 1; got != want {
		t.Errorf("IsStrong(%s) = %v, want %v", k.text, got, want)
	}
	reach := 0
	for index := len(parts) - 1; index >= 0; index-- {
		reach += parts[index]
		for a := range k.tour.Size {
			if parts[index]>>a%2 == 0 {
				continue
			}
			if got := impl.ReachOf(k.tour, a); got != reach {
				t.Errorf("ReachOf(%s, %d) = %d, want %d", k.text, a, got, reach)
			}
			if got := impl.PartOf(k.tour, a); got != index {
				t.Errorf("PartOf(%s, %d) = %d, want %d", k.text, a, got, index)
			}
		}
	}
}

func TestStrongParts(t *testing.T) {
	for _, k := range allKnownTours() {
		checkParts(t, k, partsIn(k))
		for a, want := range reachSetsIn(k) {
			if got := impl.ReachOf(k.tour, a); got != want {
				t.Errorf("ReachOf(%s, %d) = %d, want %d", k.text, a, got, want)
			}
		}
		if got, want := impl.IsStrong(k.tour), isStrongIn(k); got != want {
			t.Errorf("IsStrong(%s) = %v, want %v", k.text, got, want)
		}
	}
}

// sizesOfParts returns all lists of sizes of strong parts of n players together; no part has two players.
func sizesOfParts(n int) [][]int {
	if n == 0 {
		return [][]int{{}}
	}
	lists := [][]int{}
	for first := 1; first <= n; first++ {
		if first == 2 {
			continue
		}
		for _, rest := range sizesOfParts(n - first) {
			lists = append(lists, append([]int{first}, rest...))
		}
	}
	return lists
}

// builtTour is a tour together with the strong parts of which it is built.
type builtTour struct {
	known
	parts []int
}

// buildTour makes parts of these sizes, of which each one beats those after it. In a part each player beats the next one and is beaten by those after that, so that the last one beats the first one. Then it gives the players other names.
func buildTour(sizes []int, names []int) builtTour {
	var beats [8][8]bool
	parts := []int{}
	first := 0
	for _, size := range sizes {
		part := 0
		for a := first; a < first+size; a++ {
			part += 1 << names[a]
			for b := a + 1; b < len(names); b++ {
				isUpset := b > a+1 && b < first+size
				beats[names[a]][names[b]] = !isUpset
				beats[names[b]][names[a]] = isUpset
			}
		}
		parts = append(parts, part)
		first += size
	}
	return builtTour{knownBy(len(names), beats), parts}
}

// builtTours returns tours with strong parts of all sizes and in all orders of the sizes.
func builtTours() []builtTour {
	list := []builtTour{}
	for n := 1; n <= 8; n++ {
		for _, sizes := range sizesOfParts(n) {
			for _, names := range someOrdersOf(n) {
				list = append(list, buildTour(sizes, names))
			}
		}
	}
	return list
}

func TestPartsOfBuiltTours(t *testing.T) {
	for _, k := range builtTours() {
		checkParts(t, k.known, k.parts)
		if got, want := impl.IsTransitive(k.tour), len(k.parts) == k.tour.Size; got != want {
			t.Errorf("IsTransitive(%s) = %v, want %v", k.text, got, want)
		}
		for a := range k.tour.Size {
			index := slices.IndexFunc(k.parts, func(part int) bool { return part>>a%2 == 1 })
			if got := impl.PartOf(k.tour, a); got != index {
				t.Errorf("PartOf(%s, %d) = %d, want %d", k.text, a, got, index)
			}
		}
	}
}

// TestPartsBeatThoseAfterThem checks what the chapter says of the sets, whatever they are.
func TestPartsBeatThoseAfterThem(t *testing.T) {
	tours := allKnownTours()
	for _, k := range builtTours() {
		tours = append(tours, k.known)
	}
	for _, k := range tours {
		players := 0
		parts := impl.StrongParts(k.tour)
		for i, part := range parts {
			if part <= 0 || players&part != 0 {
				t.Errorf("StrongParts(%s) = %v, in which the set %d is empty or has players of another one", k.text, parts, i)
			}
			players += part
			for _, later := range parts[i+1:] {
				for a := range k.tour.Size {
					for b := range k.tour.Size {
						if part>>a%2 == 1 && later>>b%2 == 1 && !k.beats[a][b] {
							t.Errorf("StrongParts(%s) = %v, in which %d does not beat %d", k.text, parts, a, b)
						}
					}
				}
			}
			if tour, ok := impl.PartTour(k.tour, part); !ok || !impl.IsStrong(tour) {
				t.Errorf("StrongParts(%s) = %v, of which the set %d is not strong", k.text, parts, i)
			}
		}
		if players != 1<<k.tour.Size-1 {
			t.Errorf("StrongParts(%s) = %v, which are not all players", k.text, parts)
		}
	}
}

func TestPartsForOtherNames(t *testing.T) {
	for _, k := range builtTours() {
		if k.tour.Size > 6 {
			continue
		}
		for _, names := range someOrdersOf(k.tour.Size) {
			tour, _ := impl.RenameTour(k.tour, names)
			want := make([]int, len(k.parts))
			for i, part := range k.parts {
				for a, name := range names {
					want[i] += part >> a % 2 << name
				}
			}
			if got := impl.StrongParts(tour); !slices.Equal(got, want) {
				t.Errorf("StrongParts(%s), renamed by %v, = %v, want %v", k.text, names, got, want)
			}
			if got, want := len(impl.WeakestGames(tour)), len(impl.WeakestGames(k.tour)); got != want {
				t.Errorf("WeakestGames(%s), renamed by %v, are %d, want %d", k.text, names, got, want)
			}
			if got, want := bits.OnesCount(uint(impl.LargestTransitive(tour))), bits.OnesCount(uint(impl.LargestTransitive(k.tour))); got != want {
				t.Errorf("LargestTransitive(%s), renamed by %v, has %d players, want %d", k.text, names, got, want)
			}
		}
	}
}

// TestPartsOfTurnedTours expects the same parts in the other order, and the same games the other way round.
func TestPartsOfTurnedTours(t *testing.T) {
	tours := someKnownTours()
	for _, k := range builtTours() {
		tours = append(tours, k.known)
	}
	for _, k := range tours {
		turned, _ := impl.TurnTour(k.tour)
		parts := impl.StrongParts(k.tour)
		slices.Reverse(parts)
		if got := impl.StrongParts(turned); !slices.Equal(got, parts) {
			t.Errorf("StrongParts(TurnTour(%s)) = %v, want %v", k.text, got, parts)
		}
		if got, want := impl.IsTransitive(turned), impl.IsTransitive(k.tour); got != want {
			t.Errorf("IsTransitive(TurnTour(%s)) = %v, want %v", k.text, got, want)
		}
		order, _ := impl.TransitiveOrder(k.tour)
		slices.Reverse(order)
		if got, _ := impl.TransitiveOrder(turned); !slices.Equal(got, order) {
			t.Errorf("TransitiveOrder(TurnTour(%s)) = %v, want %v", k.text, got, order)
		}
		if got, want := impl.LargestTransitive(turned), impl.LargestTransitive(k.tour); got != want {
			t.Errorf("LargestTransitive(TurnTour(%s)) = %d, want %d", k.text, got, want)
		}
		games := impl.WeakestGames(k.tour)
		for _, game := range games {
			slices.Reverse(game)
		}
		slices.SortFunc(games, slices.Compare)
		if got := impl.WeakestGames(turned); !equalLists(got, games) {
			t.Errorf("WeakestGames(TurnTour(%s)) = %v, want %v", k.text, got, games)
		}
	}
}

// TestPartsAgreeWithScores finds the parts by the scores alone: the last players are as many as one part or several ones exactly if they have no more wins than those against each other.
func TestPartsAgreeWithScores(t *testing.T) {
	for _, k := range allKnownTours() {
		scores := knownScores(k)
		order := numbersTo(0, k.tour.Size-1)
		slices.SortStableFunc(order, func(a, b int) int { return scores[a] - scores[b] })
		want := []int{}
		part := 0
		for at, slack := range impl.SlackOf(impl.SequenceOf(k.tour)) {
			part += 1 << order[at]
			if slack == 0 {
				want = append(want, part)
				part = 0
			}
		}
		slices.Reverse(want)
		if got := impl.StrongParts(k.tour); !slices.Equal(got, want) {
			t.Errorf("StrongParts(%s) = %v, but %v by the scores %v", k.text, got, want, scores)
		}
	}
}

// TestPartsAgreeWithTriangles checks that triangles stay within a part, that each player of a greater part has one, and that the parts stay when they are reversed.
func TestPartsAgreeWithTriangles(t *testing.T) {
	for _, k := range allKnownTours() {
		parts := impl.StrongParts(k.tour)
		triangles := impl.TrianglesOf(k.tour)
		for _, list := range triangles {
			at := impl.PartOf(k.tour, list[0])
			if impl.PartOf(k.tour, list[1]) != at || impl.PartOf(k.tour, list[2]) != at {
				t.Errorf("the triangle %v of %s is not within one of the parts %v", list, k.text, parts)
			}
			if reversed, _ := impl.ReverseTriangle(k.tour, list); !slices.Equal(impl.StrongParts(reversed), parts) {
				t.Errorf("StrongParts(%s) = %v, but other ones with the triangle %v reversed", k.text, parts, list)
			}
		}
		for a := range k.tour.Size {
			isAlone := bits.OnesCount(uint(parts[impl.PartOf(k.tour, a)])) == 1
			if got := impl.TrianglesAt(k.tour, a); isAlone != (got == 0) {
				t.Errorf("StrongParts(%s) = %v, but %d has %d triangles", k.text, parts, a, got)
			}
		}
		if got, want := impl.IsTransitive(k.tour), len(triangles) == 0; got != want {
			t.Errorf("IsTransitive(%s) = %v, want %v", k.text, got, want)
		}
	}
}

// checkTransitive compares both functions with the order that is wanted, or with none if it is nil.
func checkTransitive(t *testing.T, k known, want []int) {
	t.Helper()
	if got := impl.IsTransitive(k.tour); got != (want != nil) {
		t.Errorf("IsTransitive(%s) = %v, want %v", k.text, got, want != nil)
	}
	if got, ok := impl.TransitiveOrder(k.tour); ok != (want != nil) || !slices.Equal(got, want) {
		t.Errorf("TransitiveOrder(%s) = %v, %v, want %v", k.text, got, ok, want)
	}
}

// beatsAllAfter reports whether each player of an order beats all after them.
func beatsAllAfter(k known, order []int) bool {
	for i, a := range order {
		for _, b := range order[i+1:] {
			if !k.beats[a][b] {
				return false
			}
		}
	}
	return true
}

func TestTransitiveTours(t *testing.T) {
	for n := 1; n <= 5; n++ {
		for _, k := range knownTours(n, 1024) {
			var want []int
			for _, order := range ordersOf(n) {
				if beatsAllAfter(k, order) {
					want = order
				}
			}
			checkTransitive(t, k, want)
		}
	}
	for n := 1; n <= 8; n++ {
		for _, order := range someOrdersOf(n) {
			transitive := buildTour(slices.Repeat([]int{1}, n), order)
			checkTransitive(t, transitive.known, order)
			// Any other game than that of two neighbours makes a triangle if it is flipped.
			for i := range n {
				for j := i + 1; j < n; j++ {
					flipped := knownBy(n, reversedIn(transitive.beats, []int{order[i], order[j]}))
					want := slices.Clone(order)
					want[i], want[j] = want[j], want[i]
					if j > i+1 {
						want = nil
					}
					checkTransitive(t, flipped, want)
				}
			}
		}
	}
}

func TestToursWithTrianglesAreNotTransitive(t *testing.T) {
	for n := 6; n <= 8; n++ {
		for _, k := range knownTours(n, 1024) {
			if !isTransitiveIn(k.beats, 255) {
				checkTransitive(t, k, nil)
			}
		}
	}
}

func TestLargestTransitive(t *testing.T) {
	for _, k := range allKnownTours() {
		if got, want := impl.LargestTransitive(k.tour), largestTransitiveIn(k); got != want {
			t.Errorf("LargestTransitive(%s) = %d, want %d", k.text, got, want)
		}
	}
	for _, k := range builtTours() {
		if got, want := impl.LargestTransitive(k.tour), largestTransitiveIn(k.known); got != want {
			t.Errorf("LargestTransitive(%s) = %d, want %d", k.text, got, want)
		}
	}
}

func TestWeakestGames(t *testing.T) {
	for _, k := range allKnownTours() {
		got := impl.WeakestGames(k.tour)
		if want := weakestIn(k); !equalLists(got, want) {
			t.Errorf("WeakestGames(%s) = %v, want %v", k.text, got, want)
		}
		if !slices.IsSortedFunc(got, slices.Compare) {
			t.Errorf("WeakestGames(%s) = %v, which is not in lexicographic order", k.text, got)
		}
	}
	for _, k := range builtTours() {
		if got, want := impl.WeakestGames(k.tour), weakestIn(k.known); !equalLists(got, want) {
			t.Errorf("WeakestGames(%s) = %v, want %v", k.text, got, want)
		}
	}
}

func TestPartsOfNoPlayers(t *testing.T) {
	tours := someKnownTours()
	for _, w := range writtenParts {
		tours = append(tours, known{text: w.text, tour: mustParse(t, w.text)})
	}
	for _, k := range tours {
		for _, a := range append([]int{k.tour.Size, k.tour.Size + 1, 1 << 32}, oddInts...) {
			if got := impl.ReachOf(k.tour, a); got != 0 {
				t.Errorf("ReachOf(%s, %d) = %d, want 0", k.text, a, got)
			}
			if got := impl.PartOf(k.tour, a); got != -1 {
				t.Errorf("PartOf(%s, %d) = %d, want -1", k.text, a, got)
			}
		}
	}
}

func TestPartsOfBrokenTours(t *testing.T) {
	tours := brokenTours()
	for _, w := range writtenParts {
		tours = append(tours, spoiled(mustParse(t, w.text))...)
	}
	for _, broken := range tours {
		for _, a := range append(numbersTo(-1, 9), oddInts...) {
			if got := impl.ReachOf(broken, a); got != 0 {
				t.Errorf("ReachOf(%v, %d) = %d, want 0", broken, a, got)
			}
			if got := impl.PartOf(broken, a); got != -1 {
				t.Errorf("PartOf(%v, %d) = %d, want -1", broken, a, got)
			}
		}
		if impl.IsStrong(broken) || impl.IsTransitive(broken) {
			t.Errorf("IsStrong(%v) = %v, IsTransitive = %v, want false", broken, impl.IsStrong(broken), impl.IsTransitive(broken))
		}
		if got := impl.StrongParts(broken); len(got) != 0 {
			t.Errorf("StrongParts(%v) = %v, want nil", broken, got)
		}
		if got, ok := impl.TransitiveOrder(broken); ok || len(got) != 0 {
			t.Errorf("TransitiveOrder(%v) = %v, %v, want nothing", broken, got, ok)
		}
		if got := impl.LargestTransitive(broken); got != 0 {
			t.Errorf("LargestTransitive(%v) = %d, want 0", broken, got)
		}
		if got := impl.WeakestGames(broken); len(got) != 0 {
			t.Errorf("WeakestGames(%v) = %v, want nil", broken, got)
		}
	}
}

func TestPartsLeaveToursAsTheyAre(t *testing.T) {
	texts := []string{}
	for _, w := range writtenParts {
		texts = append(texts, w.text)
	}
	for _, k := range someKnownTours() {
		texts = append(texts, k.text)
	}
	for _, text := range texts {
		parsed := mustParse(t, text)
		memory := append(parsed.Wins, 91, 92, 93)
		tour := impl.Tour{Size: parsed.Size, Wins: memory[:parsed.Size]}
		checkMemory(t, "StrongParts of "+text, func() ([]int, string) { return impl.StrongParts(tour), "" }, memory)
		checkMemory(t, "TransitiveOrder of "+text, func() ([]int, string) {
			order, _ := impl.TransitiveOrder(tour)
			return order, ""
		}, memory)
		checkLists(t, "WeakestGames of "+text, func() [][]int { return impl.WeakestGames(tour) }, memory)
		checkMemory(t, "what is no list of "+text, func() ([]int, string) {
			numbers := []string{impl.FormatInt(impl.LargestTransitive(tour))}
			for a := range tour.Size {
				numbers = append(numbers, impl.FormatInt(impl.ReachOf(tour, a)), impl.FormatInt(impl.PartOf(tour, a)))
			}
			if impl.IsStrong(tour) {
				numbers = append(numbers, "strong")
			}
			if impl.IsTransitive(tour) {
				numbers = append(numbers, "transitive")
			}
			return nil, strings.Join(numbers, " ")
		}, memory)
	}
}
