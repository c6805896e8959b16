package tests

import (
	"fmt"
	"math"
	"slices"
	"strconv"
	"sync"
	"testing"

	"loop.example/g03205/impl"
)

// renamedIn returns the results in which names[a] beats names[b] if a beats b.
func renamedIn(k known, names []int) [8][8]bool {
	var renamed [8][8]bool
	for a, name := range names {
		for b, other := range names {
			renamed[name][other] = k.beats[a][b]
		}
	}
	return renamed
}

// codeIn reads the text of a tour as a binary number, so that of two tours of n players that with the lesser number has the lesser text.
func codeIn(n int, beats [8][8]bool) int {
	code := 0
	for a := range n {
		for b := a + 1; b < n; b++ {
			code *= 2
			if beats[a][b] {
				code++
			}
		}
	}
	return code
}

// textWith returns the text of n players with a code.
func textWith(n int, code int) string {
	pairs := n * (n - 1) / 2
	digits := strconv.FormatInt(int64(1<<pairs+code), 2)[1:]
	return strconv.Itoa(n) + ":" + digits
}

// namesFor has, for each n, a function that returns all orders of the numbers from 0 up to n, and makes them at its first call alone.
var namesFor = func() [9]func() [][]int {
	var lists [9]func() [][]int
	for n := range lists {
		lists[n] = sync.OnceValue(func() [][]int { return ordersOf(n) })
	}
	return lists
}()

// symmetriesIn returns the names for which all results stay as they are.
func symmetriesIn(k known) [][]int {
	list := [][]int{}
	for _, names := range namesFor[k.tour.Size]() {
		if renamedIn(k, names) == k.beats {
			list = append(list, names)
		}
	}
	return list
}

// codesIn returns the codes of a tour by all names, in ascending order, each one once.
func codesIn(k known) []int {
	codes := []int{}
	for _, names := range namesFor[k.tour.Size]() {
		codes = append(codes, codeIn(k.tour.Size, renamedIn(k, names)))
	}
	slices.Sort(codes)
	return slices.Compact(codes)
}

func leastTextIn(k known) string { return textWith(k.tour.Size, codesIn(k)[0]) }

// isRotationalIn compares the result of each two players with that of those who come next to them in the circle.
func isRotationalIn(k known) bool {
	n := k.tour.Size
	for a := range n {
		for b := range n {
			if k.beats[a][b] != k.beats[(a+1)%n][(b+1)%n] {
				return false
			}
		}
	}
	return true
}

// writtenConnections are all connections, with the texts of their tours.
var writtenConnections = []struct {
	players int
	list    []int
	text    string
}{
	{1, nil, "1:"},
	{3, []int{1}, "3:101"},
	{3, []int{2}, "3:010"},
	{5, []int{1, 2}, "5:1100110111"},
	{5, []int{1, 3}, "5:1010101101"},
	{5, []int{2, 4}, "5:0101010010"},
	{5, []int{3, 4}, "5:0011001000"},
	{7, []int{1, 2, 3}, "7:111000111001110111111"},
	{7, []int{1, 2, 4}, "7:110100110101101110111"},
	{7, []int{1, 3, 5}, "7:101010101011010101101"},
	{7, []int{1, 4, 5}, "7:100110100111001100101"},
	{7, []int{2, 3, 6}, "7:011001011000110011010"},
	{7, []int{2, 4, 6}, "7:010101010100101010010"},
	{7, []int{3, 5, 6}, "7:001011001010010001000"},
	{7, []int{4, 5, 6}, "7:000111000110001000000"},
}

// isWrittenConnection knows the connections by heart.
func isWrittenConnection(n int, list []int) bool {
	for _, w := range writtenConnections {
		if w.players == n && slices.Equal(w.list, list) {
			return true
		}
	}
	return false
}

// writtenSymmetries are tours with the number of their symmetries and the least of their texts by all names, which CountSymmetries and LeastName give for up to 6 players.
var writtenSymmetries = []struct {
	text         string
	symmetries   int
	least        string
	isRotational bool
}{
	{"1:", 1, "1:", true},
	{"2:1", 1, "2:0", false},
	{"2:0", 1, "2:0", false},
	{"3:101", 3, "3:010", true},
	{"3:010", 3, "3:010", true},
	{"3:111", 1, "3:000", false},
	{"3:100", 1, "3:000", false},
	{"3:000", 1, "3:000", false},
	{"4:111111", 1, "4:000000", false},
	{"4:110111", 1, "4:001000", false},
	{"4:001000", 1, "4:001000", false},
	// A circle of three and one who beats them, or is beaten by them.
	{"4:111101", 3, "4:001001", false},
	{"4:011011", 3, "4:000010", false},
	{"5:1100110111", 5, "5:0011001000", true},
	{"5:0011001000", 5, "5:0011001000", true},
	{"5:1101110111", 1, "5:0001010001", false},
	{"5:0110001001", 1, "5:0001010001", false},
	{"5:1111101111", 3, "5:0000001001", false},
	{"5:0001010000", 3, "5:0001010000", false},
	{"5:0001000011", 3, "5:0001000011", false},
	{"6:111111111111111", 1, "6:000000000000000", false},
	{"6:111101111111111", 1, "6:000010000000000", false},
	{"6:100001011110101", 1, "6:000010010001000", false},
	{"6:001010010000001", 1, "6:000110001000001", false},
	{"6:101100101000101", 3, "6:000110100001100", false},
	{"6:011001100011110", 3, "6:000110011000000", false},
	{"6:001111100011110", 3, "6:000010001010000", false},
	// A circle of five and one who beats them, or is beaten by them.
	{"6:100010101111100", 5, "6:000110001000110", false},
	{"6:001111001011011", 5, "6:000000011001000", false},
	// Two circles of three.
	{"6:101111111111101", 9, "6:000010000011011", false},
	{"6:101110010011111", 9, "6:000010000011011", false},
	{"7:111111111111111111111", 1, "7:000000000000000000000", false},
	{"7:001010010101011010110", 1, "7:000000000000000000000", false},
	{"7:101010010100000011111", 3, "7:000011000110000000110", false},
	{"7:001011001000000110001", 9, "7:000011000010110010101", false},
	{"7:111000111001110111111", 7, "7:000111000110001000000", true},
	{"7:110100110101101110111", 21, "7:000111010010010100010", true},
	// The regular tour of seven that no names make rotational.
	{"7:110001001111001100100", 3, "7:000111000110100000010", false},
	{"7:010110101001101001110", 3, "7:000111000110100000010", false},
	{"8:0101110101110011001110100000", 1, "8:0000000000000000000000000000", false},
	{"8:1100011100011000111110011111", 1, "8:0000001000000000000000000000", false},
	{"8:1110001110101010111010100010", 9, "8:0000111000011011000100100110", false},
	{"8:0111111110111101000011111010", 15, "8:0000011000001000000111011110", false},
	{"8:1100010110001001110100111010", 21, "8:0000111001001000101111100010", false},
}

// toursForNames returns all tours of up to 5 players, some of 6, and those of at most 6 that are written out.
var toursForNames = sync.OnceValue(func() []known {
	list := []known{}
	for n := 1; n <= 5; n++ {
		list = append(list, knownTours(n, 1024)...)
	}
	list = append(list, knownTours(6, 256)...)
	for _, w := range writtenSymmetries {
		if k := knownWithText(w.text); k.tour.Size <= 6 {
			list = append(list, k)
		}
	}
	return list
})

// toursForRotation returns all tours of up to 5 players, some of 6, 7 and 8, and those that are written out.
func toursForRotation() []known {
	list := allKnownTours()
	for _, w := range writtenSymmetries {
		list = append(list, knownWithText(w.text))
	}
	for _, w := range writtenConnections {
		list = append(list, knownWithText(w.text))
	}
	return list
}

// fewToursForRotation returns a few tours of each size and those that are written out.
func fewToursForRotation() []known {
	list := someKnownTours()
	for _, w := range writtenSymmetries {
		list = append(list, knownWithText(w.text))
	}
	return list
}

// mustRotate returns the tour of a connection.
func mustRotate(t *testing.T, n int, list []int) impl.Tour {
	t.Helper()
	tour, ok := impl.RotationalTour(n, list)
	if !ok || !impl.TourOk(tour) {
		t.Fatalf("RotationalTour(%d, %v) = %v, %v", n, list, tour, ok)
	}
	return tour
}

// checkConnection compares IsConnection and RotationalTour with what is wanted: the text of a tour, or none if it is empty.
func checkConnection(t *testing.T, n int, list []int, text string) {
	t.Helper()
	if got := impl.IsConnection(n, list); got != (text != "") {
		t.Errorf("IsConnection(%d, %v) = %v", n, list, got)
	}
	tour, ok := impl.RotationalTour(n, list)
	if text == "" {
		if !isNothing(tour, ok) {
			t.Errorf("RotationalTour(%d, %v) = %v, %v, want nothing", n, list, tour, ok)
		}
	} else if !ok || !equalTours(tour, knownWithText(text).tour) {
		t.Errorf("RotationalTour(%d, %v) = %v, %v, want %s", n, list, tour, ok, text)
	}
}

func TestWrittenConnections(t *testing.T) {
	for _, w := range writtenConnections {
		checkConnection(t, w.players, w.list, w.text)
		tour := mustRotate(t, w.players, w.list)
		if got := impl.FormatTour(tour); got != w.text || !impl.IsRotational(tour) {
			t.Errorf("RotationalTour(%d, %v) = %s, want %s, IsRotational = %v", w.players, w.list, got, w.text, impl.IsRotational(tour))
		}
	}
	checkConnection(t, 1, []int{}, "1:")
}

// TestConnectionsOfAllLists tries all lists of up to 4 numbers from -1 to n + 1; no connection has more than 3.
func TestConnectionsOfAllLists(t *testing.T) {
	found := 0
	for n := -2; n <= 10; n++ {
		numbers := numbersTo(-1, max(n, 0)+1)
		for length := range 5 {
			listsOf(length, numbers, func(list []int) {
				want := isWrittenConnection(n, list)
				if got := impl.IsConnection(n, list); got != want {
					t.Errorf("IsConnection(%d, %v) = %v, want %v", n, list, got, want)
				}
				if tour, ok := impl.RotationalTour(n, list); ok != want || !want && !isNothing(tour, ok) {
					t.Errorf("RotationalTour(%d, %v) = %v, %v, want %v", n, list, tour, ok, want)
				}
				if want {
					found++
				}
			})
		}
	}
	if found != len(writtenConnections) {
		t.Errorf("there are %d connections, want %d", found, len(writtenConnections))
	}
}

// TestSetsAsConnections takes all ascending lists, whatever their lengths are.
func TestSetsAsConnections(t *testing.T) {
	for n := -8; n <= 16; n++ {
		for set := range 1 << 10 {
			list := membersOf(set)
			if got, want := impl.IsConnection(n, list), isWrittenConnection(n, list); got != want {
				t.Errorf("IsConnection(%d, %v) = %v, want %v", n, list, got, want)
			}
		}
	}
}

// TestListsNearAConnection changes connections: one number, their order, their length, and the number of players.
func TestListsNearAConnection(t *testing.T) {
	for _, w := range writtenConnections {
		n := w.players
		for _, other := range append([]int{n - 2, n - 1, n + 1, n + 2, 2 * n, -n, n + 1<<8, n + 1<<32, n - 1<<32, math.MinInt + n}, oddSizes...) {
			if !isWrittenConnection(other, w.list) {
				checkConnection(t, other, w.list, "")
			}
		}
		for at := range len(w.list) + 1 {
			for _, number := range append(numbersTo(-1, 9), n, n+1, n+1<<32, 1<<62, math.MinInt, math.MaxInt) {
				checkConnection(t, n, slices.Insert(slices.Clone(w.list), at, number), "")
				if at == len(w.list) {
					continue
				}
				changed := slices.Clone(w.list)
				changed[at] = number
				if !isWrittenConnection(n, changed) {
					checkConnection(t, n, changed, "")
				}
			}
		}
		for at := range w.list {
			checkConnection(t, n, slices.Delete(slices.Clone(w.list), at, at+1), "")
		}
		for _, order := range ordersOf(len(w.list)) {
			list := listOf(len(w.list), func(i int) int { return w.list[order[i]] })
			if !slices.IsSorted(list) {
				checkConnection(t, n, list, "")
			}
		}
		for _, length := range []int{8, 64, 100, 65536} {
			for _, number := range []int{0, 1, n - 1, n} {
				checkConnection(t, n, append(slices.Clone(w.list), slices.Repeat([]int{number}, length)...), "")
				checkConnection(t, n, append(slices.Repeat([]int{number}, length), w.list...), "")
			}
			checkConnection(t, n, numbersTo(1, length), "")
		}
	}
}

func TestConnectionsOfNoPlayers(t *testing.T) {
	for _, n := range append([]int{2, 4, 6, 8, 9, 11, 13, 15, -3, -5, -7, 5 - 1<<32, 3 + 1<<8, 7 + 1<<16, 1<<32 + 3, math.MinInt + 3, math.MaxInt - 2}, oddSizes...) {
		for _, list := range [][]int{nil, {}, {0}, {1}, {n - 1}, {n}, {-1}, {1, 2}, {1, 2, 3}, {1, 2, 4}, {1, 2, 3, 4}, {math.MinInt}, {math.MaxInt}} {
			if n != 1 || len(list) > 0 {
				checkConnection(t, n, list, "")
			}
		}
	}
}

// TestRotationalTours checks who beats whom by the difference of their numbers, and that all have the same score.
func TestRotationalTours(t *testing.T) {
	for _, w := range writtenConnections {
		n := w.players
		tour := mustRotate(t, n, w.list)
		for a := range n {
			for b := range n {
				if got, want := impl.DoesBeat(tour, a, b), slices.Contains(w.list, (b+n-a)%n); got != want {
					t.Errorf("DoesBeat(%s, %d, %d) = %v, want %v by %v", w.text, a, b, got, want, w.list)
				}
			}
		}
		if got, want := impl.ScoresOf(tour), slices.Repeat([]int{(n - 1) / 2}, n); !slices.Equal(got, want) {
			t.Errorf("ScoresOf(%s) = %v, want %v", w.text, got, want)
		}
		for shift := range n {
			names := listOf(n, func(i int) int { return (i + shift) % n })
			if !impl.IsSymmetry(tour, names) {
				t.Errorf("IsSymmetry(%s, %v) = false", w.text, names)
			}
		}
	}
}

// TestOtherConnections expects the tour in which all results are reversed from the numbers that are not in a connection.
func TestOtherConnections(t *testing.T) {
	for _, w := range writtenConnections {
		others := slices.DeleteFunc(numbersTo(1, w.players-1), func(k int) bool { return slices.Contains(w.list, k) })
		turned, _ := impl.TurnTour(mustRotate(t, w.players, w.list))
		checkConnection(t, w.players, others, impl.FormatTour(turned))
	}
}

// TestMultipliedConnections expects that the names a times a factor lead from the tour of a connection to that of its numbers times this factor.
func TestMultipliedConnections(t *testing.T) {
	for _, w := range writtenConnections {
		n := w.players
		for factor := 1; factor < n; factor++ {
			times := func(k int) int { return k * factor % n }
			list := listOf(len(w.list), func(i int) int { return times(w.list[i]) })
			slices.Sort(list)
			renamed, _ := impl.RenameTour(mustRotate(t, n, w.list), listOf(n, times))
			checkConnection(t, n, list, impl.FormatTour(renamed))
			if got := impl.AreLike(mustRotate(t, n, w.list), mustRotate(t, n, list)); got != (n <= 6) {
				t.Errorf("AreLike of the tours of %v and %v of %d players = %v", w.list, list, n, got)
			}
		}
	}
}

func TestSquareTour(t *testing.T) {
	texts := map[int]string{3: "3:101", 7: "7:110100110101101110111"}
	others := append([]int{-3, -7, 14, 19, 21, 23, 31, 43, 3 + 1<<8, 3 + 1<<32, 7 + 1<<32, 3 - 1<<32, math.MinInt + 3, math.MaxInt - 4}, oddSizes...)
	for _, p := range append(numbersTo(-1, 12), others...) {
		tour, ok := impl.SquareTour(p)
		if texts[p] == "" {
			if !isNothing(tour, ok) {
				t.Errorf("SquareTour(%d) = %v, %v, want nothing", p, tour, ok)
			}
			continue
		}
		if !ok || !equalTours(tour, knownWithText(texts[p]).tour) || impl.FormatTour(tour) != texts[p] {
			t.Errorf("SquareTour(%d) = %v, %v, want %s", p, tour, ok, texts[p])
		}
		for a := range p {
			for b := range p {
				isSquare := slices.ContainsFunc(numbersTo(1, p-1), func(k int) bool { return k*k%p == (b+p-a)%p })
				if got := impl.DoesBeat(tour, a, b); got != isSquare {
					t.Errorf("DoesBeat(SquareTour(%d), %d, %d) = %v, want %v", p, a, b, got, isSquare)
				}
			}
		}
	}
}

// TestSquareTourIsOfItsSquares compares it with the tour of the squares that are written out.
func TestSquareTourIsOfItsSquares(t *testing.T) {
	for p, squares := range map[int][]int{3: {1}, 7: {1, 2, 4}} {
		tour, ok := impl.SquareTour(p)
		if !ok || !equalTours(tour, mustRotate(t, p, squares)) || !impl.IsRotational(tour) {
			t.Errorf("SquareTour(%d) = %v, %v, want that of %v", p, tour, ok, squares)
		}
	}
}

func TestIsRotational(t *testing.T) {
	for _, k := range toursForRotation() {
		if got, want := impl.IsRotational(k.tour), isRotationalIn(k); got != want {
			t.Errorf("IsRotational(%s) = %v, want %v", k.text, got, want)
		}
		n := k.tour.Size
		next := listOf(n, func(i int) int { return (i + 1) % n })
		if got, want := impl.IsRotational(k.tour), impl.IsSymmetry(k.tour, next); got != want {
			t.Errorf("IsRotational(%s) = %v, but IsSymmetry for %v = %v", k.text, got, next, want)
		}
	}
}

// TestAllRotationalTours expects that those of connections are the only rotational ones.
func TestAllRotationalTours(t *testing.T) {
	for n := 1; n <= 6; n++ {
		texts, want := []string{}, []string{}
		for _, k := range knownTours(n, 1<<15) {
			if impl.IsRotational(k.tour) {
				texts = append(texts, k.text)
			}
		}
		for _, w := range writtenConnections {
			if w.players == n {
				want = append(want, w.text)
			}
		}
		slices.Sort(texts)
		slices.Sort(want)
		if !slices.Equal(texts, want) {
			t.Errorf("the rotational tours of %d players are %v, want %v", n, texts, want)
		}
	}
}

// TestFlippedRotationalTours reverses the result of a single game, after which a tour is not rotational any more.
func TestFlippedRotationalTours(t *testing.T) {
	for _, w := range writtenConnections {
		tour := mustRotate(t, w.players, w.list)
		for a := range w.players {
			for b := range a {
				flipped, _ := impl.FlipGame(tour, a, b)
				if impl.IsRotational(flipped) {
					t.Errorf("IsRotational(%s) = true with the result of %d and %d reversed", w.text, a, b)
				}
			}
		}
	}
}

// TestRotationalForOtherNames compares the names that leave a tour rotational.
func TestRotationalForOtherNames(t *testing.T) {
	for _, w := range writtenConnections {
		k := knownWithText(w.text)
		for _, names := range namesFor[w.players]() {
			renamed := knownBy(w.players, renamedIn(k, names))
			if got, want := impl.IsRotational(renamed.tour), isRotationalIn(renamed); got != want {
				t.Errorf("IsRotational(%s), which is %s by %v, is %v, want %v", renamed.text, w.text, names, got, want)
			}
		}
	}
}

// checkSymmetries compares CountSymmetries with a number, or with 0 for more than 6 players.
func checkSymmetries(t *testing.T, k known, want int) {
	t.Helper()
	if k.tour.Size > 6 {
		want = 0
	}
	if got := impl.CountSymmetries(k.tour); got != want {
		t.Errorf("CountSymmetries(%s) = %d, want %d", k.text, got, want)
	}
}

// checkLeastName compares LeastName with a text, or with none for more than 6 players.
func checkLeastName(t *testing.T, k known, want string) {
	t.Helper()
	least, ok := impl.LeastName(k.tour)
	if k.tour.Size > 6 {
		if !isNothing(least, ok) {
			t.Errorf("LeastName(%s) = %v, %v, want nothing", k.text, least, ok)
		}
	} else if !ok || !equalTours(least, knownWithText(want).tour) {
		t.Errorf("LeastName(%s) = %v, %v, want %s", k.text, least, ok, want)
	}
}

func TestWrittenSymmetries(t *testing.T) {
	for _, w := range writtenSymmetries {
		k := knownWithText(w.text)
		checkSymmetries(t, k, w.symmetries)
		checkLeastName(t, k, w.least)
		if got := impl.IsRotational(k.tour); got != w.isRotational {
			t.Errorf("IsRotational(%s) = %v, want %v", w.text, got, w.isRotational)
		}
		symmetries := 0
		for _, names := range namesFor[k.tour.Size]() {
			if impl.IsSymmetry(k.tour, names) {
				symmetries++
			}
		}
		if symmetries != w.symmetries {
			t.Errorf("IsSymmetry(%s) is true for %d names, want %d", w.text, symmetries, w.symmetries)
		}
		least := mustParse(t, w.least)
		if got := impl.AreLike(k.tour, least); got != (k.tour.Size <= 6) {
			t.Errorf("AreLike(%s, %s) = %v", w.text, w.least, got)
		}
	}
}

// TestCountSymmetries also checks that the number is odd, and that it says by how many names a tour becomes each tour that it becomes.
func TestCountSymmetries(t *testing.T) {
	for _, k := range toursForNames() {
		symmetries := symmetriesIn(k)
		checkSymmetries(t, k, len(symmetries))
		got := impl.CountSymmetries(k.tour)
		if got%2 != 1 {
			t.Errorf("CountSymmetries(%s) = %d, which is not odd", k.text, got)
		}
		if tours, orders := len(codesIn(k)), len(namesFor[k.tour.Size]()); got*tours != orders {
			t.Errorf("CountSymmetries(%s) = %d, but %d names make %d tours of it", k.text, got, orders, tours)
		}
	}
}

func TestSymmetriesOfTransitiveTours(t *testing.T) {
	for n := 1; n <= 8; n++ {
		for _, order := range someOrdersOf(n) {
			k := buildTour(slices.Repeat([]int{1}, n), order).known
			checkSymmetries(t, k, 1)
			checkLeastName(t, k, textWith(n, 0))
			for _, names := range someOrdersOf(n) {
				if got, want := impl.IsSymmetry(k.tour, names), slices.IsSorted(names); got != want {
					t.Errorf("IsSymmetry(%s, %v) = %v, want %v", k.text, names, got, want)
				}
			}
		}
	}
}

// TestSymmetriesOfParts multiplies the numbers of the symmetries of the strong parts.
func TestSymmetriesOfParts(t *testing.T) {
	for _, k := range builtTours() {
		if k.tour.Size > 6 {
			checkSymmetries(t, k.known, 0)
			continue
		}
		symmetries := 1
		for _, set := range k.parts {
			part, _ := impl.PartTour(k.tour, set)
			symmetries *= impl.CountSymmetries(part)
		}
		checkSymmetries(t, k.known, symmetries)
	}
}

func TestSymmetriesOfTurnedTours(t *testing.T) {
	for _, k := range fewToursForRotation() {
		turned, _ := impl.TurnTour(k.tour)
		if got, want := impl.CountSymmetries(turned), impl.CountSymmetries(k.tour); got != want {
			t.Errorf("CountSymmetries(%s) = %d, and %d with all results reversed", k.text, want, got)
		}
		for _, names := range someOrdersOf(k.tour.Size) {
			if got, want := impl.IsSymmetry(turned, names), impl.IsSymmetry(k.tour, names); got != want {
				t.Errorf("IsSymmetry(%s, %v) = %v, and %v with all results reversed", k.text, names, want, got)
			}
		}
		if got, want := impl.IsRotational(turned), impl.IsRotational(k.tour); got != want {
			t.Errorf("IsRotational(%s) = %v, and %v with all results reversed", k.text, want, got)
		}
	}
}

// isNames reports whether a list has each number from 0 up to n once.
func isNames(n int, list []int) bool {
	return slices.Equal(slices.Sorted(slices.Values(list)), numbersTo(0, n-1))
}

// TestIsSymmetryOfAllLists tries all lists of numbers from -1 up to Size that are at most one too long.
func TestIsSymmetryOfAllLists(t *testing.T) {
	for n := 1; n <= 4; n++ {
		for _, k := range knownTours(n, 64) {
			for length := range n + 2 {
				listsOf(length, numbersTo(-1, n), func(names []int) {
					want := isNames(n, names) && renamedIn(k, names) == k.beats
					if got := impl.IsSymmetry(k.tour, names); got != want {
						t.Errorf("IsSymmetry(%s, %v) = %v, want %v", k.text, names, got, want)
					}
				})
			}
		}
	}
}

func TestIsSymmetry(t *testing.T) {
	tours := fewToursForRotation()
	for n := 5; n <= 8; n++ {
		tours = append(tours, knownTours(n, []int{1024, 64, 8, 1}[n-5])...)
	}
	for _, k := range tours {
		for _, names := range namesFor[k.tour.Size]() {
			want := renamedIn(k, names) == k.beats
			if got := impl.IsSymmetry(k.tour, names); got != want {
				t.Errorf("IsSymmetry(%s, %v) = %v, want %v", k.text, names, got, want)
			}
		}
	}
}

// TestSymmetriesInTurn checks that two symmetries, one after the other, are one, and that each one can be taken back.
func TestSymmetriesInTurn(t *testing.T) {
	for _, w := range writtenSymmetries {
		k := knownWithText(w.text)
		symmetries := symmetriesIn(k)
		for _, first := range symmetries {
			back := make([]int, len(first))
			for a, name := range first {
				back[name] = a
			}
			if !impl.IsSymmetry(k.tour, back) {
				t.Errorf("IsSymmetry(%s, %v) = false, but it is true for %v", w.text, back, first)
			}
			for _, second := range symmetries {
				both := listOf(len(first), func(i int) int { return second[first[i]] })
				if !impl.IsSymmetry(k.tour, both) {
					t.Errorf("IsSymmetry(%s, %v) = false, but it is true for %v and %v", w.text, both, first, second)
				}
			}
		}
	}
}

func TestSymmetriesByWrittenNames(t *testing.T) {
	for _, c := range []struct {
		text  string
		names []int
		want  bool
	}{
		{"1:", []int{0}, true},
		{"1:", []int{1}, false},
		{"1:", nil, false},
		{"2:1", []int{0, 1}, true},
		{"2:1", []int{1, 0}, false},
		{"3:101", []int{1, 2, 0}, true},
		{"3:101", []int{2, 0, 1}, true},
		{"3:101", []int{1, 0, 2}, false},
		{"3:101", []int{1, 2}, false},
		{"3:101", []int{1, 2, 0, 3}, false},
		{"3:101", []int{1, 2, 1}, false},
		{"3:101", []int{1, 2, 3}, false},
		{"4:111101", []int{0, 2, 3, 1}, true},
		{"4:111101", []int{1, 2, 3, 0}, false},
		{"4:110111", []int{1, 2, 3, 0}, false},
		{"5:1100110111", []int{3, 4, 0, 1, 2}, true},
		// Each player twice as far from 0: a circle of five that is another one.
		{"5:1100110111", []int{0, 2, 4, 1, 3}, false},
		{"6:101111111111101", []int{1, 2, 0, 3, 4, 5}, true},
		{"6:101111111111101", []int{2, 0, 1, 4, 5, 3}, true},
		{"6:101111111111101", []int{3, 4, 5, 0, 1, 2}, false},
		{"7:110100110101101110111", []int{1, 2, 3, 4, 5, 6, 0}, true},
		{"7:110100110101101110111", []int{0, 2, 4, 6, 1, 3, 5}, true},
		{"7:110100110101101110111", []int{3, 0, 4, 1, 5, 2, 6}, true},
		{"7:110100110101101110111", []int{0, 3, 6, 2, 5, 1, 4}, false},
		{"7:111000111001110111111", []int{1, 2, 3, 4, 5, 6, 0}, true},
		{"7:111000111001110111111", []int{0, 2, 4, 6, 1, 3, 5}, false},
		{"7:111111111111111111111", []int{0, 1, 2, 3, 4, 5, 6}, true},
		{"7:111111111111111111111", []int{1, 2, 3, 4, 5, 6, 0}, false},
		{"8:1111111110100110101101110111", []int{0, 2, 3, 4, 5, 6, 7, 1}, true},
		{"8:1111111110100110101101110111", []int{1, 2, 3, 4, 5, 6, 7, 0}, false},
		{"8:0000000000000000000000000000", []int{0, 1, 2, 3, 4, 5, 6, 7}, true},
		{"8:0000000000000000000000000000", []int{0, 1, 2, 3, 4, 5, 7, 6}, false},
	} {
		if got := impl.IsSymmetry(mustParse(t, c.text), c.names); got != c.want {
			t.Errorf("IsSymmetry(%s, %v) = %v, want %v", c.text, c.names, got, c.want)
		}
	}
}

func TestSymmetriesByBrokenNames(t *testing.T) {
	for _, k := range fewToursForRotation() {
		for _, names := range brokenNames(k.tour.Size) {
			if impl.IsSymmetry(k.tour, names) {
				t.Errorf("IsSymmetry(%s, %v) = true, want false", k.text, names)
			}
		}
	}
}

// checkLike compares AreLike with what is wanted, both ways round.
func checkLike(t *testing.T, k known, other known, want bool) {
	t.Helper()
	if got := impl.AreLike(k.tour, other.tour); got != want {
		t.Errorf("AreLike(%s, %s) = %v, want %v", k.text, other.text, got, want)
	}
	if got := impl.AreLike(other.tour, k.tour); got != want {
		t.Errorf("AreLike(%s, %s) = %v, want %v", other.text, k.text, got, want)
	}
}

func TestAreLikeOfAllSmallTours(t *testing.T) {
	tours := []known{}
	for n := 1; n <= 4; n++ {
		tours = append(tours, knownTours(n, 64)...)
	}
	for _, k := range tours {
		least := leastTextIn(k)
		for _, other := range tours {
			want := k.tour.Size == other.tour.Size && least == leastTextIn(other)
			if got := impl.AreLike(k.tour, other.tour); got != want {
				t.Errorf("AreLike(%s, %s) = %v, want %v", k.text, other.text, got, want)
			}
		}
	}
}

// writtenKinds are the least texts of all tours of 5 players, of which none is like another one.
var writtenKinds = []string{
	"5:0000000000", "5:0000000010", "5:0000001000", "5:0000001001", "5:0001000000", "5:0001000001",
	"5:0001000010", "5:0001000011", "5:0001001000", "5:0001010000", "5:0001010001", "5:0011001000",
}

// TestAreLikeOfFive compares each tour of 5 players with one of each kind: it is like exactly one of them.
func TestAreLikeOfFive(t *testing.T) {
	for _, k := range knownTours(5, 1024) {
		least := leastTextIn(k)
		if !slices.Contains(writtenKinds, least) {
			t.Errorf("%s by other names is %s, which is of no kind", k.text, least)
		}
		for _, kind := range writtenKinds {
			checkLike(t, k, knownWithText(kind), kind == least)
		}
	}
}

func TestAreLikeOfSix(t *testing.T) {
	tours := knownTours(6, 24)
	for _, w := range writtenSymmetries {
		if k := knownWithText(w.text); k.tour.Size == 6 {
			tours = append(tours, k)
		}
	}
	like := 0
	for i, k := range tours {
		codes := codesIn(k)
		for _, other := range tours[i:] {
			_, want := slices.BinarySearch(codes, codeIn(6, other.beats))
			checkLike(t, k, other, want)
			if want {
				like++
			}
		}
	}
	if like <= len(tours) {
		t.Errorf("only %d pairs of %d tours of 6 players are like each other", like, len(tours))
	}
}

// TestAreLikeForAllNames renames tours in all ways.
func TestAreLikeForAllNames(t *testing.T) {
	for _, w := range writtenSymmetries {
		k := knownWithText(w.text)
		if k.tour.Size > 6 {
			continue
		}
		for _, code := range codesIn(k) {
			other := knownWithText(textWith(k.tour.Size, code))
			if !impl.AreLike(k.tour, other.tour) {
				t.Errorf("AreLike(%s, %s) = false, want true", k.text, other.text)
			}
		}
	}
}

// TestAreLikeWithEqualScores takes tours whose players have the same scores and that are not like each other.
func TestAreLikeWithEqualScores(t *testing.T) {
	for _, texts := range [][]string{
		{"5:0001000000", "5:0001000010"},
		{"5:0001001000", "5:0001010000"},
		{"5:0001001000", "5:0001010001"},
		{"5:0001010000", "5:0001010001"},
		{"6:110001110101110", "6:110001110011101"},
		{"6:110001110101110", "6:011000011010010"},
		{"6:001000010000010", "6:010000100010010"},
		{"6:001000010000010", "6:100001010001000"},
		{"6:100111100010111", "6:010110100001110"},
		{"6:101010111101111", "6:101011101111111"},
	} {
		k, other := knownWithText(texts[0]), knownWithText(texts[1])
		if scores, others := impl.SequenceOf(k.tour), impl.SequenceOf(other.tour); !slices.Equal(scores, others) {
			t.Errorf("SequenceOf(%s) = %v, and of %s it is %v", k.text, scores, other.text, others)
		}
		checkLike(t, k, other, false)
		checkLike(t, k, k, true)
		checkLike(t, other, other, true)
	}
	checkLike(t, knownWithText("6:001100010101011"), knownWithText("6:001010001011000"), false)
	checkLike(t, knownWithText("6:001010001011000"), knownWithText("6:101000011110011"), true)
}

// TestAreLikeOfOtherSizes takes tours of which the lesser one is a part of the greater one.
func TestAreLikeOfOtherSizes(t *testing.T) {
	for _, k := range fewToursForRotation() {
		for n := 1; n < k.tour.Size; n++ {
			part, _ := impl.PartTour(k.tour, 1<<n-1)
			checkLike(t, k, knownWithText(impl.FormatTour(part)), false)
		}
		for _, other := range someKnownTours() {
			if other.tour.Size != k.tour.Size {
				checkLike(t, k, other, false)
			}
		}
	}
}

// TestManyPlayers expects nothing of the functions that go through all names, of which there are too many for 7 and 8 players.
func TestManyPlayers(t *testing.T) {
	tours := append(knownTours(7, 64), knownTours(8, 64)...)
	for _, k := range fewToursForRotation() {
		if k.tour.Size > 6 {
			tours = append(tours, k)
		}
	}
	for _, k := range tours {
		checkSymmetries(t, k, 0)
		checkLeastName(t, k, "")
		checkLike(t, k, k, false)
		identity := numbersTo(0, k.tour.Size-1)
		if !impl.IsSymmetry(k.tour, identity) {
			t.Errorf("IsSymmetry(%s, %v) = false", k.text, identity)
		}
		if got, want := impl.IsRotational(k.tour), isRotationalIn(k); got != want {
			t.Errorf("IsRotational(%s) = %v, want %v", k.text, got, want)
		}
	}
}

func TestLeastName(t *testing.T) {
	for _, k := range toursForNames() {
		checkLeastName(t, k, leastTextIn(k))
		least, _ := impl.LeastName(k.tour)
		checkLeastName(t, knownWithText(impl.FormatTour(least)), impl.FormatTour(least))
		if impl.FormatTour(least) > k.text || !impl.AreLike(least, k.tour) {
			t.Errorf("LeastName(%s) = %s, which is greater or not like it", k.text, impl.FormatTour(least))
		}
	}
}

// TestLeastNameForOtherNames expects the same one of all tours that are like each other.
func TestLeastNameForOtherNames(t *testing.T) {
	for _, k := range fewToursForRotation() {
		if k.tour.Size > 6 {
			continue
		}
		least, symmetries := leastTextIn(k), len(symmetriesIn(k))
		for _, names := range someOrdersOf(k.tour.Size) {
			renamed := knownBy(k.tour.Size, renamedIn(k, names))
			checkLeastName(t, renamed, least)
			checkSymmetries(t, renamed, symmetries)
		}
	}
}

func TestCountKinds(t *testing.T) {
	for n, want := range []int{-1, 1, 1, 2, 4, 12} {
		if got := impl.CountKinds(n); got != want {
			t.Errorf("CountKinds(%d) = %d, want %d", n, got, want)
		}
	}
	for _, n := range append([]int{0, 6, 7, -3, -4, -5, 5 + 1<<8, 5 + 1<<32, 1 - 1<<32, math.MinInt + 5, math.MaxInt - 1}, oddSizes...) {
		if got := impl.CountKinds(n); got != -1 {
			t.Errorf("CountKinds(%d) = %d, want -1", n, got)
		}
	}
}

// TestCountKindsOfTours counts the least names of all tours, and adds the symmetries of all tours: those of one kind have together as many as there are names.
func TestCountKindsOfTours(t *testing.T) {
	for n := 1; n <= 5; n++ {
		texts := map[string]bool{}
		symmetries := 0
		for _, k := range knownTours(n, 1024) {
			least, _ := impl.LeastName(k.tour)
			texts[impl.FormatTour(least)] = true
			symmetries += impl.CountSymmetries(k.tour)
		}
		kinds := impl.CountKinds(n)
		if kinds != len(texts) || kinds*len(namesFor[n]()) != symmetries {
			t.Errorf("CountKinds(%d) = %d, but there are %d least names and %d symmetries in all", n, kinds, len(texts), symmetries)
		}
	}
}

func TestRotationsOfBrokenTours(t *testing.T) {
	tours := brokenTours()
	for _, w := range writtenSymmetries {
		tours = append(tours, spoiled(mustParse(t, w.text))...)
	}
	other := mustParse(t, "3:101")
	for _, broken := range tours {
		if impl.IsRotational(broken) || impl.CountSymmetries(broken) != 0 {
			t.Errorf("IsRotational(%v) = %v, CountSymmetries = %d, want false and 0", broken, impl.IsRotational(broken), impl.CountSymmetries(broken))
		}
		if least, ok := impl.LeastName(broken); !isNothing(least, ok) {
			t.Errorf("LeastName(%v) = %v, %v, want nothing", broken, least, ok)
		}
		if impl.AreLike(broken, broken) || impl.AreLike(broken, other) || impl.AreLike(other, broken) {
			t.Errorf("AreLike(%v) = true, want false", broken)
		}
		for n := range 10 {
			if names := numbersTo(0, n-1); impl.IsSymmetry(broken, names) {
				t.Errorf("IsSymmetry(%v, %v) = true, want false", broken, names)
			}
		}
	}
}

// TestBrokenToursAreNotLikeWhatTheyWere compares tours with what they become by one wrong number.
func TestBrokenToursAreNotLikeWhatTheyWere(t *testing.T) {
	for _, k := range someKnownTours() {
		for _, broken := range spoiled(k.tour) {
			if impl.AreLike(k.tour, broken) || impl.AreLike(broken, k.tour) {
				t.Errorf("AreLike(%s, %v) = true, want false", k.text, broken)
			}
		}
	}
}

func TestRotationsLeaveToursAsTheyAre(t *testing.T) {
	tours := fewToursForRotation()
	for i, k := range tours {
		n := k.tour.Size
		other := tours[(i+1)%len(tours)].tour
		winsMemory := append(slices.Clone(k.tour.Wins), 91, 92, 93)
		otherMemory := append(slices.Clone(other.Wins), -94, 95)
		tour := impl.Tour{Size: n, Wins: winsMemory[:n]}
		other.Wins = otherMemory[:other.Size]
		for label, call := range map[string]func() ([]int, string){
			"LeastName": func() ([]int, string) {
				least, ok := impl.LeastName(tour)
				return least.Wins, fmt.Sprint(least.Size, ok)
			},
			"IsRotational":    func() ([]int, string) { return nil, strconv.FormatBool(impl.IsRotational(tour)) },
			"CountSymmetries": func() ([]int, string) { return nil, strconv.Itoa(impl.CountSymmetries(tour)) },
			"AreLike": func() ([]int, string) {
				return nil, fmt.Sprint(impl.AreLike(tour, other), impl.AreLike(other, tour), impl.AreLike(tour, tour))
			},
		} {
			checkMemory(t, label+" of "+k.text, call, winsMemory, otherMemory)
		}
		for _, names := range append(someOrdersOf(n), nil, []int{-1}, make([]int, n), numbersTo(0, n)) {
			namesMemory := append(slices.Clone(names), 1, -96, 0)
			label := fmt.Sprintf("IsSymmetry of %s and %v", k.text, names)
			checkMemory(t, label, func() ([]int, string) {
				return nil, strconv.FormatBool(impl.IsSymmetry(tour, namesMemory[:len(names)]))
			}, winsMemory, namesMemory)
		}
	}
}

func TestConnectionsStayAsTheyAre(t *testing.T) {
	lists := [][]int{nil, {0}, {1, 1}, {2, 1}, {3, 2, 1}, {4, 2, 1}, {1, 2, 3, 4}, {6, 5, 4, 3, 2, 1}}
	for _, w := range writtenConnections {
		lists = append(lists, w.list)
	}
	for _, list := range lists {
		memory := append(slices.Clone(list), 3, -92, 1)
		argument := memory[:len(list)]
		for n := -1; n <= 9; n++ {
			label := fmt.Sprintf("of %d and %v", n, list)
			checkMemory(t, "RotationalTour "+label, func() ([]int, string) {
				tour, ok := impl.RotationalTour(n, argument)
				return tour.Wins, fmt.Sprint(tour.Size, ok)
			}, memory)
			checkMemory(t, "IsConnection "+label, func() ([]int, string) {
				return nil, strconv.FormatBool(impl.IsConnection(n, argument))
			}, memory)
			checkMemory(t, "SquareTour "+label, func() ([]int, string) {
				tour, ok := impl.SquareTour(n)
				return tour.Wins, fmt.Sprint(tour.Size, ok)
			})
		}
	}
}

// TestRotationsOfSeveralCalls holds the results of several calls and writes into one of them after the other.
func TestRotationsOfSeveralCalls(t *testing.T) {
	for _, w := range writtenConnections {
		tour := mustRotate(t, w.players, w.list)
		results := []impl.Tour{tour, mustRotate(t, w.players, w.list), mustRotate(t, w.players, w.list)}
		if w.players <= 6 {
			// That of a least name is the same tour in other memory.
			least, _ := impl.LeastName(tour)
			again, _ := impl.LeastName(least)
			results = append(results, least, again)
		}
		for range 2 {
			if square, ok := impl.SquareTour(w.players); ok {
				results = append(results, square)
			}
		}
		for i, result := range results {
			wins := result.Wins[:cap(result.Wins)]
			for at := range wins {
				wins[at] = -100 - i
			}
		}
		for i, result := range results {
			if slices.ContainsFunc(result.Wins, func(number int) bool { return number != -100-i }) {
				t.Errorf("the result %d of %s shares memory with another one", i, w.text)
			}
		}
	}
}
