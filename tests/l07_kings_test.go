package tests

import (
	"fmt"
	"math"
	"math/bits"
	"slices"
	"strconv"
	"strings"
	"sync"
	"testing"

	"loop.example/g03205/impl"
)

// toursForKings returns all tours of up to 5 players, some of 6, 7 and 8, some of several strong parts, and those that are written out.
var toursForKings = sync.OnceValue(func() []known {
	list := allKnownTours()
	for _, k := range builtTours() {
		list = append(list, k.known)
	}
	for _, w := range writtenKings {
		list = append(list, knownWithText(w.text))
	}
	return list
})

// knownWithText returns the tour of a text that is written as it should be.
func knownWithText(text string) known {
	n := int(text[0] - '0')
	var beats [8][8]bool
	at := 2
	for a := range n {
		for b := a + 1; b < n; b++ {
			beats[a][b] = text[at] == '1'
			beats[b][a] = !beats[a][b]
			at++
		}
	}
	return knownBy(n, beats)
}

// membersOf returns the numbers from 0 up to 64 that are in a set.
func membersOf(set int) []int {
	list := []int{}
	for a := range 64 {
		if uint(set)>>a%2 == 1 {
			list = append(list, a)
		}
	}
	return list
}

// isKingIn looks, for every other player b, for somebody in between if a does not beat b.
func isKingIn(k known, a int) bool {
	for b := range k.tour.Size {
		isReached := a == b || k.beats[a][b]
		for between := range k.tour.Size {
			isReached = isReached || k.beats[a][between] && k.beats[between][b]
		}
		if !isReached {
			return false
		}
	}
	return true
}

// kingsIn returns the set of the kings.
func kingsIn(k known) int {
	set := 0
	for a := range k.tour.Size {
		if isKingIn(k, a) {
			set += 1 << a
		}
	}
	return set
}

func doesCoverIn(k known, a, b int) bool {
	for c := range k.tour.Size {
		if k.beats[b][c] && !k.beats[a][c] {
			return false
		}
	}
	return k.beats[a][b]
}

// isBeatenBy reports whether one of the players of a set beats b.
func isBeatenBy(k known, set int, b int) bool {
	return slices.ContainsFunc(membersOf(set), func(a int) bool { return k.beats[a][b] })
}

func isDominatingIn(k known, set int) bool {
	if set <= 0 || set >= 1<<k.tour.Size {
		return false
	}
	for b := range k.tour.Size {
		if set>>b%2 == 0 && !isBeatenBy(k, set, b) {
			return false
		}
	}
	return true
}

// dominatingIn returns the dominating sets with the fewest players, in ascending order.
func dominatingIn(k known) []int {
	sets := []int{}
	for players := 1; len(sets) == 0; players++ {
		for set := range 1 << k.tour.Size {
			if bits.OnesCount(uint(set)) == players && isDominatingIn(k, set) {
				sets = append(sets, set)
			}
		}
	}
	return sets
}

// beatsAll reports whether a beats all other players of a list.
func beatsAll(k known, a int, list []int) bool {
	return !slices.ContainsFunc(list, func(b int) bool { return a != b && !k.beats[a][b] })
}

// banksIn puts players before others as long as there is one who beats them all, in all ways, and returns the set of those before whom nobody can be put.
func banksIn(k known) int {
	firsts := 0
	var lengthen func(list []int)
	lengthen = func(list []int) {
		isLongest := true
		for a := range k.tour.Size {
			if !slices.Contains(list, a) && beatsAll(k, a, list) {
				isLongest = false
				lengthen(append([]int{a}, list...))
			}
		}
		if isLongest {
			firsts |= 1 << list[0]
		}
	}
	for a := range k.tour.Size {
		lengthen([]int{a})
	}
	return firsts
}

func sovereignIn(k known) int {
	return slices.IndexFunc(numbersTo(0, k.tour.Size-1), func(a int) bool {
		return beatsAll(k, a, numbersTo(0, k.tour.Size-1))
	})
}

// stepIn goes through the scores from the greatest one on.
func stepIn(k known, a int) int {
	scores := knownScores(k)
	for score := k.tour.Size - 1; score >= 0; score-- {
		for b := range k.tour.Size {
			if scores[b] == score && k.beats[b][a] {
				return b
			}
		}
	}
	return a
}

func climbIn(k known, a int) int {
	for !isKingIn(k, a) {
		a = stepIn(k, a)
	}
	return a
}

// writtenKings are tours with their kings, their LeastDominating, their BanksSet, their SovereignOf, and where each player comes to by KingStep and by ClimbToKing.
var writtenKings = []struct {
	text      string
	kings     int
	least     int
	banks     int
	sovereign int
	steps     []int
	climbs    []int
}{
	{"1:", 1, 1, 1, 0, []int{0}, []int{0}},
	{"2:1", 1, 1, 1, 0, []int{0, 0}, []int{0, 0}},
	{"2:0", 2, 2, 2, 1, []int{1, 1}, []int{1, 1}},
	{"3:111", 1, 1, 1, 0, []int{0, 0, 0}, []int{0, 0, 0}},
	{"3:000", 4, 4, 4, 2, []int{2, 2, 2}, []int{2, 2, 2}},
	{"3:011", 2, 2, 2, 1, []int{1, 1, 1}, []int{1, 1, 1}},
	// Any two of three in a circle are dominating.
	{"3:101", 7, 3, 7, -1, []int{2, 0, 1}, []int{0, 1, 2}},
	{"3:010", 7, 3, 7, -1, []int{1, 2, 0}, []int{0, 1, 2}},
	{"4:111111", 1, 1, 1, 0, []int{0, 0, 0, 0}, []int{0, 0, 0, 0}},
	{"4:000000", 8, 8, 8, 3, []int{3, 3, 3, 3}, []int{3, 3, 3, 3}},
	// 0 beats the three others, who are in a circle.
	{"4:111101", 1, 1, 1, 0, []int{0, 0, 0, 0}, []int{0, 0, 0, 0}},
	{"4:011011", 7, 3, 7, -1, []int{1, 2, 0, 0}, []int{0, 1, 2, 0}},
	// 1 covers 2. 0 and 1 beat 2 with the same score.
	{"4:110111", 11, 3, 11, -1, []int{3, 0, 0, 1}, []int{0, 1, 0, 3}},
	{"4:001000", 13, 5, 13, -1, []int{2, 2, 3, 0}, []int{0, 2, 2, 3}},
	{"5:1100110111", 31, 5, 31, -1, []int{3, 0, 0, 1, 2}, []int{0, 1, 2, 3, 4}},
	{"5:1101110111", 15, 3, 15, -1, []int{3, 0, 0, 1, 0}, []int{0, 1, 2, 3, 0}},
	{"5:1101111111", 11, 3, 11, -1, []int{3, 0, 0, 1, 0}, []int{0, 1, 0, 3, 0}},
	{"5:1111101111", 1, 1, 1, 0, []int{0, 0, 0, 0, 0}, []int{0, 0, 0, 0, 0}},
	{"5:0110001001", 27, 3, 27, -1, []int{1, 3, 3, 0, 3}, []int{0, 1, 3, 3, 4}},
	{"6:101111111111101", 7, 3, 7, -1, []int{2, 0, 1, 0, 0, 0}, []int{0, 1, 2, 0, 0, 0}},
	{"6:111101111111111", 35, 3, 35, -1, []int{5, 0, 0, 0, 0, 1}, []int{0, 1, 0, 0, 0, 5}},
	// All are kings with scores that differ.
	{"6:101100101000101", 63, 17, 63, -1, []int{5, 0, 4, 0, 0, 4}, []int{0, 1, 2, 3, 4, 5}},
	{"7:111111111111111111111", 1, 1, 1, 0, []int{0, 0, 0, 0, 0, 0, 0}, []int{0, 0, 0, 0, 0, 0, 0}},
	{"7:000000000000000000000", 64, 64, 64, 6, []int{6, 6, 6, 6, 6, 6, 6}, []int{6, 6, 6, 6, 6, 6, 6}},
	{"7:010101101010101101011", 32, 32, 32, 5, []int{5, 5, 5, 5, 5, 5, 5}, []int{5, 5, 5, 5, 5, 5, 5}},
	{"7:010101111010100111011", 42, 10, 42, -1, []int{1, 5, 1, 1, 1, 3, 1}, []int{1, 1, 1, 3, 1, 5, 1}},
	// Any two players are beaten by a third one.
	{"7:110100110101101110111", 127, 7, 127, -1, []int{3, 0, 0, 1, 0, 1, 2}, []int{0, 1, 2, 3, 4, 5, 6}},
	// A king who is not in the Banks set: 4, 2, 4, 5, 2, 2 and 3.
	{"7:110101011110001110110", 27, 3, 11, -1, []int{3, 0, 0, 1, 0, 1, 0}, []int{0, 1, 0, 3, 4, 1, 0}},
	{"7:111010000110110101000", 127, 9, 123, -1, []int{6, 0, 0, 0, 3, 0, 3}, []int{0, 1, 2, 3, 4, 5, 6}},
	{"7:001010010111101111000", 110, 5, 46, -1, []int{2, 2, 5, 2, 2, 1, 2}, []int{2, 1, 2, 3, 2, 5, 6}},
	{"7:101110001010011000111", 127, 5, 95, -1, []int{2, 0, 4, 0, 0, 0, 2}, []int{0, 1, 2, 3, 4, 5, 6}},
	{"7:100111101100001011001", 59, 9, 27, -1, []int{3, 3, 3, 4, 0, 3, 3}, []int{0, 1, 3, 3, 4, 5, 3}},
	{"7:111110011000101111111", 109, 5, 105, -1, []int{6, 0, 0, 0, 0, 0, 3}, []int{0, 0, 2, 3, 0, 5, 6}},
	{"7:111110110010110011111", 91, 3, 83, -1, []int{6, 0, 0, 0, 0, 0, 4}, []int{0, 1, 0, 3, 4, 0, 6}},
	{"8:1111111111111111111111111111", 1, 1, 1, 0, []int{0, 0, 0, 0, 0, 0, 0, 0}, []int{0, 0, 0, 0, 0, 0, 0, 0}},
	{"8:0000000000000000000000000000", 128, 128, 128, 7, []int{7, 7, 7, 7, 7, 7, 7, 7}, []int{7, 7, 7, 7, 7, 7, 7, 7}},
	// All beat those after them, but the last one beats the first one.
	{"8:1111110111111111111111111111", 131, 3, 131, -1, []int{7, 0, 0, 0, 0, 0, 0, 1}, []int{0, 1, 0, 0, 0, 0, 0, 7}},
	// The three last ones are a circle that beats all others but for one game.
	{"8:1000000100000100001000100101", 224, 80, 224, -1, []int{6, 6, 6, 6, 6, 7, 5, 6}, []int{6, 6, 6, 6, 6, 5, 6, 7}},
	{"8:1011111111111101111111111101", 7, 3, 7, -1, []int{2, 0, 1, 0, 0, 0, 0, 0}, []int{0, 1, 2, 0, 0, 0, 0, 0}},
	{"8:1010111101010100010000110011", 247, 3, 247, -1, []int{4, 0, 4, 0, 1, 0, 0, 0}, []int{0, 1, 2, 0, 4, 5, 6, 7}},
	{"8:1101000011100101010111010111", 255, 9, 255, -1, []int{3, 2, 6, 2, 5, 2, 3, 2}, []int{0, 1, 2, 3, 4, 5, 6, 7}},
	{"8:0010110001100001100011000011", 255, 10, 253, -1, []int{2, 2, 3, 0, 6, 2, 2, 3}, []int{0, 1, 2, 3, 4, 5, 6, 7}},
	{"8:1111000111100111101111111111", 239, 9, 239, -1, []int{5, 0, 0, 0, 0, 1, 2, 3}, []int{0, 1, 2, 3, 0, 5, 6, 7}},
}

// checkTourNumbers compares what the functions that take nothing but a tour return.
func checkTourNumbers(t *testing.T, tour impl.Tour, kings, least, banks, sovereign int) {
	t.Helper()
	for _, c := range []struct {
		name string
		got  int
		want int
	}{
		{"KingsOf", impl.KingsOf(tour), kings},
		{"LeastDominating", impl.LeastDominating(tour), least},
		{"BanksSet", impl.BanksSet(tour), banks},
		{"SovereignOf", impl.SovereignOf(tour), sovereign},
	} {
		if c.got != c.want {
			t.Errorf("%s(%v) = %d, want %d", c.name, tour, c.got, c.want)
		}
	}
}

func TestWrittenKings(t *testing.T) {
	for _, w := range writtenKings {
		tour := mustParse(t, w.text)
		checkTourNumbers(t, tour, w.kings, w.least, w.banks, w.sovereign)
		for a := range tour.Size {
			if got, want := impl.IsKing(tour, a), w.kings>>a%2 == 1; got != want {
				t.Errorf("IsKing(%s, %d) = %v, want %v", w.text, a, got, want)
			}
			if got := impl.KingStep(tour, a); got != w.steps[a] {
				t.Errorf("KingStep(%s, %d) = %d, want %d", w.text, a, got, w.steps[a])
			}
			if got := impl.ClimbToKing(tour, a); got != w.climbs[a] {
				t.Errorf("ClimbToKing(%s, %d) = %d, want %d", w.text, a, got, w.climbs[a])
			}
		}
	}
}

func TestWrittenCovers(t *testing.T) {
	cases := []struct {
		text string
		// covers are the pairs of which the first one covers the second one.
		covers [][]int
	}{
		{"1:", nil},
		{"2:1", [][]int{{0, 1}}},
		{"2:0", [][]int{{1, 0}}},
		{"3:111", [][]int{{0, 1}, {0, 2}, {1, 2}}},
		{"3:101", nil},
		{"4:110111", [][]int{{1, 2}}},
		{"4:111101", [][]int{{0, 1}, {0, 2}, {0, 3}}},
		{"4:011011", [][]int{{0, 3}, {1, 3}, {2, 3}}},
		{"5:1100110111", nil},
		// 0 beats 4 and all whom 4 beats, which is 1 alone.
		{"5:1101110111", [][]int{{0, 4}}},
		{"7:110100110101101110111", nil},
	}
	for _, c := range cases {
		tour := mustParse(t, c.text)
		got := [][]int{}
		for a := range tour.Size {
			for b := range tour.Size {
				if impl.DoesCover(tour, a, b) {
					got = append(got, []int{a, b})
				}
			}
		}
		if !equalLists(got, c.covers) {
			t.Errorf("DoesCover(%s) is true for %v, want %v", c.text, got, c.covers)
		}
	}
}

func TestWrittenDominatingSets(t *testing.T) {
	cases := []struct {
		text string
		sets []int
	}{
		{"1:", []int{1}},
		{"2:1", []int{1, 3}},
		{"2:0", []int{2, 3}},
		{"3:111", []int{1, 3, 5, 7}},
		{"3:101", []int{3, 5, 6, 7}},
		// 0 beats 1 and 2, 1 beats 2 and 3, 2 beats 3, and 3 beats 0.
		{"4:110111", []int{3, 5, 7, 9, 10, 11, 13, 14, 15}},
		{"4:000000", []int{8, 9, 10, 11, 12, 13, 14, 15}},
	}
	for _, c := range cases {
		tour := mustParse(t, c.text)
		got := []int{}
		for set := -300; set <= 300; set++ {
			if impl.IsDominating(tour, set) {
				got = append(got, set)
			}
		}
		if !slices.Equal(got, c.sets) {
			t.Errorf("IsDominating(%s) is true for %v, want %v", c.text, got, c.sets)
		}
	}
}

func TestKingsOf(t *testing.T) {
	for _, k := range toursForKings() {
		if got, want := impl.KingsOf(k.tour), kingsIn(k); got != want {
			t.Errorf("KingsOf(%s) = %v, want %v", k.text, got, want)
		}
		for a := range k.tour.Size {
			if got, want := impl.IsKing(k.tour, a), isKingIn(k, a); got != want {
				t.Errorf("IsKing(%s, %d) = %v, want %v", k.text, a, got, want)
			}
		}
	}
}

func TestDoesCover(t *testing.T) {
	for _, k := range toursForKings() {
		for a := range k.tour.Size {
			for b := range k.tour.Size {
				if got, want := impl.DoesCover(k.tour, a, b), doesCoverIn(k, a, b); got != want {
					t.Errorf("DoesCover(%s, %d, %d) = %v, want %v", k.text, a, b, got, want)
				}
			}
			if impl.DoesCover(k.tour, a, a) {
				t.Errorf("DoesCover(%s, %d, %d) = true, want false", k.text, a, a)
			}
		}
	}
}

// TestKingsAreNotCovered checks that exactly those are kings whom nobody covers.
func TestKingsAreNotCovered(t *testing.T) {
	for _, k := range toursForKings() {
		for b := range k.tour.Size {
			isCovered := slices.ContainsFunc(numbersTo(0, k.tour.Size-1), func(a int) bool {
				return impl.DoesCover(k.tour, a, b)
			})
			if impl.IsKing(k.tour, b) == isCovered {
				t.Errorf("IsKing(%s, %d) = %v, but it is covered: %v", k.text, b, !isCovered, isCovered)
			}
		}
	}
}

// TestNumbersOfKings checks that there are one or at least three kings, those with the greatest scores among them, and one alone exactly if it beats all others.
func TestNumbersOfKings(t *testing.T) {
	// found[n] is the set of the numbers of kings in tours of n players.
	var found [9]int
	for _, k := range toursForKings() {
		kings := impl.KingsOf(k.tour)
		number := bits.OnesCount(uint(kings))
		found[k.tour.Size] |= 1 << number
		if number == 1 != (impl.SovereignOf(k.tour) >= 0) {
			t.Errorf("KingsOf(%s) = %d, but SovereignOf = %d", k.text, kings, impl.SovereignOf(k.tour))
		}
		scores := knownScores(k)
		for a, score := range scores {
			if score == slices.Max(scores) && kings>>a%2 == 0 {
				t.Errorf("KingsOf(%s) = %d, but %d has the greatest score", k.text, kings, a)
			}
		}
		if k.tour.Size%2 == 1 && impl.IsRegular(k.tour) && number != k.tour.Size {
			t.Errorf("KingsOf(%s) = %d, but all have the same score", k.text, kings)
		}
		if impl.IsTransitive(k.tour) && number != 1 {
			t.Errorf("KingsOf(%s) = %d, but the tour is transitive", k.text, kings)
		}
	}
	// Two players are never the only kings, and four players never all kings.
	want := [9]int{0, 0b10, 0b10, 0b1010, 0b1010, 0b111010, 0b1111010, 0b11111010, 0b111111010}
	if found != want {
		t.Errorf("the sets of the numbers of kings are %v, want %v", found, want)
	}
}

// TestKingsAreInTheFirstPart checks that the kings and the Banks set are those of the first strong part, and that KingStep leads into it.
func TestKingsAreInTheFirstPart(t *testing.T) {
	for _, k := range builtTours() {
		first := membersOf(k.parts[0])
		part, _ := impl.PartTour(k.tour, k.parts[0])
		for _, c := range []struct {
			name string
			of   func(impl.Tour) int
		}{
			{"KingsOf", impl.KingsOf},
			{"BanksSet", impl.BanksSet},
			{"LeastDominating", impl.LeastDominating},
		} {
			want := 0
			for _, i := range membersOf(c.of(part)) {
				want += 1 << first[i]
			}
			if got := c.of(k.tour); got != want {
				t.Errorf("%s(%s) = %d, want %d by the first part", c.name, k.text, got, want)
			}
		}
		for a := range k.tour.Size {
			if next := impl.KingStep(k.tour, a); k.parts[0]>>next%2 == 0 {
				t.Errorf("KingStep(%s, %d) = %d, which is not in the first part %v", k.text, a, next, first)
			}
		}
	}
}

func TestIsDominating(t *testing.T) {
	for _, k := range toursForKings() {
		all := 1<<k.tour.Size - 1
		for set := -2; set <= 2*all+2; set++ {
			if got, want := impl.IsDominating(k.tour, set), isDominatingIn(k, set); got != want {
				t.Errorf("IsDominating(%s, %d) = %v, want %v", k.text, set, got, want)
			}
		}
		if impl.IsDominating(k.tour, 0) || !impl.IsDominating(k.tour, all) {
			t.Errorf("IsDominating(%s) of no players = %v, of all players = %v", k.text, impl.IsDominating(k.tour, 0), impl.IsDominating(k.tour, all))
		}
		for a := range k.tour.Size {
			if got, want := impl.IsDominating(k.tour, 1<<a), impl.SovereignOf(k.tour) == a; got != want {
				t.Errorf("IsDominating(%s) of %d alone = %v, want %v", k.text, a, got, want)
			}
		}
	}
}

func TestLeastDominating(t *testing.T) {
	severalSets, mostPlayers := 0, 0
	for _, k := range toursForKings() {
		sets := dominatingIn(k)
		if got := impl.LeastDominating(k.tour); got != sets[0] {
			t.Errorf("LeastDominating(%s) = %d, want %d of %v", k.text, got, sets[0], sets)
		}
		if len(sets) > 1 {
			severalSets++
		}
		mostPlayers = max(mostPlayers, bits.OnesCount(uint(sets[0])))
	}
	if severalSets == 0 || mostPlayers != 3 {
		t.Errorf("%d tours have several dominating sets, and the most players are %d, want 3", severalSets, mostPlayers)
	}
}

// setsWithoutMore returns the transitive sets of players to which nobody can be added who beats all of them.
func setsWithoutMore(k known) []int {
	sets := []int{}
	for set := 1; set < 1<<k.tour.Size; set++ {
		players := membersOf(set)
		isBeaten := slices.ContainsFunc(numbersTo(0, k.tour.Size-1), func(b int) bool {
			return !slices.Contains(players, b) && beatsAll(k, b, players)
		})
		if !isBeaten && isTransitiveIn(k.beats, set) {
			sets = append(sets, set)
		}
	}
	return sets
}

func TestBanksSet(t *testing.T) {
	smaller := 0
	for _, k := range toursForKings() {
		got, want := impl.BanksSet(k.tour), banksIn(k)
		if got != want {
			t.Errorf("BanksSet(%s) = %d, want %d", k.text, got, want)
		}
		kings := kingsIn(k)
		if got&^kings != 0 || got == 0 {
			t.Errorf("BanksSet(%s) = %d, but the kings are %d", k.text, got, kings)
		}
		if got != kings {
			smaller++
		}
	}
	if smaller < 7 {
		t.Errorf("BanksSet is another set than KingsOf in %d tours, want 7 at least", smaller)
	}
}

// TestBanksSetBySets takes the first one in the TransitiveOrder of each set, as the chapter says.
func TestBanksSetBySets(t *testing.T) {
	tours := someKnownTours()
	for _, w := range writtenKings {
		tours = append(tours, knownWithText(w.text))
	}
	for _, k := range tours {
		want := 0
		for _, set := range setsWithoutMore(k) {
			part, _ := impl.PartTour(k.tour, set)
			order, ok := impl.TransitiveOrder(part)
			if !ok {
				t.Fatalf("TransitiveOrder of %d in %s fails", set, k.text)
			}
			want |= 1 << membersOf(set)[order[0]]
		}
		if got := impl.BanksSet(k.tour); got != want {
			t.Errorf("BanksSet(%s) = %d, want %d", k.text, got, want)
		}
	}
}

func TestSovereignOf(t *testing.T) {
	for _, k := range toursForKings() {
		if got, want := impl.SovereignOf(k.tour), sovereignIn(k); got != want {
			t.Errorf("SovereignOf(%s) = %d, want %d", k.text, got, want)
		}
	}
}

// TestEachSovereign makes each player in turn beat all others.
func TestEachSovereign(t *testing.T) {
	for _, k := range someKnownTours() {
		for a := range k.tour.Size {
			beats := k.beats
			for b := range k.tour.Size {
				beats[a][b] = a != b
				beats[b][a] = false
			}
			sovereign := knownBy(k.tour.Size, beats)
			checkTourNumbers(t, sovereign.tour, 1<<a, 1<<a, 1<<a, a)
			for b := range k.tour.Size {
				if step, climb := impl.KingStep(sovereign.tour, b), impl.ClimbToKing(sovereign.tour, b); step != a || climb != a {
					t.Errorf("KingStep(%s, %d) = %d, ClimbToKing = %d, want %d", sovereign.text, b, step, climb, a)
				}
			}
		}
	}
}

func TestKingStep(t *testing.T) {
	for _, k := range toursForKings() {
		scores := knownScores(k)
		for a := range k.tour.Size {
			got := impl.KingStep(k.tour, a)
			if want := stepIn(k, a); got != want {
				t.Errorf("KingStep(%s, %d) = %d, want %d, the scores are %v", k.text, a, got, want, scores)
			}
			if (got == a) != (scores[a] == k.tour.Size-1) {
				t.Errorf("KingStep(%s, %d) = %d, the scores are %v", k.text, a, got, scores)
			}
		}
	}
}

func TestClimbToKing(t *testing.T) {
	for _, k := range toursForKings() {
		for a := range k.tour.Size {
			got := impl.ClimbToKing(k.tour, a)
			if want := climbIn(k, a); got != want {
				t.Errorf("ClimbToKing(%s, %d) = %d, want %d", k.text, a, got, want)
			}
			if !impl.IsKing(k.tour, got) || impl.IsKing(k.tour, a) && got != a {
				t.Errorf("ClimbToKing(%s, %d) = %d, and the kings are %d", k.text, a, got, impl.KingsOf(k.tour))
			}
		}
	}
}

func TestKingsForOtherNames(t *testing.T) {
	tours := someKnownTours()
	for _, w := range writtenKings {
		tours = append(tours, knownWithText(w.text))
	}
	for _, k := range tours {
		scores := knownScores(k)
		for _, names := range someOrdersOf(k.tour.Size) {
			renamed, _ := impl.RenameTour(k.tour, names)
			label := fmt.Sprintf("%s, renamed by %v", k.text, names)
			kings, banks := 0, 0
			for a, name := range names {
				kings += impl.KingsOf(k.tour) >> a % 2 << name
				banks += impl.BanksSet(k.tour) >> a % 2 << name
				step, before := impl.KingStep(renamed, name), impl.KingStep(k.tour, a)
				if scores[slices.Index(names, step)] != scores[before] {
					t.Errorf("KingStep of %d in %s is %d, but it was %d with another score", name, label, step, before)
				}
				for b, other := range names {
					if got, want := impl.DoesCover(renamed, name, other), impl.DoesCover(k.tour, a, b); got != want {
						t.Errorf("DoesCover of %d and %d in %s = %v, want %v", name, other, label, got, want)
					}
				}
			}
			if got := impl.KingsOf(renamed); got != kings {
				t.Errorf("KingsOf(%s) = %d, want %d", label, got, kings)
			}
			if got := impl.BanksSet(renamed); got != banks {
				t.Errorf("BanksSet(%s) = %d, want %d", label, got, banks)
			}
			if got, want := len(membersOf(impl.LeastDominating(renamed))), len(membersOf(impl.LeastDominating(k.tour))); got != want {
				t.Errorf("LeastDominating(%s) has %d players, want %d", label, got, want)
			}
			if got, want := impl.SovereignOf(renamed), impl.SovereignOf(k.tour); got < 0 != (want < 0) || got >= 0 && got != names[want] {
				t.Errorf("SovereignOf(%s) = %d, and %d before", label, got, want)
			}
		}
	}
}

// writtenCounts are the numbers of tours of n players with 0, 1 and more kings.
var writtenCounts = map[int][]int{
	1: {0, 1},
	2: {0, 2, 0},
	3: {0, 6, 0, 2},
	4: {0, 32, 0, 32, 0},
	5: {0, 320, 0, 520, 120, 64},
}

func TestCountKings(t *testing.T) {
	for n, want := range writtenCounts {
		numbers := make([]int, n+1)
		for _, k := range knownTours(n, 1024) {
			numbers[bits.OnesCount(uint(kingsIn(k)))]++
		}
		for kings := range n + 1 {
			if got := impl.CountKings(n, kings); got != want[kings] || got != numbers[kings] {
				t.Errorf("CountKings(%d, %d) = %d, want %d, and there are %d", n, kings, got, want[kings], numbers[kings])
			}
		}
	}
}

func TestCountKingsOfOddNumbers(t *testing.T) {
	odd := append([]int{6, 7, 10, -3, -5, 1 << 32, 1<<32 + 3, 1<<32 + 5, 3 - 1<<32, math.MinInt + 3, math.MaxInt - 1}, oddInts...)
	for _, n := range append([]int{0}, odd...) {
		for _, k := range append(numbersTo(-1, 8), odd...) {
			if got := impl.CountKings(n, k); got != -1 {
				t.Errorf("CountKings(%d, %d) = %d, want -1", n, k, got)
			}
		}
	}
	for n := 1; n <= 5; n++ {
		for _, k := range append([]int{n + 1, n + 64, n + 1<<32, -n}, odd...) {
			if got := impl.CountKings(n, k); got != -1 {
				t.Errorf("CountKings(%d, %d) = %d, want -1", n, k, got)
			}
		}
	}
}

// checkNoKings expects that two numbers, of which at least one is no player, are nothing to any function that takes players.
func checkNoKings(t *testing.T, tour impl.Tour, a int, b int) {
	t.Helper()
	if impl.DoesCover(tour, a, b) || impl.DoesCover(tour, b, a) {
		t.Errorf("DoesCover(%v) of %d and %d = true, want false", tour, a, b)
	}
	if impl.IsKing(tour, a) {
		t.Errorf("IsKing(%v, %d) = true, want false", tour, a)
	}
	if step, climb := impl.KingStep(tour, a), impl.ClimbToKing(tour, a); step != -1 || climb != -1 {
		t.Errorf("KingStep(%v, %d) = %d, ClimbToKing = %d, want -1", tour, a, step, climb)
	}
}

func TestKingsOfNoPlayers(t *testing.T) {
	tours := someKnownTours()
	for _, w := range writtenKings {
		tours = append(tours, knownWithText(w.text))
	}
	for _, k := range tours {
		for _, odd := range append([]int{k.tour.Size, k.tour.Size + 1, 1 << 32, math.MaxInt - 1, -64, -63}, oddInts...) {
			for b := range k.tour.Size {
				checkNoKings(t, k.tour, odd, b)
			}
			checkNoKings(t, k.tour, odd, odd)
		}
	}
}

func TestDominatingSetsOfOddNumbers(t *testing.T) {
	tours := someKnownTours()
	for _, w := range writtenKings {
		tours = append(tours, knownWithText(w.text))
	}
	for _, k := range tours {
		n := k.tour.Size
		all := 1<<n - 1
		for _, set := range []int{1 << n, 1<<n + all, all + 1<<8, all + 1<<32, all + 1<<62, 1 << 62, math.MaxInt, math.MinInt, math.MinInt + all, -1, -2, -all, all - 1<<10, all - 1<<32} {
			if impl.IsDominating(k.tour, set) {
				t.Errorf("IsDominating(%s, %d) = true, want false", k.text, set)
			}
		}
	}
}

func TestKingsOfBrokenTours(t *testing.T) {
	tours := brokenTours()
	for _, w := range writtenKings {
		tours = append(tours, spoiled(mustParse(t, w.text))...)
	}
	for _, broken := range tours {
		checkTourNumbers(t, broken, 0, 0, 0, -1)
		for _, a := range append(numbersTo(-1, 9), math.MinInt, math.MaxInt) {
			for _, b := range []int{-1, 0, 1, 2, 7, 8, a} {
				checkNoKings(t, broken, a, b)
			}
		}
		for _, set := range append(numbersTo(-1, 16), 31, 63, 127, 128, 255, 256, 511, math.MinInt, math.MaxInt) {
			if impl.IsDominating(broken, set) {
				t.Errorf("IsDominating(%v, %d) = true, want false", broken, set)
			}
		}
	}
}

func TestKingsLeaveToursAsTheyAre(t *testing.T) {
	tours := someKnownTours()
	for _, w := range writtenKings {
		tours = append(tours, knownWithText(w.text))
	}
	for _, k := range tours {
		memory := append(slices.Clone(k.tour.Wins), 91, 92, 93)
		tour := impl.Tour{Size: k.tour.Size, Wins: memory[:k.tour.Size]}
		calls := map[string]func() int{
			"KingsOf":         func() int { return impl.KingsOf(tour) },
			"LeastDominating": func() int { return impl.LeastDominating(tour) },
			"BanksSet":        func() int { return impl.BanksSet(tour) },
			"SovereignOf":     func() int { return impl.SovereignOf(tour) },
		}
		for a := range tour.Size {
			player := " of " + strconv.Itoa(a)
			calls["KingStep"+player] = func() int { return impl.KingStep(tour, a) }
			calls["ClimbToKing"+player] = func() int { return impl.ClimbToKing(tour, a) }
		}
		for label, call := range calls {
			checkMemory(t, label+" in "+k.text, func() ([]int, string) { return []int{call()}, "" }, memory)
		}
		checkMemory(t, "IsKing, DoesCover and IsDominating in "+k.text, func() ([]int, string) {
			answers := []string{}
			for a := range tour.Size {
				answers = append(answers, strconv.FormatBool(impl.IsKing(tour, a)))
				for b := range tour.Size {
					answers = append(answers, strconv.FormatBool(impl.DoesCover(tour, a, b)))
				}
			}
			for set := range 1 << tour.Size {
				answers = append(answers, strconv.FormatBool(impl.IsDominating(tour, set)))
			}
			return nil, strings.Join(answers, " ")
		}, memory)
	}
}
