package tests

import (
	"fmt"
	"math"
	"slices"
	"strconv"
	"testing"

	"loop.example/g03205/impl"
)

// row has the home club, the away club, the goals given and those taken of a result.
type row [4]int

func resultOf(r row) impl.Result {
	return impl.Result{Home: r[0], Away: r[1], Given: r[2], Taken: r[3]}
}

func leagueOf(clubs int, rows ...row) impl.League {
	x := impl.League{Clubs: clubs}
	for _, r := range rows {
		x.Results = append(x.Results, resultOf(r))
	}
	return x
}

// playedLeague returns a league with results that follow from a seed, with goals from 0 to most.
func playedLeague(clubs int, results int, most int, seed int) impl.League {
	state := uint64(seed)
	below := func(n int) int {
		state = state*6364136223846793005 + 1442695040888963407
		return int(state>>33) % n
	}
	x := impl.League{Clubs: clubs}
	for range results {
		home := below(clubs)
		away := (home + 1 + below(clubs-1)) % clubs
		x.Results = append(x.Results, resultOf(row{home, away, below(most + 1), below(most + 1)}))
	}
	return x
}

// playedLeagues returns leagues of all numbers of clubs with from 0 to 60 results; with few goals, many clubs are equal in points, in points and difference, and in goals, too.
func playedLeagues() []impl.League {
	list := []impl.League{}
	for clubs := 2; clubs <= 8; clubs++ {
		for _, results := range []int{0, 1, 2, 3, 4, 6, 9, 14, 28, 59, 60} {
			for _, most := range []int{0, 1, 2, 5, 99} {
				list = append(list, playedLeague(clubs, results, most, 1+clubs*7919+results*104729+most))
			}
		}
	}
	return list
}

// someLeagues returns a few leagues of each number of clubs.
func someLeagues() []impl.League {
	list := []impl.League{}
	for clubs := 2; clubs <= 8; clubs++ {
		for _, results := range []int{0, 1, 5, 59, 60} {
			list = append(list, playedLeague(clubs, results, 3, clubs+results))
		}
	}
	for _, w := range writtenLeagues {
		list = append(list, w.league)
	}
	return list
}

// standing has what a club has reached.
type standing struct{ wins, draws, defeats, made, against int }

func (s standing) points() int { return 3*s.wins + s.draws }

func (s standing) isAhead(other standing) bool {
	own := []int{s.points(), s.made - s.against, s.made}
	return slices.Compare(own, []int{other.points(), other.made - other.against, other.made}) > 0
}

func standingIn(x impl.League, club int) standing {
	var s standing
	count := func(made int, against int) {
		s.made += made
		s.against += against
		switch {
		case made-against > 0:
			s.wins++
		case made-against < 0:
			s.defeats++
		default:
			s.draws++
		}
	}
	for _, r := range x.Results {
		if r.Home == club {
			count(r.Given, r.Taken)
		} else if r.Away == club {
			count(r.Taken, r.Given)
		}
	}
	return s
}

func standingsIn(x impl.League) []standing {
	list := []standing{}
	for club := range x.Clubs {
		list = append(list, standingIn(x, club))
	}
	return list
}

// tableIn takes, again and again, the club that is ahead of all that are left, of equal ones the first one.
func tableIn(standings []standing) []int {
	left, table := numbersTo(0, len(standings)-1), []int{}
	for len(left) > 0 {
		best := 0
		for i, club := range left {
			if standings[club].isAhead(standings[left[best]]) {
				best = i
			}
		}
		table = append(table, left[best])
		left = slices.Delete(left, best, best+1)
	}
	return table
}

// meetingsIn counts the results between each two clubs.
func meetingsIn(x impl.League) [8][8]int {
	var meetings [8][8]int
	for _, r := range x.Results {
		meetings[r.Home][r.Away]++
		meetings[r.Away][r.Home]++
	}
	return meetings
}

// restIn returns the games that are left, and none at all if two clubs have met more often.
func restIn(x impl.League, each int) [][]int {
	meetings, list := meetingsIn(x), [][]int{}
	for a := range x.Clubs {
		for b := a + 1; b < x.Clubs; b++ {
			if meetings[a][b] > each {
				return nil
			}
			if meetings[a][b] < each {
				list = append(list, []int{a, b, each - meetings[a][b]})
			}
		}
	}
	return list
}

// amongIn returns the results between two clubs of a set.
func amongIn(x impl.League, set int) []impl.Result {
	clubs := membersOf(set)
	return slices.DeleteFunc(slices.Clone(x.Results), func(r impl.Result) bool {
		return !slices.Contains(clubs, r.Home) || !slices.Contains(clubs, r.Away)
	})
}

func equalLeagues(x, y impl.League) bool {
	return x.Clubs == y.Clubs && slices.Equal(x.Results, y.Results)
}

// isNoLeague reports whether these are the results of a function that fails.
func isNoLeague(x impl.League, ok bool) bool { return !ok && x.Clubs == 0 && len(x.Results) == 0 }

// writtenLeagues are leagues whose numbers are written out by hand: points, goals made and against, wins, draws and defeats of each club, and who is unbeaten.
var writtenLeagues = []struct {
	league   impl.League
	table    []int
	points   []int
	goals    [][2]int
	records  [][3]int
	unbeaten int
}{
	{leagueOf(2), []int{0, 1}, []int{0, 0}, [][2]int{{0, 0}, {0, 0}}, [][3]int{{0, 0, 0}, {0, 0, 0}}, 3},
	{leagueOf(2, row{0, 1, 0, 0}), []int{0, 1}, []int{1, 1}, [][2]int{{0, 0}, {0, 0}}, [][3]int{{0, 1, 0}, {0, 1, 0}}, 3},
	{leagueOf(2, row{0, 1, 0, 1}), []int{1, 0}, []int{0, 3}, [][2]int{{0, 1}, {1, 0}}, [][3]int{{0, 0, 1}, {1, 0, 0}}, 2},
	{leagueOf(2, row{1, 0, 0, 99}), []int{0, 1}, []int{3, 0}, [][2]int{{99, 0}, {0, 99}}, [][3]int{{1, 0, 0}, {0, 0, 1}}, 1},
	// One win each, of which that of club 1 is the higher one.
	{leagueOf(2, row{0, 1, 1, 0}, row{0, 1, 0, 2}), []int{1, 0}, []int{3, 3}, [][2]int{{1, 2}, {2, 1}}, [][3]int{{1, 0, 1}, {1, 0, 1}}, 0},
	{
		leagueOf(3, row{0, 1, 2, 1}, row{1, 2, 1, 1}, row{2, 0, 3, 0}), []int{2, 0, 1}, []int{3, 1, 4},
		[][2]int{{2, 4}, {2, 3}, {4, 1}}, [][3]int{{1, 0, 1}, {0, 1, 1}, {1, 1, 0}}, 4,
	},
	// Three draws have as many points as a win: clubs 0 and 3 are equal in points, and in difference they are not.
	{
		leagueOf(5, row{0, 1, 1, 1}, row{2, 0, 0, 0}, row{0, 4, 2, 2}, row{3, 4, 1, 0}), []int{3, 0, 1, 2, 4}, []int{3, 1, 1, 3, 1},
		[][2]int{{3, 3}, {1, 1}, {0, 0}, {1, 0}, {2, 3}}, [][3]int{{0, 3, 0}, {0, 1, 0}, {0, 1, 0}, {1, 0, 0}, {0, 1, 1}}, 15,
	},
	// Clubs 0 and 2 are equal in points and difference, and so are 1 and 3: the goals that they made decide.
	{
		leagueOf(4, row{0, 1, 2, 1}, row{3, 2, 4, 5}), []int{2, 0, 3, 1}, []int{3, 0, 3, 0},
		[][2]int{{2, 1}, {1, 2}, {5, 4}, {4, 5}}, [][3]int{{1, 0, 0}, {0, 0, 1}, {1, 0, 0}, {0, 0, 1}}, 5,
	},
	// These are equal in goals, too: the least number is first.
	{
		leagueOf(4, row{2, 3, 2, 1}, row{1, 0, 1, 2}), []int{0, 2, 1, 3}, []int{3, 0, 3, 0},
		[][2]int{{2, 1}, {1, 2}, {2, 1}, {1, 2}}, [][3]int{{1, 0, 0}, {0, 0, 1}, {1, 0, 0}, {0, 0, 1}}, 5,
	},
	// More points are ahead of a greater difference, and a greater difference ahead of more goals.
	{
		leagueOf(6, row{0, 1, 99, 0}, row{2, 3, 1, 0}, row{2, 3, 1, 0}, row{4, 5, 60, 50}), []int{2, 0, 4, 3, 5, 1}, []int{3, 0, 6, 0, 3, 0},
		[][2]int{{99, 0}, {0, 99}, {2, 0}, {0, 2}, {60, 50}, {50, 60}}, [][3]int{{1, 0, 0}, {0, 0, 1}, {2, 0, 0}, {0, 0, 2}, {1, 0, 0}, {0, 0, 1}}, 21,
	},
	// A club without a result is ahead of those who lost, by its points or its difference.
	{
		leagueOf(8, row{7, 3, 1, 0}, row{6, 7, 0, 0}), []int{7, 6, 0, 1, 2, 4, 5, 3}, []int{0, 0, 0, 0, 0, 0, 1, 4},
		[][2]int{{0, 0}, {0, 0}, {0, 0}, {0, 1}, {0, 0}, {0, 0}, {0, 0}, {1, 0}}, [][3]int{{}, {}, {}, {0, 0, 1}, {}, {}, {0, 1, 0}, {1, 1, 0}}, 247,
	},
	// All won once and lost once, so that no club is unbeaten and all are equal.
	{
		leagueOf(3, row{2, 0, 1, 0}, row{0, 1, 1, 0}, row{1, 2, 1, 0}), []int{0, 1, 2}, []int{3, 3, 3},
		[][2]int{{1, 1}, {1, 1}, {1, 1}}, [][3]int{{1, 0, 1}, {1, 0, 1}, {1, 0, 1}}, 0,
	},
}

func TestWrittenLeagues(t *testing.T) {
	for _, w := range writtenLeagues {
		x := w.league
		if !impl.LeagueOk(x) {
			t.Errorf("LeagueOk(%v) = false", x)
		}
		if got := impl.PointsOf(x); !slices.Equal(got, w.points) {
			t.Errorf("PointsOf(%v) = %v, want %v", x, got, w.points)
		}
		if got := impl.TableOf(x); !slices.Equal(got, w.table) {
			t.Errorf("TableOf(%v) = %v, want %v", x, got, w.table)
		}
		if got := impl.UnbeatenIn(x); got != w.unbeaten {
			t.Errorf("UnbeatenIn(%v) = %d, want %d", x, got, w.unbeaten)
		}
		for club := range x.Clubs {
			made, against := impl.GoalsOf(x, club)
			if got := [2]int{made, against}; got != w.goals[club] {
				t.Errorf("GoalsOf(%v, %d) = %v, want %v", x, club, got, w.goals[club])
			}
			wins, draws, defeats := impl.RecordOf(x, club)
			if got := [3]int{wins, draws, defeats}; got != w.records[club] {
				t.Errorf("RecordOf(%v, %d) = %v, want %v", x, club, got, w.records[club])
			}
		}
	}
}

// checkClubs compares what a league says of all its clubs.
func checkClubs(t *testing.T, x impl.League) {
	t.Helper()
	if !impl.LeagueOk(x) {
		t.Fatalf("LeagueOk(%v) = false", x)
	}
	standings := standingsIn(x)
	unbeaten := 0
	for club, s := range standings {
		if s.defeats == 0 {
			unbeaten += 1 << club
		}
		if made, against := impl.GoalsOf(x, club); made != s.made || against != s.against {
			t.Errorf("GoalsOf(%v, %d) = %d, %d, want %d, %d", x, club, made, against, s.made, s.against)
		}
		if wins, draws, defeats := impl.RecordOf(x, club); wins != s.wins || draws != s.draws || defeats != s.defeats {
			t.Errorf("RecordOf(%v, %d) = %d, %d, %d, want %d, %d, %d", x, club, wins, draws, defeats, s.wins, s.draws, s.defeats)
		}
	}
	if got, want := impl.PointsOf(x), listOf(x.Clubs, func(club int) int { return standings[club].points() }); !slices.Equal(got, want) {
		t.Errorf("PointsOf(%v) = %v, want %v", x, got, want)
	}
	if got, want := impl.TableOf(x), tableIn(standings); !slices.Equal(got, want) {
		t.Errorf("TableOf(%v) = %v, want %v", x, got, want)
	}
	if got := impl.UnbeatenIn(x); got != unbeaten {
		t.Errorf("UnbeatenIn(%v) = %d, want %d", x, got, unbeaten)
	}
}

// checkGames compares what a league says of all pairs and all sets of its clubs.
func checkGames(t *testing.T, x impl.League) {
	t.Helper()
	meetings := meetingsIn(x)
	for a := range x.Clubs {
		for b := range x.Clubs {
			want := meetings[a][b]
			if a == b {
				want = -1
			}
			if got := impl.MeetingsOf(x, a, b); got != want {
				t.Errorf("MeetingsOf(%v, %d, %d) = %d, want %d", x, a, b, got, want)
			}
		}
	}
	for set := range 1 << x.Clubs {
		want := impl.League{Clubs: x.Clubs, Results: amongIn(x, set)}
		if got, ok := impl.AmongClubs(x, set); !ok || !equalLeagues(got, want) {
			t.Errorf("AmongClubs(%v, %d) = %v, %v, want %v", x, set, got, ok, want)
		}
	}
	for each := range 5 {
		if got, want := impl.RestOf(x, each), restIn(x, each); !equalLists(got, want) {
			t.Errorf("RestOf(%v, %d) = %v, want %v", x, each, got, want)
		}
	}
}

func TestPlayedLeagues(t *testing.T) {
	for _, x := range playedLeagues() {
		checkClubs(t, x)
		checkGames(t, x)
	}
}

// visitLeagues visits all leagues of so many clubs and results with goals from 0 to most.
func visitLeagues(clubs int, results int, most int, visit func(x impl.League)) {
	rows := []row{}
	listsOf(4, numbersTo(0, max(clubs-1, most)), func(list []int) {
		if r := row(list); max(r[0], r[1]) < clubs && r[0] != r[1] && max(r[2], r[3]) <= most {
			rows = append(rows, r)
		}
	})
	listsOf(results, numbersTo(0, len(rows)-1), func(list []int) {
		x := impl.League{Clubs: clubs}
		for _, i := range list {
			x.Results = append(x.Results, resultOf(rows[i]))
		}
		visit(x)
	})
}

func TestAllSmallLeagues(t *testing.T) {
	for _, c := range []struct{ clubs, results, most, leagues int }{
		{2, 0, 0, 1}, {2, 1, 3, 32}, {2, 2, 3, 1024}, {2, 3, 2, 5832},
		{3, 0, 0, 1}, {3, 1, 3, 96}, {3, 2, 2, 2916}, {3, 3, 1, 13824},
		{4, 1, 2, 108}, {4, 2, 1, 2304}, {5, 2, 1, 6400}, {8, 1, 1, 224},
	} {
		visited := 0
		visitLeagues(c.clubs, c.results, c.most, func(x impl.League) {
			visited++
			checkClubs(t, x)
			checkGames(t, x)
		})
		if visited != c.leagues {
			t.Errorf("%d clubs have %d leagues of %d results with at most %d goals, want %d", c.clubs, visited, c.results, c.most, c.leagues)
		}
	}
}

// TestGoalsAtTheirBounds takes results with all goals near 0 and 99.
func TestGoalsAtTheirBounds(t *testing.T) {
	for _, given := range []int{0, 1, 2, 50, 97, 98, 99} {
		for _, taken := range []int{0, 1, 2, 50, 97, 98, 99} {
			for clubs := 2; clubs <= 8; clubs++ {
				checkClubs(t, leagueOf(clubs, row{0, clubs - 1, given, taken}))
				checkClubs(t, leagueOf(clubs, row{clubs - 1, 0, given, taken}))
				checkClubs(t, leagueOf(clubs, slices.Repeat([]row{{1, 0, given, taken}}, 60)...))
			}
		}
	}
}

// TestPointsAndGoalsAreShared checks that each result gives 3 points or 2, and its goals, to both of its clubs together.
func TestPointsAndGoalsAreShared(t *testing.T) {
	for _, x := range playedLeagues() {
		points, goals := 0, 0
		for _, r := range x.Results {
			goals += r.Given + r.Taken
			points += 3
			if r.Given == r.Taken {
				points--
			}
		}
		sumMade, sumAgainst, sumWins, sumDraws, sumDefeats := 0, 0, 0, 0, 0
		for club, own := range impl.PointsOf(x) {
			made, against := impl.GoalsOf(x, club)
			wins, draws, defeats := impl.RecordOf(x, club)
			sumMade, sumAgainst = sumMade+made, sumAgainst+against
			sumWins, sumDraws, sumDefeats = sumWins+wins, sumDraws+draws, sumDefeats+defeats
			if own != 3*wins+draws {
				t.Errorf("the club %d of %v has %d points for %d wins and %d draws", club, x, own, wins, draws)
			}
			if unbeaten := impl.UnbeatenIn(x)&(1<<club) != 0; unbeaten != (defeats == 0) {
				t.Errorf("the club %d of %v has %d defeats, but UnbeatenIn says %v", club, x, defeats, unbeaten)
			}
		}
		if got := sumOf(impl.PointsOf(x)); got != points || sumMade != goals || sumAgainst != goals {
			t.Errorf("the clubs of %v have %d points and %d and %d goals in all, want %d and %d", x, got, sumMade, sumAgainst, points, goals)
		}
		if sumWins != sumDefeats || sumDraws%2 != 0 || sumWins+sumDraws/2 != len(x.Results) {
			t.Errorf("the clubs of %v have %d wins, %d draws and %d defeats in all", x, sumWins, sumDraws, sumDefeats)
		}
	}
}

// TestEachResultIsForItsClubsAlone compares leagues with and without their last result.
func TestEachResultIsForItsClubsAlone(t *testing.T) {
	for _, x := range playedLeagues() {
		if len(x.Results) == 0 {
			continue
		}
		before := impl.League{Clubs: x.Clubs, Results: x.Results[:len(x.Results)-1]}
		last := x.Results[len(x.Results)-1]
		more := map[int][3]int{last.Home: {1, last.Given, last.Taken}, last.Away: {1, last.Taken, last.Given}}
		if last.Given > last.Taken {
			more[last.Home], more[last.Away] = [3]int{3, last.Given, last.Taken}, [3]int{0, last.Taken, last.Given}
		} else if last.Given < last.Taken {
			more[last.Home], more[last.Away] = [3]int{0, last.Given, last.Taken}, [3]int{3, last.Taken, last.Given}
		}
		points, pointsBefore := impl.PointsOf(x), impl.PointsOf(before)
		for club := range x.Clubs {
			made, against := impl.GoalsOf(x, club)
			madeBefore, againstBefore := impl.GoalsOf(before, club)
			got := [3]int{points[club] - pointsBefore[club], made - madeBefore, against - againstBefore}
			if got != more[club] {
				t.Errorf("the last result of %v changes points and goals of %d by %v, want %v", x, club, got, more[club])
			}
		}
	}
}

// TestTurnedLeagues exchanges homes, which changes nothing, and goals, which turns wins into defeats.
func TestTurnedLeagues(t *testing.T) {
	for _, x := range playedLeagues() {
		homes, goals := impl.League{Clubs: x.Clubs}, impl.League{Clubs: x.Clubs}
		for _, r := range x.Results {
			homes.Results = append(homes.Results, resultOf(row{r.Away, r.Home, r.Taken, r.Given}))
			goals.Results = append(goals.Results, resultOf(row{r.Home, r.Away, r.Taken, r.Given}))
		}
		slices.Reverse(homes.Results)
		if got, want := impl.TableOf(homes), impl.TableOf(x); !slices.Equal(got, want) {
			t.Errorf("TableOf(%v) = %v, and %v with exchanged homes in the other order", x, want, got)
		}
		if got, want := impl.PointsOf(homes), impl.PointsOf(x); !slices.Equal(got, want) {
			t.Errorf("PointsOf(%v) = %v, and %v with exchanged homes in the other order", x, want, got)
		}
		if got, want := impl.UnbeatenIn(homes), impl.UnbeatenIn(x); got != want {
			t.Errorf("UnbeatenIn(%v) = %v, and %v with exchanged homes in the other order", x, want, got)
		}
		for club := range x.Clubs {
			wins, draws, defeats := impl.RecordOf(x, club)
			turnedWins, turnedDraws, turnedDefeats := impl.RecordOf(goals, club)
			if wins != turnedDefeats || draws != turnedDraws || defeats != turnedWins {
				t.Errorf("RecordOf(%v, %d) = %d, %d, %d, and %d, %d, %d with exchanged goals", x, club, wins, draws, defeats, turnedWins, turnedDraws, turnedDefeats)
			}
		}
	}
}

// TestTableOfEqualClubs lets each two clubs play equal games, so that the numbers of the clubs decide.
func TestTableOfEqualClubs(t *testing.T) {
	for clubs := 2; clubs <= 8; clubs++ {
		x := impl.League{Clubs: clubs}
		for a := clubs - 1; a >= 0; a-- {
			for b := range a {
				x.Results = append(x.Results, resultOf(row{b, a, 1, 1}))
				if clubs <= 7 {
					x.Results = append(x.Results, resultOf(row{a, b, 2, 2}))
				}
			}
			checkClubs(t, x)
		}
		if got, want := impl.TableOf(x), numbersTo(0, clubs-1); !slices.Equal(got, want) {
			t.Errorf("TableOf(%v) = %v, want %v", x, got, want)
		}
	}
}

// TestTableByTheFirstKeys puts a club first by one key, although another one is ahead by a later one.
func TestTableByTheFirstKeys(t *testing.T) {
	for clubs := 4; clubs <= 8; clubs++ {
		for _, order := range someOrdersOf(clubs) {
			a, b, c, d := order[0], order[1], order[2], order[3]
			for label, x := range map[string]impl.League{
				"a draw":     leagueOf(clubs, row{a, c, 1, 0}, row{c, a, 0, 0}, row{b, d, 9, 0}),
				"a win":      leagueOf(clubs, row{a, c, 1, 0}, row{b, d, 1, 1}, row{d, b, 9, 9}),
				"difference": leagueOf(clubs, row{a, c, 2, 0}, row{b, d, 7, 6}),
				"goals":      leagueOf(clubs, row{a, c, 7, 6}, row{b, d, 2, 1}),
			} {
				if table := impl.TableOf(x); slices.Index(table, a) != 0 {
					t.Errorf("TableOf(%v) = %v, want %d first by %s", x, table, a, label)
				}
				checkClubs(t, x)
			}
			equal := leagueOf(clubs, row{a, c, 2, 1}, row{d, b, 1, 2})
			if table := impl.TableOf(equal); table[0] != min(a, b) || table[1] != max(a, b) {
				t.Errorf("TableOf(%v) = %v, want %d and %d by their numbers", equal, table, a, b)
			}
		}
	}
}

func TestMeetingsAtEitherHome(t *testing.T) {
	x := leagueOf(4, row{0, 1, 2, 1}, row{1, 0, 0, 0}, row{0, 1, 3, 3}, row{1, 2, 0, 1}, row{3, 2, 5, 0}, row{0, 1, 1, 2})
	for _, c := range []struct{ a, b, want int }{
		{0, 1, 4}, {1, 0, 4}, {1, 2, 1}, {2, 1, 1}, {2, 3, 1}, {3, 2, 1}, {0, 2, 0}, {2, 0, 0}, {0, 3, 0}, {1, 3, 0},
		{0, 0, -1}, {1, 1, -1}, {3, 3, -1}, {0, -1, -1}, {-1, 0, -1}, {-1, -1, -1}, {0, 4, -1}, {4, 0, -1}, {4, 4, -1}, {4, 5, -1}, {-2, -1, -1},
	} {
		if got := impl.MeetingsOf(x, c.a, c.b); got != c.want {
			t.Errorf("MeetingsOf(%v, %d, %d) = %d, want %d", x, c.a, c.b, got, c.want)
		}
	}
}

// TestMeetingsInAll checks that each result is a meeting of two clubs.
func TestMeetingsInAll(t *testing.T) {
	for _, x := range playedLeagues() {
		sum := 0
		for a := range x.Clubs {
			for b := range a {
				sum += impl.MeetingsOf(x, a, b)
				among, ok := impl.AmongClubs(x, 1<<a+1<<b)
				if !ok || len(among.Results) != impl.MeetingsOf(x, b, a) {
					t.Errorf("AmongClubs(%v, %d) = %v, %v, but MeetingsOf is %d", x, 1<<a+1<<b, among, ok, impl.MeetingsOf(x, b, a))
				}
			}
		}
		if sum != len(x.Results) {
			t.Errorf("the clubs of %v have met %d times, want %d", x, sum, len(x.Results))
		}
	}
}

func TestWrittenSetsOfClubs(t *testing.T) {
	x := leagueOf(4, row{0, 1, 2, 1}, row{1, 2, 0, 0}, row{1, 0, 3, 3}, row{2, 3, 0, 1}, row{0, 1, 2, 1})
	for set, rows := range map[int][]row{
		0:  nil,
		1:  nil,
		8:  nil,
		3:  {{0, 1, 2, 1}, {1, 0, 3, 3}, {0, 1, 2, 1}},
		5:  nil,
		6:  {{1, 2, 0, 0}},
		7:  {{0, 1, 2, 1}, {1, 2, 0, 0}, {1, 0, 3, 3}, {0, 1, 2, 1}},
		12: {{2, 3, 0, 1}},
		14: {{1, 2, 0, 0}, {2, 3, 0, 1}},
		15: {{0, 1, 2, 1}, {1, 2, 0, 0}, {1, 0, 3, 3}, {2, 3, 0, 1}, {0, 1, 2, 1}},
	} {
		if got, ok := impl.AmongClubs(x, set); !ok || !equalLeagues(got, leagueOf(4, rows...)) {
			t.Errorf("AmongClubs(%v, %d) = %v, %v, want %v", x, set, got, ok, rows)
		}
	}
}

// oddSets returns numbers that are no sets of so many clubs.
func oddSets(clubs int) []int {
	return []int{-1, -2, -3, -1 << clubs, math.MinInt, math.MinInt + 1, math.MaxInt, 1 << clubs, 1<<clubs + 1, 1<<(clubs+1) - 1, 1 << 9, 1<<31 + 1, 1<<32 + 3, 1 << 62}
}

// oddClubs returns numbers that are no clubs of so many.
func oddClubs(clubs int) []int {
	return append([]int{clubs, clubs + 1, -clubs, clubs - 1<<32, 1 << 8, 1 << 32, 1<<32 + 1, math.MinInt + 2, math.MaxInt - 1}, oddInts...)
}

func TestSetsThatAreNone(t *testing.T) {
	for _, x := range someLeagues() {
		for _, set := range oddSets(x.Clubs) {
			if got, ok := impl.AmongClubs(x, set); !isNoLeague(got, ok) {
				t.Errorf("AmongClubs(%v, %d) = %v, %v, want nothing", x, set, got, ok)
			}
		}
	}
}

func TestClubsThatAreNone(t *testing.T) {
	for _, x := range someLeagues() {
		for _, club := range oddClubs(x.Clubs) {
			if made, against := impl.GoalsOf(x, club); made != -1 || against != -1 {
				t.Errorf("GoalsOf(%v, %d) = %d, %d, want -1 twice", x, club, made, against)
			}
			if wins, draws, defeats := impl.RecordOf(x, club); wins != -1 || draws != -1 || defeats != -1 {
				t.Errorf("RecordOf(%v, %d) = %d, %d, %d, want -1 three times", x, club, wins, draws, defeats)
			}
			for _, other := range append(numbersTo(0, x.Clubs-1), oddClubs(x.Clubs)...) {
				if got, turned := impl.MeetingsOf(x, club, other), impl.MeetingsOf(x, other, club); got != -1 || turned != -1 {
					t.Errorf("MeetingsOf(%v) of %d and %d = %d and %d, want -1", x, club, other, got, turned)
				}
			}
		}
	}
}

func TestWrittenRests(t *testing.T) {
	x := leagueOf(3, row{0, 1, 2, 1}, row{1, 2, 1, 1}, row{2, 0, 3, 0})
	twice := leagueOf(3, row{0, 1, 0, 0}, row{1, 0, 0, 0}, row{2, 1, 0, 4})
	for _, c := range []struct {
		league impl.League
		each   int
		want   [][]int
	}{
		{x, -1, nil},
		{x, 0, nil},
		{x, 1, nil},
		{x, 2, [][]int{{0, 1, 1}, {0, 2, 1}, {1, 2, 1}}},
		{x, 4, [][]int{{0, 1, 3}, {0, 2, 3}, {1, 2, 3}}},
		{x, 5, nil},
		// Once each, clubs 0 and 2 have a game left, but 0 and 1 have met twice.
		{twice, 1, nil},
		{twice, 2, [][]int{{0, 2, 2}, {1, 2, 1}}},
		{twice, 3, [][]int{{0, 1, 1}, {0, 2, 3}, {1, 2, 2}}},
		{leagueOf(2), 0, nil},
		{leagueOf(2), 1, [][]int{{0, 1, 1}}},
		{leagueOf(2), 4, [][]int{{0, 1, 4}}},
		{leagueOf(2), -1, nil},
		{leagueOf(2), 5, nil},
		// The last pair has met more often than all others.
		{leagueOf(4, row{3, 2, 1, 0}, row{2, 3, 1, 0}), 1, nil},
		{leagueOf(4, row{3, 2, 1, 0}, row{2, 3, 1, 0}), 2, [][]int{{0, 1, 2}, {0, 2, 2}, {0, 3, 2}, {1, 2, 2}, {1, 3, 2}}},
		{leagueOf(2, slices.Repeat([]row{{1, 0, 1, 0}}, 4)...), 4, nil},
		{leagueOf(2, slices.Repeat([]row{{1, 0, 1, 0}}, 5)...), 4, nil},
		{leagueOf(2, slices.Repeat([]row{{1, 0, 1, 0}}, 5)...), 5, nil},
	} {
		if got := impl.RestOf(c.league, c.each); !equalLists(got, c.want) {
			t.Errorf("RestOf(%v, %d) = %v, want %v", c.league, c.each, got, c.want)
		}
	}
}

// TestRestsWithoutResults expects that all clubs have all games left.
func TestRestsWithoutResults(t *testing.T) {
	for clubs := 2; clubs <= 8; clubs++ {
		for each := -1; each <= 5; each++ {
			want := [][]int{}
			for a := range clubs {
				for b := a + 1; b < clubs && each >= 1 && each <= 4; b++ {
					want = append(want, []int{a, b, each})
				}
			}
			if got := impl.RestOf(leagueOf(clubs), each); !equalLists(got, want) {
				t.Errorf("RestOf %d clubs, %d times each, = %v, want %v", clubs, each, got, want)
			}
		}
	}
}

// TestRestsOfRoundRobins takes away results of a league in which all have met: what is left are these games.
func TestRestsOfRoundRobins(t *testing.T) {
	for clubs := 2; clubs <= 8; clubs++ {
		for each := 1; each <= 4 && each*clubs*(clubs-1)/2 <= 60; each++ {
			full := impl.League{Clubs: clubs}
			for again := range each {
				for a := range clubs {
					for b := range a {
						home, away := a, b
						if again%2 == 1 {
							home, away = b, a
						}
						full.Results = append(full.Results, resultOf(row{home, away, again, b}))
					}
				}
			}
			if got := impl.RestOf(full, each); len(got) != 0 {
				t.Errorf("RestOf(%v, %d) = %v, want no game", full, each, got)
			}
			if got := impl.RestOf(full, each-1); len(got) != 0 {
				t.Errorf("RestOf(%v, %d) = %v, want nothing", full, each-1, got)
			}
			for i, r := range full.Results {
				x := impl.League{Clubs: clubs, Results: slices.Delete(slices.Clone(full.Results), i, i+1)}
				want := [][]int{{min(r.Home, r.Away), max(r.Home, r.Away), 1}}
				if got := impl.RestOf(x, each); !equalLists(got, want) {
					t.Errorf("RestOf(%v, %d) = %v, want %v", x, each, got, want)
				}
				checkGames(t, x)
			}
		}
	}
}

func TestRestsOfNoNumberOfGames(t *testing.T) {
	for _, x := range someLeagues() {
		for _, each := range append([]int{5, 6, 60, 1 << 8, 1<<8 + 4, 1<<32 + 4, 4 - 1<<32, math.MinInt + 4, math.MaxInt - 1}, oddInts...) {
			if got := impl.RestOf(x, each); len(got) != 0 {
				t.Errorf("RestOf(%v, %d) = %v, want nothing", x, each, got)
			}
		}
	}
}

// oddGoals are numbers that no club makes in a game.
var oddGoals = []int{-1, -2, -99, -100, 100, 101, 199, 255, 256, 1<<8 + 5, 1<<32 + 1, 5 - 1<<32, math.MinInt, math.MinInt + 1, math.MaxInt}

// brokenResults returns results that a league of so many clubs cannot have.
func brokenResults(clubs int) []impl.Result {
	list := []impl.Result{}
	for club := range clubs {
		list = append(list, resultOf(row{club, club, 1, 0}), resultOf(row{club, club, 0, 0}))
		for _, odd := range oddClubs(clubs) {
			list = append(list, resultOf(row{club, odd, 1, 0}), resultOf(row{odd, club, 0, 0}))
		}
	}
	for _, odd := range oddClubs(clubs) {
		list = append(list, resultOf(row{odd, odd, 0, 1}), resultOf(row{odd, -odd, 0, 1}))
	}
	for _, goals := range oddGoals {
		for _, other := range []int{0, 99} {
			list = append(list, resultOf(row{0, 1, goals, other}), resultOf(row{clubs - 1, 0, other, goals}))
		}
		list = append(list, resultOf(row{1, 0, goals, goals}))
	}
	return list
}

// brokenLeagues returns values that are no leagues.
func brokenLeagues() []impl.League {
	list := []impl.League{}
	for _, clubs := range append([]int{0, 1, 9, 10, 16, -3, 1<<8 + 4, 1<<32 + 4, 4 - 1<<32, math.MinInt + 4, math.MaxInt - 1}, slices.DeleteFunc(slices.Clone(oddInts), func(n int) bool { return n == 8 })...) {
		list = append(list, leagueOf(clubs), leagueOf(clubs, row{0, 1, 1, 0}), leagueOf(clubs, row{0, 0, 0, 0}), leagueOf(clubs, row{7, 8, 2, 2}))
		list = append(list, impl.League{Clubs: clubs, Results: playedLeague(2, 60, 3, 5).Results})
	}
	for clubs := 2; clubs <= 8; clubs++ {
		for _, results := range []int{61, 62, 120, 1000} {
			list = append(list, playedLeague(clubs, results, 3, results), playedLeague(clubs, results, 0, clubs))
		}
		for _, wrong := range brokenResults(clubs) {
			for _, results := range []int{0, 4, 59} {
				for _, at := range []int{0, results / 2, results} {
					x := playedLeague(clubs, results, 3, clubs+at)
					x.Results = slices.Insert(x.Results, at, wrong)
					list = append(list, x)
				}
			}
		}
	}
	return list
}

// checkNoLeague expects that no function takes a value for a league.
func checkNoLeague(t *testing.T, x impl.League) {
	t.Helper()
	if impl.LeagueOk(x) || len(impl.PointsOf(x)) != 0 || len(impl.TableOf(x)) != 0 || impl.UnbeatenIn(x) != 0 {
		t.Errorf("%v: LeagueOk = %v, PointsOf = %v, TableOf = %v, UnbeatenIn = %d", x, impl.LeagueOk(x), impl.PointsOf(x), impl.TableOf(x), impl.UnbeatenIn(x))
	}
	for _, club := range []int{-1, 0, 1, 2, 7, 8, x.Clubs - 1, x.Clubs} {
		if made, against := impl.GoalsOf(x, club); made != -1 || against != -1 {
			t.Errorf("GoalsOf(%v, %d) = %d, %d, want -1 twice", x, club, made, against)
		}
		if wins, draws, defeats := impl.RecordOf(x, club); wins != -1 || draws != -1 || defeats != -1 {
			t.Errorf("RecordOf(%v, %d) = %d, %d, %d, want -1 three times", x, club, wins, draws, defeats)
		}
		for _, other := range []int{-1, 0, 1, x.Clubs - 1} {
			if got := impl.MeetingsOf(x, club, other); got != -1 {
				t.Errorf("MeetingsOf(%v, %d, %d) = %d, want -1", x, club, other, got)
			}
		}
	}
	for _, set := range []int{-1, 0, 1, 3, 7, 255, 256} {
		if got, ok := impl.AmongClubs(x, set); !isNoLeague(got, ok) {
			t.Errorf("AmongClubs(%v, %d) = %v, %v, want nothing", x, set, got, ok)
		}
	}
	for _, r := range []row{{}, {0, 1, 0, 0}, {1, 0, 99, 0}, {-1, 0, 0, 0}, {0, 0, 0, 0}} {
		if got, ok := impl.AddResult(x, resultOf(r)); !isNoLeague(got, ok) {
			t.Errorf("AddResult(%v, %v) = %v, %v, want nothing", x, r, got, ok)
		}
	}
	for each := -1; each <= 5; each++ {
		if got := impl.RestOf(x, each); len(got) != 0 {
			t.Errorf("RestOf(%v, %d) = %v, want nothing", x, each, got)
		}
	}
}

func TestBrokenLeagues(t *testing.T) {
	for _, x := range brokenLeagues() {
		checkNoLeague(t, x)
	}
}

// TestBrokenLeagueWithOneWrongResult also checks that the league without it is one.
func TestBrokenLeagueWithOneWrongResult(t *testing.T) {
	for clubs := 2; clubs <= 8; clubs++ {
		good := playedLeague(clubs, 12, 99, clubs)
		checkClubs(t, good)
		for _, wrong := range brokenResults(clubs) {
			for at := range good.Results {
				x := impl.League{Clubs: clubs, Results: slices.Clone(good.Results)}
				x.Results[at] = wrong
				if impl.LeagueOk(x) {
					t.Errorf("LeagueOk(%v) = true with %v", x, wrong)
				}
			}
		}
	}
}

func TestNumbersOfClubsAndResults(t *testing.T) {
	for clubs := -2; clubs <= 12; clubs++ {
		for results := range 64 {
			x := impl.League{Clubs: clubs, Results: playedLeague(2, results, 99, results).Results}
			if got, want := impl.LeagueOk(x), clubs >= 2 && clubs <= 8 && results <= 60; got != want {
				t.Errorf("LeagueOk of %d clubs and %d results = %v, want %v", clubs, results, got, want)
			}
		}
	}
}

func TestAddResult(t *testing.T) {
	for clubs := 2; clubs <= 8; clubs++ {
		for _, results := range []int{0, 1, 2, 3, 7, 30, 58, 59, 60} {
			x := playedLeague(clubs, results, 3, clubs*results)
			for _, r := range []row{{0, 1, 0, 0}, {1, 0, 99, 99}, {0, clubs - 1, 0, 99}, {clubs - 1, 0, 99, 0}} {
				got, ok := impl.AddResult(x, resultOf(r))
				if results == 60 {
					if !isNoLeague(got, ok) {
						t.Errorf("AddResult(%v, %v) = %v, %v, want nothing", x, r, got, ok)
					}
					continue
				}
				want := impl.League{Clubs: clubs, Results: append(slices.Clone(x.Results), resultOf(r))}
				if !ok || !equalLeagues(got, want) {
					t.Errorf("AddResult(%v, %v) = %v, %v, want %v", x, r, got, ok, want)
				}
				checkClubs(t, got)
			}
			for _, wrong := range brokenResults(clubs) {
				if got, ok := impl.AddResult(x, wrong); !isNoLeague(got, ok) {
					t.Errorf("AddResult(%v, %v) = %v, %v, want nothing", x, wrong, got, ok)
				}
			}
		}
	}
}

// TestLeaguesGrowByResults adds the results of a league, one after the other, and then one too many.
func TestLeaguesGrowByResults(t *testing.T) {
	for clubs := 2; clubs <= 8; clubs++ {
		whole := playedLeague(clubs, 60, 4, clubs)
		x := leagueOf(clubs)
		for i, r := range whole.Results {
			longer, ok := impl.AddResult(x, r)
			if !ok || !equalLeagues(longer, impl.League{Clubs: clubs, Results: whole.Results[:i+1]}) {
				t.Fatalf("AddResult(%v, %v) = %v, %v", x, r, longer, ok)
			}
			x = longer
		}
		if got, ok := impl.AddResult(x, whole.Results[0]); !isNoLeague(got, ok) {
			t.Errorf("AddResult to 60 results = %v, %v, want nothing", got, ok)
		}
		checkClubs(t, x)
		checkGames(t, x)
	}
}

// spareResult fills the memory behind results: it is right in each league, so that a function that reads it is wrong.
var spareResult = resultOf(row{1, 0, 98, 97})

// withSpare returns a league with as many results behind its own ones, and its whole memory.
func withSpare(x impl.League) (impl.League, []impl.Result) {
	memory := append(slices.Clone(x.Results), slices.Repeat([]impl.Result{spareResult}, 5)...)
	return impl.League{Clubs: x.Clubs, Results: memory[:len(x.Results)]}, memory
}

// checkLeagueMemory calls a function twice, writes into the memory of its result in between, and compares the memory of its argument.
func checkLeagueMemory(t *testing.T, label string, call func() (impl.League, bool), memory []impl.Result) {
	t.Helper()
	was := slices.Clone(memory)
	result, ok := call()
	before := slices.Clone(result.Results)
	whole := result.Results[:cap(result.Results)]
	for i := range whole {
		whole[i] = resultOf(row{-71, -72, -73, -74})
	}
	if !slices.Equal(memory, was) {
		t.Fatalf("%s changes or returns the memory of its argument: %v, before %v", label, memory, was)
	}
	if again, sameOk := call(); !slices.Equal(again.Results, before) || again.Clubs != result.Clubs || sameOk != ok {
		t.Fatalf("%s returns %v, %v and then %v, %v", label, before, ok, again, sameOk)
	}
}

func TestLeaguesStayAsTheyAre(t *testing.T) {
	for _, league := range append(someLeagues(), leagueOf(1), leagueOf(9, row{0, 1, 1, 0}), leagueOf(3, row{0, 0, 1, 0}), playedLeague(4, 61, 3, 1)) {
		x, memory := withSpare(league)
		was := slices.Clone(memory)
		label := fmt.Sprintf(" of %v", x)
		checkMemory(t, "PointsOf"+label, func() ([]int, string) { return impl.PointsOf(x), "" })
		checkMemory(t, "TableOf"+label, func() ([]int, string) { return impl.TableOf(x), "" })
		checkMemory(t, "LeagueOk and UnbeatenIn"+label, func() ([]int, string) {
			return []int{impl.UnbeatenIn(x)}, strconv.FormatBool(impl.LeagueOk(x))
		})
		for club := -1; club <= x.Clubs; club++ {
			checkMemory(t, "a function of a club"+label, func() ([]int, string) {
				made, against := impl.GoalsOf(x, club)
				wins, draws, defeats := impl.RecordOf(x, club)
				return []int{made, against, wins, draws, defeats, impl.MeetingsOf(x, 0, club)}, ""
			})
		}
		for each := -1; each <= 5; each++ {
			checkLists(t, "RestOf"+label, func() [][]int { return impl.RestOf(x, each) })
		}
		if !slices.Equal(memory, was) {
			t.Fatalf("a function%s changes it to %v, before %v", label, memory, was)
		}
		for _, set := range []int{-1, 0, 1, 3, 1<<x.Clubs - 1, 1 << x.Clubs} {
			checkLeagueMemory(t, "AmongClubs"+label, func() (impl.League, bool) { return impl.AmongClubs(x, set) }, memory)
		}
		for _, r := range []row{{0, 1, 0, 0}, {1, 0, 5, 7}, {1, 1, 0, 0}, {0, 1, 100, 0}} {
			checkLeagueMemory(t, "AddResult"+label, func() (impl.League, bool) { return impl.AddResult(x, resultOf(r)) }, memory)
		}
	}
}

// TestLeaguesOfSeveralCalls holds the results of several calls, and writes into one of them after the other.
func TestLeaguesOfSeveralCalls(t *testing.T) {
	for _, league := range someLeagues() {
		x, memory := withSpare(league)
		was := slices.Clone(memory)
		leagues, lists := []impl.League{}, [][]int{}
		add := func(result impl.League, _ bool) { leagues = append(leagues, result) }
		for range 2 {
			add(impl.AmongClubs(x, 1<<x.Clubs-1))
			add(impl.AmongClubs(x, 3))
			add(impl.AddResult(x, resultOf(row{0, 1, 1, 1})))
			add(impl.AddResult(x, resultOf(row{1, 0, 2, 2})))
			// Both are added to the league of the call before, and each one needs memory of its own.
			add(impl.AddResult(leagues[len(leagues)-1], resultOf(row{0, 1, 3, 3})))
			add(impl.AddResult(leagues[len(leagues)-2], resultOf(row{0, 1, 4, 4})))
			lists = append(lists, impl.PointsOf(x), impl.TableOf(x))
			lists = append(lists, slices.Concat(impl.RestOf(x, 4), impl.RestOf(x, 4), impl.RestOf(x, 3))...)
		}
		for i, result := range leagues {
			whole := result.Results[:cap(result.Results)]
			for at := range whole {
				whole[at].Given = -100 - i
			}
		}
		for i, result := range leagues {
			if slices.ContainsFunc(result.Results, func(r impl.Result) bool { return r.Given != -100-i }) {
				t.Errorf("the league %d of %v shares memory with another one", i, x)
			}
		}
		for i, list := range lists {
			for at := range list[:cap(list)] {
				list[:cap(list)][at] = -100 - i
			}
		}
		for i, list := range lists {
			if slices.ContainsFunc(list, func(number int) bool { return number != -100-i }) {
				t.Errorf("the list %d of %v shares memory with another one", i, x)
			}
		}
		if !slices.Equal(memory, was) {
			t.Errorf("the memory of a league has become %v, before %v", memory, was)
		}
	}
}

// TestLeaguesWithoutResults takes nil and an empty list, which are equivalent.
func TestLeaguesWithoutResults(t *testing.T) {
	for clubs := 2; clubs <= 8; clubs++ {
		for _, results := range [][]impl.Result{nil, {}, make([]impl.Result, 0, 4)} {
			x := impl.League{Clubs: clubs, Results: results}
			checkClubs(t, x)
			checkGames(t, x)
			longer, ok := impl.AddResult(x, resultOf(row{1, 0, 2, 0}))
			if !ok || !equalLeagues(longer, leagueOf(clubs, row{1, 0, 2, 0})) {
				t.Errorf("AddResult(%v) = %v, %v", x, longer, ok)
			}
			if got := impl.UnbeatenIn(x); got != 1<<clubs-1 {
				t.Errorf("UnbeatenIn(%v) = %d, want all clubs", x, got)
			}
		}
	}
}
