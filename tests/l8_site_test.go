package tests

import (
	"fmt"
	"slices"
	"testing"

	"loop.example/g00940/impl"
)

// siteArguments are what the functions of chapter 8 get, so that checkPure sees all of it.
type siteArguments struct {
	Sites  [][]int
	N      int
	Chosen []int
	Times  int
	Spots  []int
	K      int
}

// siteCalls calls all functions of chapter 8.
func siteCalls() map[string]func(a siteArguments) []any {
	return map[string]func(a siteArguments) []any{
		"AreSites": func(a siteArguments) []any { return []any{impl.AreSites(a.Sites, a.N)} },
		"SeenFrom": func(a siteArguments) []any {
			l, ok := impl.SeenFrom(a.Sites, a.N, a.Chosen)
			return []any{l, ok}
		},
		"IsCover": func(a siteArguments) []any {
			is, ok := impl.IsCover(a.Sites, a.N, a.Chosen, a.Times)
			return []any{is, ok}
		},
		"LeastCover": func(a siteArguments) []any {
			l, ok := impl.LeastCover(a.Sites, a.N, a.Times)
			return []any{l, ok}
		},
		"GreedyCover": func(a siteArguments) []any { l, ok := impl.GreedyCover(a.Sites, a.N); return []any{l, ok} },
		"NeededSites": func(a siteArguments) []any { l, ok := impl.NeededSites(a.Sites, a.N); return []any{l, ok} },
		"ThinCover": func(a siteArguments) []any {
			l, ok := impl.ThinCover(a.Sites, a.N, a.Chosen)
			return []any{l, ok}
		},
		"AreApart": func(a siteArguments) []any {
			is, ok := impl.AreApart(a.Sites, a.N, a.Spots)
			return []any{is, ok}
		},
		"MostApart":   func(a siteArguments) []any { l, ok := impl.MostApart(a.Sites, a.N); return []any{l, ok} },
		"CountCovers": func(a siteArguments) []any { n, ok := impl.CountCovers(a.Sites, a.N, a.K); return []any{n, ok} },
	}
}

// callsWithSites names the functions of chapter 8 that get sites, which are all of them.
func callsWithSites() []string {
	return []string{"AreSites", "SeenFrom", "IsCover", "LeastCover", "GreedyCover", "NeededSites", "ThinCover", "AreApart", "MostApart", "CountCovers"}
}

// checkSiteRefused fails if one of the named functions gives any result that is not a zero one.
func checkSiteRefused(t *testing.T, a siteArguments, names ...string) {
	t.Helper()
	checkAllRefused(t, siteCalls(), a, names...)
}

// checkSiteResults fails if a function of chapter 8 does not give these results.
func checkSiteResults(t *testing.T, name string, a siteArguments, want ...any) {
	t.Helper()
	if got := textOfResults(siteCalls()[name](a)); got != textOfResults(want) {
		t.Errorf("%s(%v) = %s, want %s", name, a, got, textOfResults(want))
	}
}

// checkSiteList fails if a function of chapter 8 does not give this list, or does not fail where none is wanted.
func checkSiteList(t *testing.T, name string, a siteArguments, want []int) {
	t.Helper()
	if want == nil {
		checkSiteRefused(t, a, name)
		return
	}
	checkSiteResults(t, name, a, want, true)
}

// numbersBelow returns the numbers from 0 to limit - 1.
func numbersBelow(limit int) []int {
	l := make([]int, limit)
	for i := range l {
		l[i] = i
	}
	return l
}

// increasingLists calls f with every strictly increasing list of numbers below a limit; those of one length come in lexicographic order.
func increasingLists(limit int, f func(l []int)) {
	var extend func(l []int, least int)
	extend = func(l []int, least int) {
		f(slices.Clone(l))
		for i := least; i < limit; i++ {
			extend(append(l, i), i+1)
		}
	}
	extend(nil, 0)
}

// someSites returns sites that look mixed, each of which sees about so many of 100 spots.
func someSites(n int, count int, percent int, seed int) [][]int {
	mixed := someWeights(n*count, 100, seed)
	sites := make([][]int, count)
	for i := range sites {
		for spot := range n {
			if mixed[i*n+spot] < percent {
				sites[i] = append(sites[i], spot)
			}
		}
	}
	return sites
}

// sameSites returns so many sites that see the same.
func sameSites(count int, seen ...int) [][]int {
	sites := make([][]int, count)
	for i := range sites {
		sites[i] = slices.Clone(seen)
	}
	return sites
}

// pairSites returns sites that see two spots next to each other, in a ring of so many.
func pairSites(n int) [][]int {
	var sites [][]int
	for i := range n - 1 {
		sites = append(sites, []int{i, i + 1})
	}
	return append(sites, []int{0, n - 1})
}

// lonelySites returns sites that see one spot each, the last one first.
func lonelySites(n int) [][]int {
	sites := make([][]int, n)
	for i := range sites {
		sites[i] = []int{n - 1 - i}
	}
	return sites
}

// greedySites are sites of which greedy choices take three, though the last two see all.
func greedySites() [][]int { return [][]int{{0, 1, 2, 3}, {0, 1, 4}, {2, 3, 5}} }

// validCountries returns sites of many kinds with their numbers of spots.
func validCountries() []siteArguments {
	countries := []siteArguments{
		{Sites: [][]int{{0, 1}, {1, 2}, {2}}, N: 3},
		{Sites: [][]int{{}}, N: 1}, {Sites: [][]int{nil}, N: 16}, {Sites: [][]int{{0}}, N: 1}, {Sites: [][]int{{0}}, N: 16}, {Sites: [][]int{{15}}, N: 16}, {Sites: [][]int{numbersBelow(16)}, N: 16},
		{Sites: sameSites(12), N: 1}, {Sites: sameSites(12), N: 16}, {Sites: sameSites(12, 0), N: 1}, {Sites: sameSites(12, numbersBelow(16)...), N: 16}, {Sites: sameSites(12, 3, 7, 15), N: 16},
		{Sites: lonelySites(1), N: 1}, {Sites: lonelySites(5), N: 5}, {Sites: lonelySites(12), N: 12}, {Sites: lonelySites(12), N: 13}, {Sites: append(lonelySites(11), []int{0, 11}), N: 12},
		{Sites: pairSites(3), N: 3}, {Sites: pairSites(4), N: 4}, {Sites: pairSites(9), N: 9}, {Sites: pairSites(12), N: 12}, {Sites: pairSites(12), N: 16},
		{Sites: greedySites(), N: 6}, {Sites: append(greedySites(), []int{4, 5}, nil, numbersBelow(6)), N: 6},
		{Sites: [][]int{{0}, {1}, {0, 1}}, N: 2}, {Sites: [][]int{{0}, {}, {1}, {0, 1}, {0, 1}}, N: 2},
	}
	for _, n := range []int{1, 2, 5, 8, 15, 16} {
		for _, count := range []int{1, 2, 4, 7, 12} {
			for seed, percent := range []int{8, 20, 35, 55, 90} {
				countries = append(countries, siteArguments{Sites: someSites(n, count, percent, 100*n+10*count+seed), N: n})
			}
		}
	}
	return countries
}

// withSite returns a copy of sites in which another site stands at an index.
func withSite(sites [][]int, i int, seen ...int) [][]int {
	other := slices.Clone(sites)
	other[i] = seen
	return other
}

// invalidIncreasing returns lists that have one fault each among the strictly increasing ones of numbers below a limit.
func invalidIncreasing(limit int) [][]int {
	all := numbersBelow(limit)
	lists := [][]int{
		append([]int{-1}, all...), append(slices.Clone(all), limit), append(slices.Clone(all), limit-1), append([]int{0}, all...), repeated(0, 2), repeated(limit-1, 2), repeated(0, 1000), make([]int, 100000),
	}
	for _, bad := range beyond(0, limit-1) {
		lists = append(lists, []int{bad}, []int{0, bad}, []int{bad, 0}, []int{limit - 1, bad})
	}
	for i := range limit - 1 {
		turned := slices.Clone(all)
		turned[i], turned[i+1] = i+1, i
		double := slices.Clone(all)
		double[i+1] = i
		lists = append(lists, turned, double, []int{i + 1, i}, []int{i, i})
	}
	return append(lists, []int{limit - 1, 0})
}

// invalidCountries returns sites that are not valid for their numbers of spots.
func invalidCountries() []siteArguments {
	countries := []siteArguments{
		{}, {N: 1}, {Sites: [][]int{}, N: 1}, {N: 16}, {Sites: [][]int{}, N: 16}, {Sites: sameSites(13), N: 1}, {Sites: sameSites(13, 0), N: 1}, {Sites: sameSites(13, numbersBelow(16)...), N: 16}, {Sites: sameSites(100000, 0), N: 1},
	}
	for _, c := range validCountries() {
		for _, bad := range append(beyond(1, 16), 0, 17) {
			countries = append(countries, siteArguments{Sites: c.Sites, N: bad})
		}
		// The greatest spot that is seen is not one of fewer spots.
		if seen := slices.Concat(c.Sites...); len(seen) > 0 {
			countries = append(countries, siteArguments{Sites: c.Sites, N: slices.Max(seen)})
		}
	}
	for _, n := range []int{1, 2, 3, 16} {
		for _, seen := range invalidIncreasing(n) {
			countries = append(countries, siteArguments{Sites: [][]int{seen}, N: n})
			for _, i := range []int{0, 5, 11} {
				countries = append(countries, siteArguments{Sites: withSite(sameSites(12, numbersBelow(n)...), i, seen...), N: n})
			}
		}
	}
	return countries
}

// isIncreasingBelow tells by the words of chapter 8 whether a list is strictly increasing and of numbers below a limit, without the program.
func isIncreasingBelow(l []int, limit int) bool {
	for i, n := range l {
		if n < 0 || n >= limit || i > 0 && l[i-1] >= n {
			return false
		}
	}
	return true
}

func goodSites(sites [][]int, n int) bool {
	good := n >= 1 && n <= 16 && len(sites) >= 1 && len(sites) <= 12
	for _, seen := range sites {
		good = good && isIncreasingBelow(seen, n)
	}
	return good
}

// countSeeing returns from how many of the chosen sites a spot is seen.
func countSeeing(sites [][]int, chosen []int, spot int) int {
	count := 0
	for _, i := range chosen {
		if slices.Contains(sites[i], spot) {
			count++
		}
	}
	return count
}

// coversSpots tells whether chosen sites cover the spots so many times.
func coversSpots(sites [][]int, n int, chosen []int, times int) bool {
	for spot := range n {
		if countSeeing(sites, chosen, spot) < times {
			return false
		}
	}
	return true
}

// spotsApart tells whether no site sees two of some spots.
func spotsApart(sites [][]int, spots []int) bool {
	for _, seen := range sites {
		for i, a := range spots {
			for _, b := range spots[i+1:] {
				if slices.Contains(seen, a) && slices.Contains(seen, b) {
					return false
				}
			}
		}
	}
	return true
}

// leastCoverByTrying returns the least cover out of all chosen sites, nil if there is none.
func leastCoverByTrying(sites [][]int, n int, times int) []int {
	var least []int
	increasingLists(len(sites), func(chosen []int) {
		if (least == nil || len(chosen) < len(least)) && coversSpots(sites, n, chosen, times) {
			least = chosen
		}
	})
	return least
}

// greedyByCounting chooses the greedy cover, nil if there is none.
func greedyByCounting(sites [][]int, n int) []int {
	var order []int
	for !coversSpots(sites, n, order, 1) {
		gains := make([]int, len(sites))
		for i, seen := range sites {
			for _, spot := range seen {
				if countSeeing(sites, order, spot) == 0 {
					gains[i]++
				}
			}
		}
		most := slices.Max(gains)
		if most == 0 {
			return nil
		}
		order = append(order, slices.Index(gains, most))
	}
	return order
}

// neededByWords returns the sites that are the only one from which some spot is seen.
func neededByWords(sites [][]int) []int {
	needed := []int{}
	for i, seen := range sites {
		if slices.ContainsFunc(seen, func(spot int) bool { return countSeeing(sites, numbersBelow(len(sites)), spot) == 1 }) {
			needed = append(needed, i)
		}
	}
	return needed
}

// thinByWords leaves sites out of a cover, from the last one on; nil if it is none.
func thinByWords(sites [][]int, n int, chosen []int) []int {
	if !coversSpots(sites, n, chosen, 1) {
		return nil
	}
	thin := slices.Clone(chosen)
	for at := len(thin) - 1; at >= 0; at-- {
		if less := slices.Delete(slices.Clone(thin), at, at+1); coversSpots(sites, n, less, 1) {
			thin = less
		}
	}
	return thin
}

// mostApartByTrying returns the most spots that are apart out of all lists.
func mostApartByTrying(sites [][]int, n int) []int {
	most := []int{}
	increasingLists(n, func(spots []int) {
		if len(spots) > len(most) && spotsApart(sites, spots) {
			most = spots
		}
	})
	return most
}

// checkChosen compares the functions that get chosen sites with the words of chapter 8. It returns whether they cover the spots.
func checkChosen(t *testing.T, sites [][]int, n int, chosen []int) bool {
	t.Helper()
	seen := []int{}
	for spot := range n {
		if countSeeing(sites, chosen, spot) > 0 {
			seen = append(seen, spot)
		}
	}
	if got, ok := impl.SeenFrom(sites, n, chosen); !slices.Equal(got, seen) || !ok {
		t.Errorf("SeenFrom(%v, %d, %v) = %v, %v, want %v", sites, n, chosen, got, ok, seen)
	}
	for times := 1; times <= 2; times++ {
		want := coversSpots(sites, n, chosen, times)
		if got, ok := impl.IsCover(sites, n, chosen, times); got != want || !ok {
			t.Errorf("IsCover(%v, %d, %v, %d) = %v, %v, want %v", sites, n, chosen, times, got, ok, want)
		}
	}
	thin := thinByWords(sites, n, chosen)
	if got, ok := impl.ThinCover(sites, n, chosen); !slices.Equal(got, thin) || ok != (thin != nil) {
		t.Errorf("ThinCover(%v, %d, %v) = %v, %v, want %v", sites, n, chosen, got, ok, thin)
	}
	return thin != nil
}

// checkApart compares AreApart with the words of chapter 8.
func checkApart(t *testing.T, sites [][]int, n int, spots []int) {
	t.Helper()
	want := spotsApart(sites, spots)
	if got, ok := impl.AreApart(sites, n, spots); got != want || !ok {
		t.Errorf("AreApart(%v, %d, %v) = %v, %v, want %v", sites, n, spots, got, ok, want)
	}
}

// checkWholeCountry compares the functions that get no chosen sites with the words of chapter 8. It returns the needed sites and the most spots that are apart.
func checkWholeCountry(t *testing.T, sites [][]int, n int) ([]int, []int) {
	t.Helper()
	a := siteArguments{Sites: sites, N: n}
	checkSiteResults(t, "AreSites", a, true)
	for a.Times = 1; a.Times <= 2; a.Times++ {
		checkSiteList(t, "LeastCover", a, leastCoverByTrying(sites, n, a.Times))
	}
	checkSiteList(t, "GreedyCover", a, greedyByCounting(sites, n))
	needed, apart := neededByWords(sites), mostApartByTrying(sites, n)
	checkSiteList(t, "NeededSites", a, needed)
	checkSiteList(t, "MostApart", a, apart)
	return needed, apart
}

// checkCountry compares all functions with the words of chapter 8, for all chosen sites and all spots.
func checkCountry(t *testing.T, sites [][]int, n int) {
	t.Helper()
	needed, apart := checkWholeCountry(t, sites, n)
	counts := make([]int, 13)
	increasingLists(len(sites), func(chosen []int) {
		if !checkChosen(t, sites, n, chosen) {
			return
		}
		counts[len(chosen)]++
		// Each cover has all needed sites, and no fewer than there are spots apart.
		for _, i := range needed {
			if !slices.Contains(chosen, i) {
				t.Errorf("%v cover %d spots from %v without the needed site %d", chosen, n, sites, i)
			}
		}
		if len(chosen) < len(apart) {
			t.Errorf("%v cover %d spots from %v, of which %v are apart", chosen, n, sites, apart)
		}
	})
	for k, count := range counts {
		checkSiteResults(t, "CountCovers", siteArguments{Sites: sites, N: n, K: k}, count, true)
	}
	increasingLists(n, func(spots []int) { checkApart(t, sites, n, spots) })
}

func TestSiteExample(t *testing.T) {
	if impl.MaxSites != 12 || impl.MaxSpots != 16 {
		t.Errorf("MaxSites = %d, MaxSpots = %d", impl.MaxSites, impl.MaxSpots)
	}
	a := siteArguments{Sites: [][]int{{0, 1}, {1, 2}, {2}}, N: 3, Chosen: []int{0, 1, 2}, Times: 1, Spots: []int{0, 2}, K: 2}
	checkSiteResults(t, "AreSites", a, true)
	checkSiteResults(t, "SeenFrom", a, []int{0, 1, 2}, true)
	checkSiteResults(t, "IsCover", a, true, true)
	checkSiteResults(t, "LeastCover", a, []int{0, 1}, true)
	checkSiteResults(t, "GreedyCover", a, []int{0, 1}, true)
	checkSiteResults(t, "NeededSites", a, []int{0}, true)
	checkSiteResults(t, "ThinCover", a, []int{0, 1}, true)
	checkSiteResults(t, "AreApart", a, true, true)
	checkSiteResults(t, "MostApart", a, []int{0, 2}, true)
	checkSiteResults(t, "CountCovers", a, 2, true)
	checkCountry(t, a.Sites, a.N)
}

func TestAreSites(t *testing.T) {
	check := func(sites [][]int, n int, want bool) {
		t.Helper()
		if got := impl.AreSites(sites, n); got != want || goodSites(sites, n) != want {
			t.Errorf("AreSites(%.400s, %d) = %v, want %v", fmt.Sprint(sites), n, got, want)
		}
	}
	for _, c := range validCountries() {
		check(c.Sites, c.N, true)
	}
	for _, c := range invalidCountries() {
		check(c.Sites, c.N, false)
	}
	for n := -3; n < 20; n++ {
		check([][]int{{}}, n, n >= 1 && n <= 16)
		for spot := -3; spot < 20; spot++ {
			check([][]int{{}, {spot}, {}}, n, n <= 16 && spot >= 0 && spot < n)
		}
		for count := range 16 {
			check(sameSites(count), n, n >= 1 && n <= 16 && count >= 1 && count <= 12)
		}
	}
	// All orders of up to three spots of one site.
	for n := range 5 {
		listsOver(3, -1, 5, func(l []int) {
			for length := range 4 {
				check([][]int{l[:length], {}}, n, goodSites([][]int{l[:length]}, n))
			}
		})
	}
}

// TestFewSitesOfFewSpots goes through all sites of few spots.
func TestFewSitesOfFewSpots(t *testing.T) {
	for _, c := range []struct{ n, count int }{{1, 1}, {1, 2}, {1, 5}, {2, 1}, {2, 2}, {2, 3}, {2, 4}, {3, 1}, {3, 2}, {3, 3}, {4, 1}, {4, 2}} {
		var lists [][]int
		increasingLists(c.n, func(l []int) { lists = append(lists, l) })
		listsOver(c.count, 0, len(lists)-1, func(l []int) {
			sites := make([][]int, c.count)
			for i, k := range l {
				sites[i] = lists[k]
			}
			checkCountry(t, sites, c.n)
		})
	}
}

func TestManySites(t *testing.T) {
	// How often all sites cover the spots not at all, once only and twice, how often the greedy cover has more sites than the least one, and how often spots that are apart prove this one.
	covered, greedier, proved := [3]int{}, 0, 0
	for _, c := range validCountries() {
		needed, apart := checkWholeCountry(t, c.Sites, c.N)
		least, twice := leastCoverByTrying(c.Sites, c.N, 1), leastCoverByTrying(c.Sites, c.N, 2)
		greedy, _ := impl.GreedyCover(c.Sites, c.N)
		switch {
		case least == nil:
			covered[0]++
		case twice == nil:
			covered[1]++
		default:
			covered[2]++
		}
		if least != nil && (len(least) < len(apart) || len(least) < len(needed)) {
			t.Errorf("the sites %v have the cover %v, the needed sites %v and %v apart", c.Sites, least, needed, apart)
		}
		if len(greedy) > len(least) {
			greedier++
		}
		if least != nil && len(least) == len(apart) && len(apart) > 1 {
			proved++
		}
	}
	if slices.Min(covered[:]) < 10 || greedier < 3 || proved < 10 {
		t.Errorf("the sites are not worth it: %v, %d, %d", covered, greedier, proved)
	}
}

// TestManySitesInAllChoices has fewer of the sites, but all that can be chosen of them.
func TestManySitesInAllChoices(t *testing.T) {
	for i, c := range validCountries() {
		if len(c.Sites)+c.N <= 14 || i%23 == 0 {
			checkCountry(t, c.Sites, c.N)
		}
	}
	checkCountry(t, someSites(16, 12, 30, 5), 16)
	checkCountry(t, pairSites(12), 12)
}

func TestSeenFrom(t *testing.T) {
	for _, c := range []struct {
		sites  [][]int
		n      int
		chosen []int
		want   []int
	}{
		{[][]int{{0, 1}, {1, 2}, {2}}, 3, nil, []int{}},
		{[][]int{{0, 1}, {1, 2}, {2}}, 3, []int{}, []int{}},
		{[][]int{{0, 1}, {1, 2}, {2}}, 3, []int{1}, []int{1, 2}},
		{[][]int{{0, 1}, {1, 2}, {2}}, 3, []int{0, 2}, []int{0, 1, 2}},
		{[][]int{{0, 1}, {1, 2}, {2}}, 3, []int{1, 2}, []int{1, 2}},
		{[][]int{{2}, {0}}, 16, []int{0, 1}, []int{0, 2}},
		{[][]int{{}}, 1, []int{0}, []int{}},
		{[][]int{{0}}, 1, []int{0}, []int{0}},
		{[][]int{{15}, {}, {0}}, 16, []int{0, 1, 2}, []int{0, 15}},
		{sameSites(12, numbersBelow(16)...), 16, []int{11}, numbersBelow(16)},
		{sameSites(12, numbersBelow(16)...), 16, numbersBelow(12), numbersBelow(16)},
		{lonelySites(12), 16, numbersBelow(12), numbersBelow(12)},
		{lonelySites(12), 16, []int{3, 11}, []int{0, 8}},
	} {
		checkSiteResults(t, "SeenFrom", siteArguments{Sites: c.sites, N: c.n, Chosen: c.chosen}, c.want, true)
	}
}

func TestIsCover(t *testing.T) {
	for _, c := range []struct {
		sites  [][]int
		n      int
		chosen []int
		once   bool
		twice  bool
	}{
		{[][]int{{0, 1}, {1, 2}, {2}}, 3, nil, false, false},
		{[][]int{{0, 1}, {1, 2}, {2}}, 3, []int{0}, false, false},
		{[][]int{{0, 1}, {1, 2}, {2}}, 3, []int{1, 2}, false, false},
		{[][]int{{0, 1}, {1, 2}, {2}}, 3, []int{0, 2}, true, false},
		{[][]int{{0, 1}, {1, 2}, {2}}, 3, []int{0, 1, 2}, true, false},
		{[][]int{{0, 1}, {1, 2}, {0, 2}}, 3, []int{0, 1, 2}, true, true},
		{[][]int{{0, 1}, {1, 2}, {0, 2}}, 3, []int{0, 2}, true, false},
		{[][]int{{0, 1}, {0, 1}}, 2, []int{0}, true, false},
		{[][]int{{0, 1}, {0, 1}}, 2, []int{0, 1}, true, true},
		{[][]int{{0, 1}, {0, 1}}, 3, []int{0, 1}, false, false},
		{[][]int{{0}, {1}, {0, 1}}, 2, []int{0, 1, 2}, true, true},
		{[][]int{{0}}, 1, []int{0}, true, false},
		{[][]int{{}}, 1, []int{0}, false, false},
		{sameSites(12, 0), 1, []int{}, false, false},
		{sameSites(12, 0), 1, numbersBelow(12), true, true},
		{sameSites(12), 16, numbersBelow(12), false, false},
		{sameSites(12, numbersBelow(16)...), 16, []int{4}, true, false},
		{sameSites(12, numbersBelow(16)...), 16, []int{4, 11}, true, true},
		{sameSites(12, numbersBelow(15)...), 16, numbersBelow(12), false, false},
		{lonelySites(12), 12, numbersBelow(12), true, false},
		{pairSites(12), 12, numbersBelow(12), true, true},
	} {
		checkSiteResults(t, "IsCover", siteArguments{Sites: c.sites, N: c.n, Chosen: c.chosen, Times: 1}, c.once, true)
		checkSiteResults(t, "IsCover", siteArguments{Sites: c.sites, N: c.n, Chosen: c.chosen, Times: 2}, c.twice, true)
	}
}

func TestLeastCover(t *testing.T) {
	for _, c := range []struct {
		sites [][]int
		n     int
		once  []int
		twice []int
	}{
		// A later site does alone, before and behind others.
		{[][]int{{0}, {1}, {0, 1}}, 2, []int{2}, []int{0, 1, 2}},
		{[][]int{{0}, {1}, {0, 1}, {0}}, 2, []int{2}, []int{0, 1, 2}},
		{[][]int{{0}, {1}, {0, 1}, {0}, {0, 1}}, 2, []int{2}, []int{2, 4}},
		{[][]int{{}, {0, 1}, {0, 1}}, 2, []int{1}, []int{1, 2}},
		// Several of the same number: the first one in lexicographic order, though later ones do too.
		{sameSites(3, 0, 1), 2, []int{0}, []int{0, 1}},
		{[][]int{{0}, {0}, {1}, {1}}, 2, []int{0, 2}, numbersBelow(4)},
		{[][]int{{0, 1}, {2, 3}, {0, 2}, {1, 3}}, 4, []int{0, 1}, numbersBelow(4)},
		{[][]int{{0, 1}, {0, 2}, {1, 3}, {2, 3}}, 4, []int{0, 3}, numbersBelow(4)},
		{[][]int{{0, 1, 2}, {3}, {0, 1}, {2, 3}}, 4, []int{0, 1}, numbersBelow(4)},
		{[][]int{{0, 1}, {2, 3}, {4, 5}, {0, 2, 4}, {1, 3, 5}}, 6, []int{3, 4}, numbersBelow(5)},
		{[][]int{{0, 1}, {1, 2}, {2}}, 3, []int{0, 1}, nil},
		{pairSites(4), 4, []int{0, 2}, numbersBelow(4)},
		{pairSites(5), 5, []int{0, 1, 3}, numbersBelow(5)},
		// The greedy choices are not the least ones.
		{greedySites(), 6, []int{1, 2}, nil},
		{append(greedySites(), numbersBelow(6)), 6, []int{3}, []int{1, 2, 3}},
		// All sites together do not cover.
		{[][]int{{}}, 1, nil, nil},
		{[][]int{{0}}, 2, nil, nil},
		{[][]int{{0, 2}, {0, 2}, {2}}, 3, nil, nil},
		{sameSites(12), 16, nil, nil},
		{sameSites(12, numbersBelow(15)...), 16, nil, nil},
		// One spot and all, one site and all.
		{[][]int{{0}}, 1, []int{0}, nil},
		{[][]int{{0}, {}, {0}}, 1, []int{0}, []int{0, 2}},
		{sameSites(12, 0), 1, []int{0}, []int{0, 1}},
		{[][]int{numbersBelow(16)}, 16, []int{0}, nil},
		{append(sameSites(11), numbersBelow(16)), 16, []int{11}, nil},
		{append(sameSites(10), numbersBelow(16), numbersBelow(16)), 16, []int{10}, []int{10, 11}},
		{sameSites(12, numbersBelow(16)...), 16, []int{0}, []int{0, 1}},
		{lonelySites(12), 12, numbersBelow(12), nil},
		{pairSites(12), 12, []int{0, 2, 4, 6, 8, 10}, numbersBelow(12)},
		{pairSites(12), 13, nil, nil},
	} {
		for times, want := range [][]int{c.once, c.twice} {
			checkSiteList(t, "LeastCover", siteArguments{Sites: c.sites, N: c.n, Times: times + 1}, want)
			if by := leastCoverByTrying(c.sites, c.n, times+1); !slices.Equal(by, want) {
				t.Errorf("the least cover of %v, %d times, is %v by trying, not %v", c.sites, times+1, by, want)
			}
		}
	}
}

func TestGreedyCover(t *testing.T) {
	for _, c := range []struct {
		sites [][]int
		n     int
		want  []int
	}{
		{[][]int{{0, 1}, {1, 2}, {2}}, 3, []int{0, 1}},
		// The sites in the order in which they are chosen.
		{[][]int{{0}, {1, 2}, {3, 4, 5}}, 6, []int{2, 1, 0}},
		{[][]int{{0}, {1, 2, 3}, {4, 5}}, 6, []int{1, 2, 0}},
		{lonelySites(12), 12, numbersBelow(12)},
		// Only spots that are not seen yet count.
		{[][]int{{0, 1, 2, 3}, {0, 1, 2, 4}, {4, 5}}, 6, []int{0, 2}},
		{[][]int{{0, 1, 2}, {1, 2, 3}, {3, 4}, {4}}, 5, []int{0, 2}},
		// Several that see most, at the beginning and later on.
		{sameSites(12, 0), 1, []int{0}},
		{[][]int{{0}, {0, 1}, {2, 3}, {1, 2}}, 4, []int{1, 2}},
		{[][]int{{0, 1, 2}, {3}, {4}, {4}, {3}}, 5, []int{0, 1, 2}},
		{[][]int{{0, 1, 2}, {2, 4}, {1, 3}, {3, 4}, {3, 4}}, 5, []int{0, 3}},
		// The least cover has fewer.
		{greedySites(), 6, []int{0, 1, 2}},
		{[][]int{{0, 1, 2, 3}, {0, 1, 4}, {2, 3, 5}, {4, 5}}, 6, []int{0, 3}},
		{append(greedySites(), numbersBelow(6)), 6, []int{3}},
		// All sites together do not cover.
		{[][]int{{}}, 1, nil},
		{[][]int{{0}}, 2, nil},
		{[][]int{{1}, {2}}, 3, nil},
		{sameSites(12), 16, nil},
		{sameSites(12, numbersBelow(15)...), 16, nil},
		{sameSites(12, 1, 2, 3), 4, nil},
		// One site does alone.
		{[][]int{{0}}, 1, []int{0}},
		{[][]int{numbersBelow(16)}, 16, []int{0}},
		{append(sameSites(11, 0, 15), numbersBelow(16)), 16, []int{11}},
	} {
		checkSiteList(t, "GreedyCover", siteArguments{Sites: c.sites, N: c.n}, c.want)
		if by := greedyByCounting(c.sites, c.n); !slices.Equal(by, c.want) {
			t.Errorf("the greedy cover of %v is %v by counting, not %v", c.sites, by, c.want)
		}
	}
}

func TestNeededSites(t *testing.T) {
	for _, c := range []struct {
		sites [][]int
		n     int
		want  []int
	}{
		// None.
		{[][]int{{}}, 1, []int{}},
		{[][]int{{0}, {0}}, 1, []int{}},
		{pairSites(12), 12, []int{}},
		{sameSites(12, numbersBelow(16)...), 16, []int{}},
		{sameSites(12), 16, []int{}},
		{[][]int{{0, 1}, {1, 2}, {0, 2}}, 3, []int{}},
		// Some.
		{[][]int{{0, 1}, {1, 2}, {2}}, 3, []int{0}},
		{[][]int{{1, 2}, {2}, {0, 1}}, 3, []int{2}},
		{[][]int{{0, 1}, {1}, {2}, {1, 3}, {}}, 4, []int{0, 2, 3}},
		{append(lonelySites(11), []int{0, 1, 2, 11}), 12, append(numbersBelow(8), 11)},
		// All.
		{[][]int{{0}}, 1, []int{0}},
		{lonelySites(12), 12, numbersBelow(12)},
		{[][]int{{0, 1}, {1, 2}}, 3, []int{0, 1}},
		// Also where all sites together do not cover.
		{[][]int{{0}}, 2, []int{0}},
		{[][]int{{15}, {0}, {0}}, 16, []int{0}},
	} {
		checkSiteList(t, "NeededSites", siteArguments{Sites: c.sites, N: c.n}, c.want)
	}
}

func TestThinCover(t *testing.T) {
	for _, c := range []struct {
		sites  [][]int
		n      int
		chosen []int
		want   []int
	}{
		// None can be left out, though a smaller cover may be chosen otherwise.
		{[][]int{{0, 1}, {1, 2}, {2}}, 3, []int{0, 1}, []int{0, 1}},
		{[][]int{{0, 1}, {1, 2}, {2}}, 3, []int{0, 2}, []int{0, 2}},
		{[][]int{{0}, {1}, {0, 1}}, 2, []int{0, 1}, []int{0, 1}},
		{lonelySites(12), 12, numbersBelow(12), numbersBelow(12)},
		// One can.
		{[][]int{{0, 1}, {1, 2}, {2}}, 3, []int{0, 1, 2}, []int{0, 1}},
		{[][]int{{1}, {0, 1}, {2}}, 3, []int{0, 1, 2}, []int{1, 2}},
		{[][]int{{0}, {1}, {0, 1}}, 2, []int{1, 2}, []int{2}},
		// Several can.
		{sameSites(12, 0), 1, numbersBelow(12), []int{0}},
		{sameSites(12, numbersBelow(16)...), 16, []int{5, 7, 11}, []int{5}},
		{sameSites(12, numbersBelow(16)...), 16, []int{11}, []int{11}},
		// From the last one on: the first ones stay, or the last one where it is needed.
		{[][]int{{0}, {1}, {0, 1}}, 2, []int{0, 1, 2}, []int{0, 1}},
		{[][]int{{0, 1}, {0}, {1}}, 2, []int{0, 1, 2}, []int{0}},
		{[][]int{{0}, {0, 1}, {1}}, 2, []int{0, 1, 2}, []int{1}},
		{[][]int{{0, 1}, {1, 2}, {2, 3}, {0, 3}}, 4, []int{0, 1, 2, 3}, []int{0, 2}},
		{[][]int{{0}, {0, 1}, {1, 2}, {2, 3}}, 4, []int{0, 1, 2, 3}, []int{1, 3}},
		{pairSites(5), 5, numbersBelow(5), []int{0, 1, 3}},
		{[][]int{numbersBelow(4), {0}, {1}, {2}, {3}, {4}}, 5, numbersBelow(6), []int{0, 5}},
		// Chosen sites that do not cover.
		{[][]int{{0}}, 1, nil, nil},
		{[][]int{{0}}, 1, []int{}, nil},
		{[][]int{{0, 1}, {1, 2}, {2}}, 3, []int{1, 2}, nil},
		{[][]int{{0, 1}, {1, 2}, {2}}, 3, []int{0}, nil},
		{sameSites(12), 16, numbersBelow(12), nil},
		{lonelySites(12), 12, numbersBelow(11), nil},
	} {
		checkSiteList(t, "ThinCover", siteArguments{Sites: c.sites, N: c.n, Chosen: c.chosen}, c.want)
		if by := thinByWords(c.sites, c.n, c.chosen); !slices.Equal(by, c.want) {
			t.Errorf("%v of %v are thinned to %v by words, not %v", c.chosen, c.sites, by, c.want)
		}
	}
}

func TestAreApart(t *testing.T) {
	for _, c := range []struct {
		sites [][]int
		n     int
		spots []int
		want  bool
	}{
		// No spots and one spot are apart.
		{[][]int{{0, 1}, {1, 2}, {2}}, 3, nil, true},
		{[][]int{{0, 1}, {1, 2}, {2}}, 3, []int{}, true},
		{[][]int{{0, 1}, {1, 2}, {2}}, 3, []int{1}, true},
		{[][]int{{0}}, 1, []int{0}, true},
		{[][]int{{}}, 1, []int{0}, true},
		{[][]int{numbersBelow(16)}, 16, []int{15}, true},
		// Some spots are apart, and one site sees others together.
		{[][]int{{0, 1}, {1, 2}, {2}}, 3, []int{0, 2}, true},
		{[][]int{{0, 1}, {1, 2}, {2}}, 3, []int{0, 1}, false},
		{[][]int{{0, 1}, {1, 2}, {2}}, 3, []int{1, 2}, false},
		{[][]int{{0, 1}, {1, 2}, {2}}, 3, []int{0, 1, 2}, false},
		{[][]int{{0, 3}, {1, 2}, {4}}, 5, []int{0, 1, 4}, true},
		{[][]int{{0, 3}, {1, 2}, {4}}, 5, []int{0, 1, 3, 4}, false},
		{[][]int{{}, {0, 1, 2}}, 3, []int{0, 2}, false},
		{append(sameSites(11), []int{0, 15}), 16, []int{0, 15}, false},
		{append(sameSites(11), []int{0, 15}), 16, numbersBelow(16), false},
		{append(sameSites(11), []int{0, 15}), 16, numbersBelow(15), true},
		{lonelySites(12), 12, numbersBelow(12), true},
		{pairSites(12), 12, []int{0, 2, 4, 6, 8, 10}, true},
		{pairSites(12), 12, []int{0, 2, 4, 6, 8, 11}, false},
		// Spots that no site sees are apart from all.
		{[][]int{{}}, 16, numbersBelow(16), true},
		{[][]int{{0, 1}}, 4, []int{0, 2, 3}, true},
		{[][]int{{0, 1}}, 4, []int{0, 1, 2, 3}, false},
	} {
		checkSiteResults(t, "AreApart", siteArguments{Sites: c.sites, N: c.n, Spots: c.spots}, c.want, true)
	}
}

func TestMostApart(t *testing.T) {
	for _, c := range []struct {
		sites [][]int
		n     int
		want  []int
	}{
		{[][]int{{0, 1}, {1, 2}, {2}}, 3, []int{0, 2}},
		// One alone, all, and those that no site sees.
		{[][]int{{0}}, 1, []int{0}},
		{[][]int{{}}, 1, []int{0}},
		{[][]int{{}}, 16, numbersBelow(16)},
		{sameSites(12, 0), 16, numbersBelow(16)},
		{[][]int{numbersBelow(16)}, 16, []int{0}},
		{[][]int{numbersBelow(15)}, 16, []int{0, 15}},
		{lonelySites(12), 16, numbersBelow(16)},
		{[][]int{{0, 1}, {0, 3}}, 4, []int{1, 2, 3}},
		// Several of the same number: the first ones in lexicographic order.
		{[][]int{{0, 1}, {2, 3}}, 4, []int{0, 2}},
		{[][]int{{0, 2}, {1, 2}}, 3, []int{0, 1}},
		{[][]int{{0, 1}, {0, 2}, {1, 3}}, 4, []int{0, 3}},
		{pairSites(4), 4, []int{0, 2}},
		{pairSites(5), 5, []int{0, 2}},
		{pairSites(12), 12, []int{0, 2, 4, 6, 8, 10}},
		// The first spot stands in the way of more.
		{[][]int{{0, 1}, {0, 2}, {0, 3}}, 4, []int{1, 2, 3}},
		{[][]int{{0, 1, 2}, {0, 3, 4}}, 5, []int{1, 3}},
		{[][]int{{0, 1}, {1, 2}, {1, 3}}, 4, []int{0, 2, 3}},
	} {
		checkSiteList(t, "MostApart", siteArguments{Sites: c.sites, N: c.n}, c.want)
		if by := mostApartByTrying(c.sites, c.n); !slices.Equal(by, c.want) {
			t.Errorf("the most spots apart of %v are %v by trying, not %v", c.sites, by, c.want)
		}
	}
}

// TestApartProves has spots that are apart and as many as the least cover has sites, and others that prove less.
func TestApartProves(t *testing.T) {
	for _, c := range []struct {
		sites        [][]int
		n            int
		apart, cover int
	}{
		{lonelySites(12), 12, 12, 12},
		{pairSites(12), 12, 6, 6},
		{greedySites(), 6, 2, 2},
		{sameSites(12, numbersBelow(16)...), 16, 1, 1},
		{pairSites(3), 3, 1, 2},
		{pairSites(5), 5, 2, 3},
		{pairSites(11), 11, 5, 6},
	} {
		apart, ok := impl.MostApart(c.sites, c.n)
		if len(apart) != c.apart || !spotsApart(c.sites, apart) || !ok {
			t.Errorf("MostApart(%v, %d) = %v, %v", c.sites, c.n, apart, ok)
		}
		cover, ok := impl.LeastCover(c.sites, c.n, 1)
		if len(cover) != c.cover || !coversSpots(c.sites, c.n, cover, 1) || !ok {
			t.Errorf("LeastCover(%v, %d, 1) = %v, %v", c.sites, c.n, cover, ok)
		}
	}
}

// choices returns the number of lists of k out of n.
func choices(n int, k int) int {
	if k > n {
		return 0
	}
	count := 1
	for i := range k {
		count = count * (n - i) / (i + 1)
	}
	return count
}

func TestCountCovers(t *testing.T) {
	for k := range 13 {
		atLeastOne, all, none := min(k, 1)*choices(12, k), k/12, 0
		for _, c := range []struct {
			sites [][]int
			n     int
			want  int
		}{
			{sameSites(12, 0), 1, atLeastOne},
			{sameSites(12, numbersBelow(16)...), 16, atLeastOne},
			{lonelySites(12), 12, all},
			{sameSites(12), 16, none},
			{sameSites(12, numbersBelow(15)...), 16, none},
			{[][]int{{}}, 1, none},
			// The last site alone sees the last spot, so that each cover has it.
			{append(sameSites(11), numbersBelow(16)), 16, choices(12, k) - choices(11, k)},
		} {
			checkSiteResults(t, "CountCovers", siteArguments{Sites: c.sites, N: c.n, K: k}, c.want, true)
		}
		// The number of sites and fewer, and more sites than there are.
		few := slices.Concat([]int{0, 0, 2, 1}, make([]int, 9))
		checkSiteResults(t, "CountCovers", siteArguments{Sites: [][]int{{0, 1}, {1, 2}, {2}}, N: 3, K: k}, few[k], true)
		one := slices.Concat([]int{0, 1}, make([]int, 11))
		checkSiteResults(t, "CountCovers", siteArguments{Sites: [][]int{numbersBelow(16)}, N: 16, K: k}, one[k], true)
		ring := slices.Concat([]int{0, 0, 2, 4, 1}, make([]int, 8))
		checkSiteResults(t, "CountCovers", siteArguments{Sites: pairSites(4), N: 4, K: k}, ring[k], true)
	}
}

// goodSiteArguments returns valid arguments with each of the sites.
func goodSiteArguments() []siteArguments {
	all := validCountries()
	for i, c := range all {
		all[i].Chosen = numbersBelow(len(c.Sites))[i%2*(len(c.Sites)/2):]
		all[i].Times = 1 + i%2
		all[i].Spots = numbersBelow(c.N)[c.N/2:]
		all[i].K = i % 13
	}
	return all
}

func TestInvalidSites(t *testing.T) {
	for _, c := range invalidCountries() {
		for times := 1; times <= 2; times++ {
			c.Times = times
			c.Chosen, c.Spots, c.K = nil, nil, 0
			checkSiteRefused(t, c, callsWithSites()...)
			c.Chosen, c.Spots, c.K = []int{0}, []int{0}, 1
			checkSiteRefused(t, c, callsWithSites()...)
		}
		c.Chosen, c.Spots, c.K = numbersBelow(min(len(c.Sites), 13)), numbersBelow(min(max(c.N, 0), 17)), 12
		checkSiteRefused(t, c, callsWithSites()...)
	}
}

func TestInvalidChosenSites(t *testing.T) {
	for i, a := range goodSiteArguments() {
		for _, chosen := range invalidIncreasing(len(a.Sites)) {
			a.Chosen, a.Times = chosen, 1+i%2
			checkSiteRefused(t, a, "SeenFrom", "IsCover", "ThinCover")
		}
	}
	// All faults of few chosen sites.
	for _, sites := range [][][]int{{{0}}, {{0}, {}}, {{0}, {0}, {0}}} {
		for length := range 4 {
			listsOver(length, -1, len(sites), func(l []int) {
				a := siteArguments{Sites: sites, N: 1, Chosen: l, Times: 1}
				if isIncreasingBelow(l, len(sites)) {
					checkChosen(t, sites, 1, l)
				} else {
					checkSiteRefused(t, a, "SeenFrom", "IsCover", "ThinCover")
				}
			})
		}
	}
}

func TestInvalidTimes(t *testing.T) {
	for _, a := range goodSiteArguments() {
		for _, bad := range append(beyond(1, 2), 0, 3) {
			a.Times = bad
			checkSiteRefused(t, a, "IsCover", "LeastCover")
			a.Chosen = numbersBelow(len(a.Sites))
			checkSiteRefused(t, a, "IsCover", "LeastCover")
		}
	}
}

func TestInvalidSpots(t *testing.T) {
	for _, a := range goodSiteArguments() {
		for _, spots := range invalidIncreasing(a.N) {
			a.Spots = spots
			checkSiteRefused(t, a, "AreApart")
		}
	}
	// All faults of few spots.
	for n := 1; n <= 3; n++ {
		for length := range 4 {
			listsOver(length, -1, n, func(l []int) {
				sites := [][]int{{0}, {}}
				if isIncreasingBelow(l, n) {
					checkApart(t, sites, n, l)
				} else {
					checkSiteRefused(t, siteArguments{Sites: sites, N: n, Spots: l}, "AreApart")
				}
			})
		}
	}
}

func TestInvalidCounts(t *testing.T) {
	for _, a := range goodSiteArguments() {
		for _, bad := range beyond(0, 12) {
			a.K = bad
			checkSiteRefused(t, a, "CountCovers")
		}
	}
}

// manySiteArguments returns arguments of many kinds, valid ones and invalid ones.
func manySiteArguments() []siteArguments {
	all := goodSiteArguments()
	odd := oddInts()
	for i, c := range invalidCountries() {
		if len(c.Sites) > 100 || i%17 != 0 || slices.ContainsFunc(c.Sites, func(seen []int) bool { return len(seen) > 100 }) {
			continue
		}
		x, y := odd[i%len(odd)], odd[i*7%len(odd)]
		all = append(all,
			siteArguments{Sites: c.Sites, N: c.N, Chosen: []int{0, i % 12}, Times: 1, Spots: []int{i % 16}, K: i % 13},
			siteArguments{Sites: pairSites(2 + i%11), N: 16, Chosen: []int{0, x}, Times: y, Spots: []int{y, x}, K: x},
		)
	}
	return all
}

func TestSiteFunctionsArePure(t *testing.T) {
	calls := siteCalls()
	if len(calls) != 10 || len(callsWithSites()) != 10 {
		t.Errorf("%d functions, %d of sites", len(calls), len(callsWithSites()))
	}
	checkAllPure(t, calls, manySiteArguments(), 20)
}

// TestSitesInOneMemory gives sites that lie in one array, one over another, with the chosen ones and the spots.
func TestSitesInOneMemory(t *testing.T) {
	memory := []int{0, 1, 2, 3, 4, 5}
	before := slices.Clone(memory)
	sites := [][]int{memory[:2], memory[1:4], memory[3:], memory[5:]}
	checkCountry(t, sites, 6)
	// Some of these results are the same lists as arguments, but must have other memory.
	seen, _ := impl.SeenFrom(sites, 6, memory[:1])
	least, _ := impl.LeastCover(sites, 6, 1)
	greedy, _ := impl.GreedyCover(sites, 6)
	needed, _ := impl.NeededSites(sites, 6)
	thin, _ := impl.ThinCover(sites, 6, memory[:3])
	apart, ok := impl.MostApart(sites, 6)
	if !slices.Equal(seen, []int{0, 1}) || !slices.Equal(least, []int{0, 1, 2}) || !slices.Equal(greedy, []int{1, 2, 0}) || !slices.Equal(needed, []int{0, 1, 2}) || !slices.Equal(thin, []int{0, 1, 2}) || !slices.Equal(apart, []int{0, 2, 4}) || !ok {
		t.Errorf("the results are %v, %v, %v, %v, %v, %v", seen, least, greedy, needed, thin, apart)
	}
	for _, l := range [][]int{seen, least, greedy, needed, thin, apart} {
		for i := range l[:cap(l)] {
			l[:cap(l)][i] = -1
		}
	}
	if !slices.Equal(memory, before) {
		t.Errorf("the arguments are %v now", memory)
	}
	checkCountry(t, sites, 6)
}

func TestSiteFunctionsAcceptAllArguments(t *testing.T) {
	calls := siteCalls()
	check := func(a siteArguments) { checkAccepted(t, calls, a) }
	check(siteArguments{})
	numbers := append(oddInts(), 0, 1, 2, 3, 11, 12, 13, 15, 16, 17)
	for _, n := range numbers {
		for _, m := range numbers {
			check(siteArguments{Sites: [][]int{{0, n}, {m}, {}}, N: n, Chosen: []int{n, m}, Times: m, Spots: []int{m, n}, K: n})
			check(siteArguments{Sites: pairSites(12), N: n, Chosen: []int{n}, Times: 1, Spots: []int{m}, K: m})
			check(siteArguments{Sites: [][]int{{n}, {m}}, N: 16, Chosen: []int{0, m}, Times: n, Spots: []int{n, m}, K: n})
		}
	}
	for _, a := range manySiteArguments() {
		check(a)
	}
	for _, a := range invalidCountries() {
		check(siteArguments{Sites: a.Sites, N: a.N, Chosen: slices.Concat(a.Sites...), Times: 2, Spots: numbersBelow(20), K: len(a.Sites)})
	}
}
