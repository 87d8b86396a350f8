package tests

import (
	"fmt"
	"math/big"
	"slices"
	"testing"

	"loop.example/g00940/impl"
)

// sightOf returns a sight with Grounds that are given by At and Height, one after the other.
func sightOf(distance int, heightA int, heightB int, grounds ...int) impl.Sight {
	s := impl.Sight{Distance: distance, HeightA: heightA, HeightB: heightB}
	for i := 0; i < len(grounds); i += 2 {
		s.Grounds = append(s.Grounds, impl.Ground{At: grounds[i], Height: grounds[i+1]})
	}
	return s
}

// someSight returns a sight that looks mixed, whose tops are below a height and whose Grounds lie about the line.
func someSight(distance int, grounds int, below int, seed int) impl.Sight {
	grounds = min(grounds, distance-1)
	tops, mixed := someWeights(2, below, seed), someWeights(2*grounds, 100000, seed+distance)
	s := sightOf(distance, tops[0], tops[1])
	for i := range grounds {
		step := (distance - 1) / grounds
		at := 1 + i*step + mixed[2*i]%step
		line := tops[0] + (tops[1]-tops[0])*at/distance
		height := line - 5*(8-seed%4)*at*(distance-at)/50968 + mixed[2*i+1]%(3+seed%30) - 2 - seed%30
		s.Grounds = append(s.Grounds, impl.Ground{At: at, Height: min(max(height, 0), 3000)})
	}
	return s
}

// sightWithRoom returns a sight with one Ground above which the line has so much room, in parts of which there are 50968 times the distance in a metre. HeightB is the greater one if the sight rises. It fails if there is no such sight.
func sightWithRoom(distance int, at int, n int, room int, rises bool) (impl.Sight, bool) {
	parts := room + 5*(8-n)*at*(distance-at)*distance
	if parts%50968 != 0 {
		return impl.Sight{}, false
	}
	need := parts / 50968
	for k := range distance {
		if (k*at-need)%distance != 0 {
			continue
		}
		if !rises {
			// The line falls by as much more as it must.
			k -= distance
		}
		return sightOf(distance, 1500, 1500+k, at, 1500+(k*at-need)/distance), true
	}
	return impl.Sight{}, false
}

// sightsWithRoom calls f with sights of all distances with so much room, and with their refractions.
func sightsWithRoom(room int, f func(s impl.Sight, n int)) {
	for distance := 2; distance <= 999; distance++ {
		for at := 1; at < distance; at++ {
			for n := range 4 {
				if s, ok := sightWithRoom(distance, at, n, room, (distance+at)%2 == 0); ok {
					f(s, n)
				}
			}
		}
	}
}

// fullSight returns a sight with MaxGrounds Grounds of one height, the first one at 1 and the last one at distance - 1.
func fullSight(distance int, heightA int, heightB int, height int) impl.Sight {
	s := sightOf(distance, heightA, heightB)
	for i := range 20 {
		s.Grounds = append(s.Grounds, impl.Ground{At: 1 + i*(distance-2)/19, Height: height})
	}
	return s
}

// validSights returns sights of many kinds.
func validSights() []impl.Sight {
	sights := []impl.Sight{
		sightOf(200, 20, 20, 100, 10), sightOf(200, 20, 20, 100, 13), sightOf(200, 20, 20, 100, 16),
		sightOf(1, 0, 0), sightOf(1, 3000, 0), sightOf(1, 0, 3000), {Distance: 1, HeightA: 3000, HeightB: 3000, Grounds: []impl.Ground{}},
		sightOf(2, 0, 0, 1, 0), sightOf(2, 0, 0, 1, 3000), sightOf(2, 3000, 3000, 1, 3000), sightOf(2, 0, 1, 1, 0), sightOf(2, 1, 0, 1, 0), sightOf(2, 3000, 0, 1, 3000),
		sightOf(999, 0, 0), sightOf(999, 3000, 0), sightOf(999, 0, 0, 1, 0, 998, 0), sightOf(999, 0, 0, 499, 0), sightOf(999, 196, 196, 499, 0, 500, 0), sightOf(999, 195, 196, 499, 0, 500, 0),
		sightOf(999, 3000, 0, 1, 3000, 998, 0), sightOf(999, 0, 3000, 1, 0, 998, 3000), sightOf(999, 0, 3000, 1, 3000), sightOf(999, 3000, 0, 998, 3000), sightOf(999, 3000, 3000, 1, 3000, 500, 0, 998, 3000),
		sightOf(300, 15, 15, 277, 10), sightOf(300, 15, 15, 23, 10), sightOf(300, 3000, 3000, 277, 2995), sightOf(300, 0, 0, 277, 2995), sightOf(300, 15, 15, 23, 10, 277, 10),
		fullSight(21, 0, 0, 0), fullSight(21, 1, 1, 0), fullSight(21, 3000, 0, 1500), fullSight(22, 0, 3000, 1500), fullSight(999, 200, 200, 5), fullSight(999, 3000, 0, 100), fullSight(999, 0, 3000, 3000), fullSight(999, 3000, 3000, 2900),
	}
	for _, distance := range []int{2, 3, 20, 21, 22, 99, 300, 998, 999} {
		for _, grounds := range []int{1, 2, 5, 20} {
			for seed := range 8 {
				sights = append(sights, someSight(distance, grounds, []int{30, 300, 3001}[seed%3], 7*distance+grounds+seed))
			}
		}
	}
	return sights
}

// withGround returns a copy of a sight with another Ground at an index.
func withGround(s impl.Sight, i int, g impl.Ground) impl.Sight {
	s.Grounds = slices.Clone(s.Grounds)
	s.Grounds[i] = g
	return s
}

// invalidSights returns sights that have one fault each.
func invalidSights() []impl.Sight {
	sights := []impl.Sight{
		{}, {HeightA: 5}, {Grounds: []impl.Ground{{At: 1}}}, sightOf(1, 0, 0, 1, 0), sightOf(1, 0, 0, 0, 0), sightOf(2, 0, 0, 1, 0, 1, 0), sightOf(2, 0, 0, 2, 0), sightOf(999, 0, 0, 999, 0),
		{Distance: 999, Grounds: make([]impl.Ground, 100000)},
	}
	for _, count := range []int{21, 22, 500} {
		s := sightOf(999, 3000, 3000)
		for i := range count {
			s.Grounds = append(s.Grounds, impl.Ground{At: 1 + i})
		}
		sights = append(sights, s)
	}
	for _, s := range validSights() {
		for _, bad := range beyond(1, 999) {
			other := s
			other.Distance = bad
			sights = append(sights, other)
		}
		for _, bad := range beyond(0, 3000) {
			low, high := s, s
			low.HeightA, high.HeightB = bad, bad
			sights = append(sights, low, high)
		}
		if len(s.Grounds) > 0 {
			sights = append(sights, withInvalidGround(s)...)
		}
	}
	return sights
}

func withInvalidGround(s impl.Sight) []impl.Sight {
	var sights []impl.Sight
	last := len(s.Grounds) - 1
	for _, i := range []int{0, last / 2, last} {
		g := s.Grounds[i]
		for _, bad := range beyond(0, 3000) {
			sights = append(sights, withGround(s, i, impl.Ground{At: g.At, Height: bad}))
		}
		for _, bad := range beyond(1, s.Distance-1) {
			sights = append(sights, withGround(s, i, impl.Ground{At: bad, Height: g.Height}))
		}
		if i < last {
			next := s.Grounds[i+1]
			turned := withGround(s, i, next)
			sights = append(sights, withGround(turned, i+1, g), withGround(s, i+1, g), withGround(s, i+1, impl.Ground{At: g.At, Height: next.Height}))
		}
	}
	// No Ground is left for the towers' own places, and the distance ends at the last one.
	short := s
	short.Distance = s.Grounds[last].At
	return append(sights, short)
}

// goodSight tells by the words of chapter 7 whether a sight is valid, without the program.
func goodSight(s impl.Sight) bool {
	if s.Distance < 1 || s.Distance > 999 || s.HeightA < 0 || s.HeightA > 3000 || s.HeightB < 0 || s.HeightB > 3000 || len(s.Grounds) > 20 {
		return false
	}
	for i, g := range s.Grounds {
		if g.At < 1 || g.At > s.Distance-1 || g.Height < 0 || g.Height > 3000 || i > 0 && g.At <= s.Grounds[i-1].At {
			return false
		}
	}
	return true
}

// topAt returns Height plus bulge at a Ground, by the words of chapter 7.
func topAt(distance int, g impl.Ground, n int) *big.Rat {
	bulge := big.NewRat(int64(5*(8-n)*g.At*(distance-g.At)), 50968)
	return bulge.Add(bulge, big.NewRat(int64(g.Height), 1))
}

// roomAt returns the difference of the line and of Height plus bulge at a Ground, by the words of chapter 7.
func roomAt(s impl.Sight, g impl.Ground, n int) *big.Rat {
	line := big.NewRat(int64((s.HeightB-s.HeightA)*g.At), int64(s.Distance))
	line.Add(line, big.NewRat(int64(s.HeightA), 1))
	return line.Sub(line, topAt(s.Distance, g, n))
}

// roundedUp returns the least integer that is not less than a fraction.
func roundedUp(r *big.Rat) int {
	// Div rounds down for a positive divisor.
	floor := new(big.Int).Div(new(big.Int).Neg(r.Num()), r.Denom())
	return -int(floor.Int64())
}

// leastHeightFor returns the least integer HeightB, even a great one, with which the line is high enough at all Grounds. Each Ground alone asks for a height.
func leastHeightFor(s impl.Sight, n int) int {
	least := 0
	for _, g := range s.Grounds {
		rise := new(big.Rat).Sub(topAt(s.Distance, g, n), big.NewRat(int64(s.HeightA), 1))
		rise.Mul(rise, big.NewRat(int64(s.Distance), int64(g.At)))
		least = max(least, s.HeightA+roundedUp(rise))
	}
	return least
}

// leastRaiseFor returns the least integer raise, even a great one, with which the line is high enough at all Grounds.
func leastRaiseFor(s impl.Sight, n int) int {
	least := 0
	for _, g := range s.Grounds {
		least = max(least, roundedUp(new(big.Rat).Neg(roomAt(s, g, n))))
	}
	return least
}

// sightArguments are what the functions of chapter 7 get, so that checkPure sees all of it.
type sightArguments struct {
	Sight      impl.Sight
	Refraction int
	Distance   int
	At         int
	Height     int
}

// sightCalls calls all functions of chapter 7.
func sightCalls() map[string]func(a sightArguments) []any {
	return map[string]func(a sightArguments) []any{
		"IsSight": func(a sightArguments) []any { return []any{impl.IsSight(a.Sight)} },
		"BulgeAt": func(a sightArguments) []any {
			n, ok := impl.BulgeAt(a.Distance, a.At, a.Refraction)
			return []any{n, ok}
		},
		"SeesAt": func(a sightArguments) []any {
			is, ok := impl.SeesAt(a.Sight, a.Refraction)
			return []any{is, ok}
		},
		"SightBounds": func(a sightArguments) []any {
			all, some, ok := impl.SightBounds(a.Sight)
			return []any{all, some, ok}
		},
		"BlockedBy": func(a sightArguments) []any {
			l, ok := impl.BlockedBy(a.Sight, a.Refraction)
			return []any{l, ok}
		},
		"LeastHeight": func(a sightArguments) []any {
			n, ok := impl.LeastHeight(a.Sight, a.Refraction)
			return []any{n, ok}
		},
		"LeastRaise": func(a sightArguments) []any {
			n, ok := impl.LeastRaise(a.Sight, a.Refraction)
			return []any{n, ok}
		},
		"HorizonOf": func(a sightArguments) []any {
			n, ok := impl.HorizonOf(a.Height, a.Refraction)
			return []any{n, ok}
		},
		"Clearance": func(a sightArguments) []any {
			n, d, ok := impl.Clearance(a.Sight, a.Refraction)
			return []any{n, d, ok}
		},
		"ReverseSight": func(a sightArguments) []any { s, ok := impl.ReverseSight(a.Sight); return []any{s, ok} },
	}
}

// callsWithSight names the functions of chapter 7 that get a sight.
func callsWithSight() []string {
	return []string{"IsSight", "SeesAt", "SightBounds", "BlockedBy", "LeastHeight", "LeastRaise", "Clearance", "ReverseSight"}
}

// callsWithRefraction names the functions of chapter 7 that get a refraction.
func callsWithRefraction() []string {
	return []string{"BulgeAt", "SeesAt", "BlockedBy", "LeastHeight", "LeastRaise", "HorizonOf", "Clearance"}
}

// checkSightRefused fails if one of the named functions gives any result that is not a zero one.
func checkSightRefused(t *testing.T, a sightArguments, names ...string) {
	t.Helper()
	checkAllRefused(t, sightCalls(), a, names...)
}

// checkResults fails if a function of chapter 7 does not give these results.
func checkResults(t *testing.T, name string, a sightArguments, want ...any) {
	t.Helper()
	if got := textOfResults(sightCalls()[name](a)); got != textOfResults(want) {
		t.Errorf("%s(%v) = %s, want %s", name, a, got, textOfResults(want))
	}
}

func TestSightExample(t *testing.T) {
	if impl.MaxGrounds != 20 {
		t.Errorf("MaxGrounds = %d", impl.MaxGrounds)
	}
	for n, want := range []int{784, 686, 588, 490} {
		checkResults(t, "BulgeAt", sightArguments{Distance: 200, At: 100, Refraction: n}, want, true)
	}
	if !impl.IsSight(sightOf(200, 20, 20, 100, 10)) {
		t.Error("a sight of one Ground is not valid")
	}
}

func TestIsSight(t *testing.T) {
	for _, s := range validSights() {
		if !goodSight(s) || !impl.IsSight(s) {
			t.Errorf("IsSight(%v) = %v, want true", s, impl.IsSight(s))
		}
	}
	for _, s := range invalidSights() {
		if goodSight(s) || impl.IsSight(s) {
			t.Errorf("IsSight(%.400s) = %v, want false", fmt.Sprint(s), impl.IsSight(s))
		}
	}
	check := func(s impl.Sight) {
		if got, want := impl.IsSight(s), goodSight(s); got != want {
			t.Errorf("IsSight(%v) = %v, want %v", s, got, want)
		}
	}
	for x := -3; x < 3004; x++ {
		check(sightOf(x, 0, 0))
		check(sightOf(9, x, 0))
		check(sightOf(9, 0, x))
		check(sightOf(9, 0, 0, 5, x))
		check(sightOf(999, 0, 0, x, 5))
		check(sightOf(x, 0, 0, x-1, 5))
		check(sightOf(x, 0, 0, x, 5))
	}
	// All orders of up to three Grounds.
	for distance := range 7 {
		listsOver(3, -1, 7, func(l []int) {
			check(sightOf(distance, 0, 0, l[0], 9, l[1], 0))
			check(sightOf(distance, 0, 0, l[0], 0, l[1], 9, l[2], 9))
		})
	}
	for grounds := range 30 {
		s := sightOf(999, 1, 2)
		for i := range grounds {
			s.Grounds = append(s.Grounds, impl.Ground{At: 999 - grounds + i, Height: i})
		}
		if impl.IsSight(s) != (grounds <= 20) {
			t.Errorf("IsSight of %d Grounds = %v", grounds, impl.IsSight(s))
		}
	}
}

func TestBulgeAt(t *testing.T) {
	for distance := 1; distance <= 999; distance++ {
		for at := 0; at <= distance; at++ {
			for n := range 4 {
				want := 500 * (8 - n) * at * (distance - at) / 50968
				if got, ok := impl.BulgeAt(distance, at, n); got != want || !ok {
					t.Fatalf("BulgeAt(%d, %d, %d) = %d, %v, want %d", distance, at, n, got, ok, want)
				}
			}
		}
	}
	for _, c := range []struct{ distance, at, n, want int }{
		{1, 0, 0, 0}, {1, 1, 0, 0}, {1, 1, 3, 0}, {2, 1, 0, 0}, {999, 0, 0, 0}, {999, 999, 0, 0}, {999, 999, 3, 0}, {999, 1, 0, 78}, {999, 998, 0, 78},
		{999, 499, 0, 19580}, {999, 500, 0, 19580}, {999, 500, 3, 12238},
		// Whole metres, and half a centimetre too much.
		{300, 277, 0, 500}, {300, 23, 0, 500}, {300, 277, 3, 312},
	} {
		checkResults(t, "BulgeAt", sightArguments{Distance: c.distance, At: c.at, Refraction: c.n}, c.want, true)
	}
}

func TestBulgeAtInvalid(t *testing.T) {
	for _, n := range []int{0, 1, 2, 3} {
		for _, bad := range beyond(1, 999) {
			for _, at := range []int{0, 1, bad, bad - 1, bad / 2} {
				checkSightRefused(t, sightArguments{Distance: bad, At: at, Refraction: n}, "BulgeAt")
			}
		}
		for _, distance := range []int{1, 2, 10, 500, 999} {
			for _, bad := range beyond(0, distance) {
				checkSightRefused(t, sightArguments{Distance: distance, At: bad, Refraction: n}, "BulgeAt")
			}
		}
	}
}

// checkSight compares all functions that get a sight with the words of chapter 7.
func checkSight(t *testing.T, s impl.Sight, n int) {
	t.Helper()
	a := sightArguments{Sight: s, Refraction: n}
	blocked, least := []int{}, big.NewRat(1000000, 1)
	for i, g := range s.Grounds {
		room := roomAt(s, g, n)
		if room.Sign() < 0 {
			blocked = append(blocked, i)
		}
		if room.Cmp(least) < 0 {
			least = room
		}
	}
	checkResults(t, "BlockedBy", a, blocked, true)
	checkResults(t, "SeesAt", a, len(blocked) == 0, true)
	if len(s.Grounds) == 0 {
		checkSightRefused(t, a, "Clearance")
	} else {
		checkResults(t, "Clearance", a, least.Num(), least.Denom(), true)
	}
	if height := leastHeightFor(s, n); height <= 3000 {
		checkResults(t, "LeastHeight", a, height, true)
	} else {
		checkSightRefused(t, a, "LeastHeight")
	}
	if raise := leastRaiseFor(s, n); raise <= 3000 {
		checkResults(t, "LeastRaise", a, raise, true)
	} else {
		checkSightRefused(t, a, "LeastRaise")
	}
}

func TestSights(t *testing.T) {
	seen := [5]int{}
	for _, s := range validSights() {
		clear := 0
		for n := range 4 {
			checkSight(t, s, n)
			if is, _ := impl.SeesAt(s, n); is {
				clear++
			}
		}
		seen[clear]++
		checkResults(t, "SightBounds", sightArguments{Sight: s}, clear == 4, clear > 0, true)
	}
	// The sights are worth it: some are clear with any number of refractions.
	for clear, count := range seen {
		if count < 5 {
			t.Errorf("%d sights are clear with %d refractions: %v", count, clear, seen)
		}
	}
}

// TestSightsOfFewMetres goes through all low sights of small distances, where the bulge is less than a centimetre but blocks what the line touches.
func TestSightsOfFewMetres(t *testing.T) {
	for _, distance := range []int{2, 3, 4} {
		for at := 1; at < distance; at++ {
			listsOver(3, 0, 4, func(l []int) {
				checkSight(t, sightOf(distance, l[0], l[1], at, l[2]), (l[0]+l[1])%4)
			})
		}
	}
	listsOver(4, 0, 3, func(l []int) {
		checkSight(t, sightOf(3, l[0], l[1], 1, l[2], 2, l[3]), l[0])
	})
}

func TestSightsWithoutGrounds(t *testing.T) {
	for _, distance := range []int{1, 2, 500, 999} {
		for _, heights := range [][2]int{{0, 0}, {0, 3000}, {3000, 0}, {3000, 3000}, {7, 8}} {
			for _, grounds := range [][]impl.Ground{nil, {}} {
				s := impl.Sight{Distance: distance, HeightA: heights[0], HeightB: heights[1], Grounds: grounds}
				for n := range 4 {
					a := sightArguments{Sight: s, Refraction: n}
					checkResults(t, "IsSight", a, true)
					checkResults(t, "SeesAt", a, true, true)
					checkResults(t, "SightBounds", a, true, true, true)
					checkResults(t, "BlockedBy", a, []int{}, true)
					checkResults(t, "LeastHeight", a, 0, true)
					checkResults(t, "LeastRaise", a, 0, true)
					checkSightRefused(t, a, "Clearance")
					checkResults(t, "ReverseSight", a, sightOf(distance, heights[1], heights[0]), true)
				}
			}
		}
	}
}

func TestSightsByRefractions(t *testing.T) {
	for _, c := range []struct {
		height int
		sees   [4]bool
	}{
		{12, [4]bool{true, true, true, true}},
		{13, [4]bool{false, true, true, true}},
		{14, [4]bool{false, false, true, true}},
		{15, [4]bool{false, false, false, true}},
		{16, [4]bool{}},
	} {
		s := sightOf(200, 20, 20, 100, c.height)
		for n, sees := range c.sees {
			a := sightArguments{Sight: s, Refraction: n}
			checkResults(t, "SeesAt", a, sees, true)
			blocked := []int{0}
			if sees {
				blocked = nil
			}
			checkResults(t, "BlockedBy", a, blocked, true)
		}
		checkResults(t, "SightBounds", sightArguments{Sight: s}, c.sees[0], c.sees[3], true)
		// No refraction is asked for, so none is wrong.
		checkResults(t, "SightBounds", sightArguments{Sight: s, Refraction: 9}, c.sees[0], c.sees[3], true)
	}
	for _, x := range []impl.Sight{sightOf(200, 20, 20, 1, 25, 100, 16), sightOf(200, 20, 20, 100, 16, 199, 25), sightOf(200, 20, 20, 1, 5, 100, 16)} {
		checkResults(t, "SightBounds", sightArguments{Sight: x}, false, false, true)
	}
}

func TestBlockedBy(t *testing.T) {
	for _, c := range []struct {
		sight   impl.Sight
		n       int
		blocked []int
	}{
		{sightOf(100, 10, 10, 1, 10, 50, 5, 99, 10), 0, []int{0, 2}},
		{sightOf(100, 10, 10, 1, 9, 50, 9, 99, 9), 0, []int{1}},
		{sightOf(100, 10, 10, 1, 9, 50, 9, 99, 10), 3, []int{1, 2}},
		{sightOf(100, 10, 10, 1, 10, 50, 10, 99, 10), 3, []int{0, 1, 2}},
		{sightOf(100, 10, 10, 1, 9, 50, 8, 99, 9), 0, nil},
		// The line rises to 100, or falls from there.
		{sightOf(100, 0, 100, 1, 2, 50, 48, 99, 98), 0, []int{0}},
		{sightOf(100, 100, 0, 1, 98, 50, 49, 99, 0), 0, []int{1}},
		{sightOf(100, 0, 100, 1, 0, 50, 48, 99, 99), 1, []int{2}},
		{sightOf(100, 0, 100, 1, 3000, 99, 3000), 2, []int{0, 1}},
	} {
		checkResults(t, "BlockedBy", sightArguments{Sight: c.sight, Refraction: c.n}, c.blocked, true)
	}
	all := make([]int, 20)
	for i := range all {
		all[i] = i
	}
	checkResults(t, "BlockedBy", sightArguments{Sight: fullSight(999, 0, 0, 3000)}, all, true)
	checkResults(t, "BlockedBy", sightArguments{Sight: fullSight(21, 1, 1, 0)}, []int{}, true)
	for i := range all {
		s := withGround(fullSight(999, 300, 300, 0), i, impl.Ground{At: fullSight(999, 0, 0, 0).Grounds[i].At, Height: 300})
		checkResults(t, "BlockedBy", sightArguments{Sight: s}, []int{i}, true)
	}
}

// TestTouchedGrounds has lines that just touch a Ground, and others that are lower or higher by a hair: the room is always even in these parts of a metre, so that none can be nearer.
func TestTouchedGrounds(t *testing.T) {
	for _, room := range []int{-2, 0, 2} {
		count, otherwise := 0, 0
		sightsWithRoom(room, func(s impl.Sight, n int) {
			if !goodSight(s) {
				return
			}
			count++
			a, g := sightArguments{Sight: s, Refraction: n}, s.Grounds[0]
			line := float64(s.HeightA) + float64(s.HeightB-s.HeightA)*float64(g.At)/float64(s.Distance)
			if top := float64(g.Height) + float64(5*(8-n)*g.At*(s.Distance-g.At))/50968; (line >= top) != (room >= 0) {
				otherwise++
			}
			checkResults(t, "SeesAt", a, room >= 0, true)
			clearance := big.NewRat(int64(room), int64(50968*s.Distance))
			checkResults(t, "Clearance", a, clearance.Num(), clearance.Denom(), true)
			if room >= 0 {
				checkResults(t, "BlockedBy", a, []int{}, true)
				checkResults(t, "LeastHeight", a, s.HeightB, true)
				checkResults(t, "LeastRaise", a, 0, true)
			} else {
				checkResults(t, "BlockedBy", a, []int{0}, true)
				checkResults(t, "LeastHeight", a, s.HeightB+1, true)
				checkResults(t, "LeastRaise", a, 1, true)
			}
		})
		if count < 20 || room == 0 && otherwise < 10 {
			t.Errorf("%d sights with the room %d, %d of which rounding would answer otherwise", count, room, otherwise)
		}
	}
}

func TestLeastHeight(t *testing.T) {
	for _, c := range []struct {
		sight impl.Sight
		n     int
		least int
	}{
		{sightOf(200, 20, 20, 100, 13), 0, 22},
		{sightOf(200, 20, 20, 100, 13), 1, 20},
		{sightOf(200, 20, 0, 100, 13), 1, 20},
		{sightOf(200, 20, 3000, 100, 13), 0, 22},
		// No height is needed, and just none.
		{sightOf(200, 3000, 3000, 100, 13), 0, 0},
		{sightOf(300, 300, 9, 277, 18), 0, 0},
		{sightOf(300, 300, 9, 277, 19), 0, 2},
		{sightOf(2, 1, 5, 1, 0), 0, 0},
		{sightOf(2, 0, 5, 1, 0), 0, 1},
		// Just 3000.
		{sightOf(300, 3000, 0, 277, 2995), 0, 3000},
		{sightOf(300, 3000, 3000, 277, 2995), 0, 3000},
		{sightOf(2, 1, 0, 1, 1500), 0, 3000},
		{sightOf(2, 1, 0, 1, 1500), 3, 3000},
		// The farther Ground asks for more, or the nearer one does.
		{sightOf(100, 0, 0, 10, 10, 90, 99), 0, 111},
		{sightOf(100, 0, 0, 10, 10, 90, 9), 0, 108},
	} {
		checkResults(t, "LeastHeight", sightArguments{Sight: c.sight, Refraction: c.n}, c.least, true)
		// It just suffices.
		raised := c.sight
		raised.HeightB = c.least
		checkResults(t, "SeesAt", sightArguments{Sight: raised, Refraction: c.n}, true, true)
		if c.least > 0 {
			raised.HeightB--
			checkResults(t, "SeesAt", sightArguments{Sight: raised, Refraction: c.n}, false, true)
		}
	}
	for _, s := range []impl.Sight{
		sightOf(300, 3000, 3000, 277, 2996), sightOf(2, 0, 0, 1, 1500), sightOf(2, 3000, 3000, 1, 3000), sightOf(999, 0, 3000, 1, 4), sightOf(999, 3000, 3000, 998, 3000), fullSight(21, 0, 3000, 3000),
	} {
		for n := range 4 {
			if leastHeightFor(s, n) > 3000 {
				checkSightRefused(t, sightArguments{Sight: s, Refraction: n}, "LeastHeight")
			} else if n == 0 {
				t.Errorf("the towers of %v can see each other", s)
			}
		}
	}
}

func TestLeastRaise(t *testing.T) {
	for _, c := range []struct {
		sight impl.Sight
		n     int
		least int
	}{
		{sightOf(200, 20, 20, 100, 13), 0, 1},
		{sightOf(200, 20, 20, 100, 13), 1, 0},
		{sightOf(200, 20, 20, 100, 12), 0, 0},
		// A line that just touches needs none.
		{sightOf(300, 15, 15, 277, 10), 0, 0},
		{sightOf(300, 15, 15, 277, 11), 0, 1},
		// Just 3000.
		{sightOf(300, 0, 0, 277, 2995), 0, 3000},
		{sightOf(2, 0, 0, 1, 2999), 0, 3000},
		{sightOf(2, 1, 0, 1, 3000), 3, 3000},
		// One tower comes above 3000, even to nearly 6000.
		{sightOf(2, 3000, 0, 1, 3000), 0, 1501},
		{sightOf(999, 3000, 0, 998, 3000), 0, 2998},
		{sightOf(999, 0, 3000, 1, 3000), 0, 2998},
		{sightOf(999, 3000, 3000, 500, 3000), 0, 196},
		{fullSight(999, 0, 0, 0), 0, 196},
		{fullSight(999, 3000, 3000, 3000), 3, 123},
	} {
		checkResults(t, "LeastRaise", sightArguments{Sight: c.sight, Refraction: c.n}, c.least, true)
		if got := leastRaiseFor(c.sight, c.n); got != c.least {
			t.Errorf("%v needs %d", c.sight, got)
		}
	}
	for _, s := range []impl.Sight{sightOf(300, 0, 0, 277, 2996), sightOf(2, 0, 0, 1, 3000), sightOf(999, 0, 0, 500, 2900), fullSight(999, 2, 2, 3000)} {
		checkSightRefused(t, sightArguments{Sight: s}, "LeastRaise")
	}
}

// TestLeastJustSuffices raises the towers by what is told and by a metre less, as far as a sight may be so high.
func TestLeastJustSuffices(t *testing.T) {
	for _, s := range validSights() {
		for n := range 4 {
			if least, ok := impl.LeastHeight(s, n); ok {
				for height := max(least-1, 0); height <= min(least+1, 3000); height++ {
					raised := s
					raised.HeightB = height
					checkResults(t, "SeesAt", sightArguments{Sight: raised, Refraction: n}, height >= least, true)
				}
			}
			if least, ok := impl.LeastRaise(s, n); ok {
				for raise := max(least-1, 0); raise <= least+1 && max(s.HeightA, s.HeightB)+raise <= 3000; raise++ {
					raised := s
					raised.HeightA, raised.HeightB = s.HeightA+raise, s.HeightB+raise
					checkResults(t, "SeesAt", sightArguments{Sight: raised, Refraction: n}, raise >= least, true)
				}
			}
		}
	}
}

func TestHorizonOf(t *testing.T) {
	for n := range 4 {
		want := 0
		for height := range 3001 {
			// The horizon only goes away as the height grows.
			for want < 999 && 5*(8-n)*(want+1)*(want+1) <= 50968*height {
				want++
			}
			if got, ok := impl.HorizonOf(height, n); got != want || !ok {
				t.Errorf("HorizonOf(%d, %d) = %d, %v, want %d", height, n, got, ok, want)
			}
		}
	}
	for _, c := range []struct{ height, n, want int }{
		{0, 0, 0}, {0, 3, 0}, {1, 0, 35}, {1, 3, 45}, {10, 0, 112}, {783, 0, 998}, {784, 0, 999}, {489, 3, 998}, {490, 3, 999}, {785, 0, 999}, {3000, 0, 999}, {3000, 3, 999},
	} {
		checkResults(t, "HorizonOf", sightArguments{Height: c.height, Refraction: c.n}, c.want, true)
	}
	for _, bad := range beyond(0, 3000) {
		for n := range 4 {
			checkSightRefused(t, sightArguments{Height: bad, Refraction: n}, "HorizonOf")
		}
	}
}

func TestClearance(t *testing.T) {
	for _, c := range []struct {
		sight       impl.Sight
		n           int
		numerator   int
		denominator int
	}{
		// Above 0: 10 - 400000/50968 is 109680/50968.
		{sightOf(200, 20, 20, 100, 10), 0, 13710, 6371},
		// Below 0: 7 - 400000/50968 is -43224/50968.
		{sightOf(200, 20, 20, 100, 13), 0, -5403, 6371},
		{sightOf(200, 20, 20, 100, 13), 3, 13347, 6371},
		// Just 0, also where another Ground has room.
		{sightOf(300, 15, 15, 277, 10), 0, 0, 1},
		{sightOf(300, 15, 15, 23, 10, 277, 9), 0, 0, 1},
		{sightOf(300, 15, 15, 23, 10, 277, 10), 0, 0, 1},
		{sightOf(300, 15, 15, 23, 10, 277, 11), 0, -1, 1},
		{sightOf(300, 15, 15, 277, 0), 0, 10, 1},
		{sightOf(300, 15, 15, 277, 0), 1, 85, 8},
		// The line rises: 1/3 - 80/50968 is 50728/152904.
		{sightOf(3, 0, 1, 1, 0), 0, 6341, 19113},
		// Two Grounds with the same least difference, and the first or the last one with it.
		{sightOf(200, 20, 20, 60, 10, 100, 0, 140, 10), 0, 21710, 6371},
		{sightOf(200, 20, 20, 60, 10, 140, 9), 0, 21710, 6371},
		{sightOf(200, 20, 20, 60, 9, 140, 10), 0, 21710, 6371},
	} {
		checkResults(t, "Clearance", sightArguments{Sight: c.sight, Refraction: c.n}, c.numerator, c.denominator, true)
	}
	for n := range 4 {
		checkSightRefused(t, sightArguments{Sight: sightOf(200, 20, 20), Refraction: n}, "Clearance")
	}
}

func TestReverseSight(t *testing.T) {
	checkResults(t, "ReverseSight", sightArguments{Sight: sightOf(9, 1, 2, 2, 1)}, sightOf(9, 2, 1, 7, 1), true)
	checkResults(t, "ReverseSight", sightArguments{Sight: sightOf(100, 30, 0, 1, 5, 40, 6, 99, 7)}, sightOf(100, 0, 30, 1, 7, 60, 6, 99, 5), true)
	checkResults(t, "ReverseSight", sightArguments{Sight: sightOf(1, 3000, 0)}, sightOf(1, 0, 3000), true)
	for _, s := range validSights() {
		want := impl.Sight{Distance: s.Distance, HeightA: s.HeightB, HeightB: s.HeightA, Grounds: make([]impl.Ground, len(s.Grounds))}
		for i, g := range s.Grounds {
			want.Grounds[len(s.Grounds)-1-i] = impl.Ground{At: s.Distance - g.At, Height: g.Height}
		}
		got, ok := impl.ReverseSight(s)
		if fmt.Sprint(got) != fmt.Sprint(want) || !goodSight(got) || !ok {
			t.Errorf("ReverseSight(%v) = %v, %v, want %v", s, got, ok, want)
		}
		checkResults(t, "ReverseSight", sightArguments{Sight: got}, s, true)
		// Both towers see the same.
		for n := range 4 {
			a, b := sightArguments{Sight: s, Refraction: n}, sightArguments{Sight: got, Refraction: n}
			for _, name := range []string{"SeesAt", "SightBounds", "LeastRaise", "Clearance"} {
				checkResults(t, name, b, sightCalls()[name](a)...)
			}
		}
	}
}

func TestInvalidSights(t *testing.T) {
	for i, s := range invalidSights() {
		for _, n := range []int{0, i % 4, 3} {
			checkSightRefused(t, sightArguments{Sight: s, Refraction: n, Distance: 1, At: 0, Height: 1}, callsWithSight()...)
		}
	}
}

func TestInvalidRefractions(t *testing.T) {
	for _, s := range validSights() {
		for _, bad := range beyond(0, 3) {
			checkSightRefused(t, sightArguments{Sight: s, Refraction: bad, Distance: s.Distance, At: s.Distance / 2, Height: s.HeightA}, callsWithRefraction()...)
		}
	}
}

// manySightArguments returns arguments of many kinds, valid ones and invalid ones.
func manySightArguments() []sightArguments {
	var all []sightArguments
	for i, s := range validSights() {
		all = append(all, sightArguments{Sight: s, Refraction: i % 4, Distance: s.Distance, At: i % (s.Distance + 1), Height: s.HeightB})
	}
	odd := oddInts()
	for i, s := range invalidSights() {
		if len(s.Grounds) < 30 && i%97 == 0 {
			all = append(all, sightArguments{Sight: s, Refraction: i % 4, Distance: odd[i%len(odd)], At: odd[i*7%len(odd)], Height: odd[i*5%len(odd)]})
		}
	}
	return all
}

func TestSightFunctionsArePure(t *testing.T) {
	calls := sightCalls()
	if len(calls) != 10 || len(callsWithSight()) != 8 || len(callsWithRefraction()) != 7 {
		t.Errorf("%d functions, %d of a sight, %d of a refraction", len(calls), len(callsWithSight()), len(callsWithRefraction()))
	}
	checkAllPure(t, calls, manySightArguments(), 20)
}

// TestSightsInOneMemory gives sights whose Grounds lie in the same array.
func TestSightsInOneMemory(t *testing.T) {
	grounds := fullSight(999, 0, 0, 7).Grounds
	before := slices.Clone(grounds)
	var results []impl.Sight
	for i := range 10 {
		s := impl.Sight{Distance: 999, HeightA: i, HeightB: 3 * i, Grounds: grounds[i : 20-i]}
		for n := range 4 {
			checkSight(t, s, n)
		}
		reversed, ok := impl.ReverseSight(s)
		if len(reversed.Grounds) != 20-2*i || !ok {
			t.Errorf("ReverseSight = %v, %v", reversed, ok)
		}
		results = append(results, reversed)
	}
	for _, s := range results {
		whole := s.Grounds[:cap(s.Grounds)]
		for i := range whole {
			whole[i] = impl.Ground{At: -1, Height: -1}
		}
	}
	if !slices.Equal(grounds, before) {
		t.Errorf("the Grounds are %v now", grounds)
	}
}

func TestSightFunctionsAcceptAllArguments(t *testing.T) {
	calls := sightCalls()
	check := func(a sightArguments) { checkAccepted(t, calls, a) }
	check(sightArguments{})
	numbers := append(oddInts(), 0, 1, 2, 3, 4, 20, 21, 998, 999, 1000, 3000, 3001)
	for _, n := range numbers {
		for _, m := range numbers {
			check(sightArguments{Sight: sightOf(n, m, m, n-1, m), Refraction: m, Distance: n, At: m, Height: n})
			check(sightArguments{Sight: sightOf(999, n, m, n, m, m, n), Refraction: 3, Distance: n, At: n, Height: m})
			check(sightArguments{Sight: sightOf(n, 0, 3000, 1, n, n/2, m, m, 0), Refraction: 0, Distance: n, At: n / 2, Height: m})
		}
	}
	for _, a := range manySightArguments() {
		check(a)
	}
}
