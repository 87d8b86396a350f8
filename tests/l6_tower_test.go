package tests

import (
	"fmt"
	"math"
	"regexp"
	"slices"
	"strconv"
	"strings"
	"testing"

	"loop.example/g00940/impl"
)

// someTowers returns so many towers that look mixed; the seed makes them others.
func someTowers(count int, seed int) []impl.Tower {
	places, heights := someWeights(2*count, 1000, seed+count), someWeights(count, 501, seed)
	towers := make([]impl.Tower, count)
	for i := range towers {
		towers[i] = impl.Tower{X: places[2*i], Y: places[2*i+1], Height: heights[i]}
	}
	return towers
}

// linksOf returns links between towers that are given one pair after the other.
func linksOf(ends ...int) []impl.Link {
	var links []impl.Link
	for i := 0; i < len(ends); i += 2 {
		links = append(links, impl.Link{A: ends[i], B: ends[i+1], Delay: 1 + i*13%60})
	}
	return links
}

// netOf returns a net of so many mixed towers, with links between the towers that are given one pair after the other.
func netOf(towers int, ends ...int) impl.Net {
	return impl.Net{Towers: someTowers(towers, 1), Links: linksOf(ends...)}
}

// pairsOf returns all pairs of so many towers in the order of links, one pair after the other.
func pairsOf(towers int) []int {
	var ends []int
	for a := range towers {
		for b := a + 1; b < towers; b++ {
			ends = append(ends, a, b)
		}
	}
	return ends
}

// chainOf returns a net in which each tower has a link to the next one.
func chainOf(towers int) impl.Net {
	var ends []int
	for b := 1; b < towers; b++ {
		ends = append(ends, b-1, b)
	}
	return netOf(towers, ends...)
}

// ringOf returns a chain whose last tower, if there are more than 2, has a link to the first one.
func ringOf(towers int) impl.Net {
	n := chainOf(towers)
	if towers > 2 {
		n.Links = slices.Insert(n.Links, 1, impl.Link{A: 0, B: towers - 1, Delay: 60})
	}
	return n
}

// starOf returns a net in which one tower has a link to each other one.
func starOf(towers int, middle int) impl.Net {
	var ends []int
	for i := range towers {
		if i != middle {
			ends = append(ends, min(i, middle), max(i, middle))
		}
	}
	return netOf(towers, ends...)
}

// fullNets returns nets with MaxLinks links among MaxTowers towers: the first pairs, the last ones, and mixed ones.
func fullNets() []impl.Net {
	ends := pairsOf(16)
	var mixed []int
	for i := 0; i < 40; i++ {
		mixed = append(mixed, ends[6*i], ends[6*i+1])
	}
	return []impl.Net{netOf(16, ends[:80]...), netOf(16, ends[len(ends)-80:]...), netOf(16, mixed...)}
}

// validNets returns nets of many kinds.
func validNets() []impl.Net {
	nets := []impl.Net{
		{Towers: []impl.Tower{{}, {X: 30, Y: 40}, {X: 60}}, Links: []impl.Link{{A: 0, B: 1, Delay: 5}, {A: 1, B: 2, Delay: 5}}},
		{Towers: []impl.Tower{{}}},
		{Towers: []impl.Tower{{X: 999, Y: 999, Height: 500}}, Links: []impl.Link{}},
		{Towers: []impl.Tower{{X: 999}, {Y: 999, Height: 500}}, Links: []impl.Link{{A: 0, B: 1, Delay: 60}}},
		{Towers: []impl.Tower{{X: 5, Y: 5, Height: 5}, {X: 5, Y: 5, Height: 5}}, Links: []impl.Link{{A: 0, B: 1, Delay: 1}}},
		netOf(2), netOf(3), netOf(16),
		netOf(4, 0, 1, 2, 3), netOf(4, 0, 3), netOf(4, 1, 2), netOf(3, 1, 2),
		netOf(6, 0, 1, 0, 2, 1, 2, 3, 4, 3, 5, 4, 5),
		netOf(6, 0, 1, 0, 2, 1, 2, 2, 3, 3, 4, 3, 5, 4, 5),
		netOf(8, 0, 5, 0, 7, 1, 2, 1, 3, 2, 3, 3, 4, 5, 7),
		netOf(9, pairsOf(9)...), netOf(10, pairsOf(10)[10:]...),
		netOf(16, 0, 15), netOf(16, 14, 15), netOf(16, 0, 8, 1, 9, 2, 10, 3, 11, 4, 12, 5, 13, 6, 14, 7, 15),
	}
	for _, towers := range []int{3, 4, 7, 15, 16} {
		nets = append(nets, chainOf(towers), ringOf(towers), starOf(towers, 0), starOf(towers, towers/2), starOf(towers, towers-1))
	}
	return append(nets, fullNets()...)
}

// withTower returns a copy of a net with another tower at a number.
func withTower(n impl.Net, i int, x impl.Tower) impl.Net {
	n.Towers = slices.Clone(n.Towers)
	n.Towers[i] = x
	return n
}

// withLink returns a copy of a net with another link at a number.
func withLink(n impl.Net, i int, x impl.Link) impl.Net {
	n.Links = slices.Clone(n.Links)
	n.Links[i] = x
	return n
}

// withLinks returns a net with other links.
func withLinks(n impl.Net, links ...impl.Link) impl.Net {
	n.Links = links
	return n
}

// invalidNets returns nets that have one fault each.
func invalidNets() []impl.Net {
	nets := []impl.Net{
		{}, {Towers: []impl.Tower{}}, {Links: linksOf(0, 1)}, {Towers: []impl.Tower{}, Links: []impl.Link{{}}},
		netOf(17), netOf(1000), chainOf(17), netOf(100000),
		netOf(16, pairsOf(16)[:82]...), netOf(16, pairsOf(16)...), netOf(10, pairsOf(10)[:82]...), {Towers: make([]impl.Tower, 3), Links: make([]impl.Link, 100000)},
	}
	for _, n := range validNets() {
		for _, i := range []int{0, len(n.Towers) / 2, len(n.Towers) - 1} {
			nets = append(nets, withInvalidTower(n, i)...)
		}
		if len(n.Links) > 0 {
			for _, i := range []int{0, len(n.Links) / 2, len(n.Links) - 1} {
				nets = append(nets, withInvalidLink(n, i)...)
			}
		}
		if last := len(n.Links) - 1; last > 0 {
			for _, i := range []int{0, last / 2, last - 1} {
				turned := withLink(n, i, n.Links[i+1])
				nets = append(nets, withLink(turned, i+1, n.Links[i]))
			}
			// The same two towers again, with another delay too.
			double := n.Links[last/2]
			double.Delay = 61 - double.Delay
			nets = append(nets, withLink(n, last/2+1, n.Links[last/2]), withLink(n, last/2+1, double))
		}
	}
	return nets
}

func withInvalidTower(n impl.Net, i int) []impl.Net {
	var nets []impl.Net
	x := n.Towers[i]
	for _, bad := range beyond(0, 999) {
		nets = append(nets, withTower(n, i, impl.Tower{X: bad, Y: x.Y, Height: x.Height}), withTower(n, i, impl.Tower{X: x.X, Y: bad, Height: x.Height}))
	}
	for _, bad := range beyond(0, 500) {
		nets = append(nets, withTower(n, i, impl.Tower{X: x.X, Y: x.Y, Height: bad}))
	}
	return nets
}

func withInvalidLink(n impl.Net, i int) []impl.Net {
	var nets []impl.Net
	x := n.Links[i]
	for _, bad := range beyond(1, 60) {
		nets = append(nets, withLink(n, i, impl.Link{A: x.A, B: x.B, Delay: bad}))
	}
	for _, bad := range beyond(0, len(n.Towers)-1) {
		nets = append(nets, withLink(n, i, impl.Link{A: bad, B: x.B, Delay: x.Delay}), withLink(n, i, impl.Link{A: x.A, B: bad, Delay: x.Delay}))
	}
	// Both ends at one tower, and in the other order.
	return append(nets, withLink(n, i, impl.Link{A: x.A, B: x.A, Delay: x.Delay}), withLink(n, i, impl.Link{A: x.B, B: x.B, Delay: x.Delay}), withLink(n, i, impl.Link{A: x.B, B: x.A, Delay: x.Delay}))
}

// goodNet tells by the words of chapter 6 whether a net is valid, without the program.
func goodNet(n impl.Net) bool {
	if len(n.Towers) == 0 || len(n.Towers) > 16 || len(n.Links) > 40 {
		return false
	}
	for _, x := range n.Towers {
		if x.X < 0 || x.Y < 0 || x.Height < 0 || x.X > 999 || x.Y > 999 || x.Height > 500 {
			return false
		}
	}
	before := -1
	for _, x := range n.Links {
		if x.A < 0 || x.B >= len(n.Towers) || x.A >= x.B || x.Delay < 1 || x.Delay > 60 || 16*x.A+x.B <= before {
			return false
		}
		before = 16*x.A + x.B
	}
	return true
}

// textOfNet returns the NetText of a net, without the program.
func textOfNet(n impl.Net) string {
	var text strings.Builder
	for _, x := range n.Towers {
		fmt.Fprintf(&text, "tower %d %d %d\n", x.X, x.Y, x.Height)
	}
	for _, x := range n.Links {
		fmt.Fprintf(&text, "link %d %d %d\n", x.A, x.B, x.Delay)
	}
	return text.String()
}

// reachTable tells for each two towers whether one can be reached from the other one, without a link if its number is not -1.
func reachTable(n impl.Net, without int) [16][16]bool {
	var table [16][16]bool
	for i := range n.Towers {
		table[i][i] = true
	}
	for i, x := range n.Links {
		if i != without {
			table[x.A][x.B], table[x.B][x.A] = true, true
		}
	}
	for k := range n.Towers {
		for i := range n.Towers {
			for j := range n.Towers {
				table[i][j] = table[i][j] || table[i][k] && table[k][j]
			}
		}
	}
	return table
}

// smallNets calls f with every net of at most so many mixed towers, with all subsets of links.
func smallNets(most int, f func(n impl.Net)) {
	for towers := 1; towers <= most; towers++ {
		ends := pairsOf(towers)
		for mask := range 1 << (len(ends) / 2) {
			var chosen []int
			for i := range len(ends) / 2 {
				if mask>>i&1 == 1 {
					chosen = append(chosen, ends[2*i], ends[2*i+1])
				}
			}
			f(netOf(towers, chosen...))
		}
	}
}

// netArguments are what the functions of chapter 6 get, so that checkPure sees all of it.
type netArguments struct {
	Net  impl.Net
	A    int
	B    int
	Link impl.Link
	Text string
}

// netCalls calls all functions of chapter 6.
func netCalls() map[string]func(a netArguments) []any {
	return map[string]func(a netArguments) []any{
		"IsNet":         func(a netArguments) []any { return []any{impl.IsNet(a.Net)} },
		"LinkBetween":   func(a netArguments) []any { i, ok := impl.LinkBetween(a.Net, a.A, a.B); return []any{i, ok} },
		"NeighboursOf":  func(a netArguments) []any { l, ok := impl.NeighboursOf(a.Net, a.A); return []any{l, ok} },
		"ReachFrom":     func(a netArguments) []any { l, ok := impl.ReachFrom(a.Net, a.A); return []any{l, ok} },
		"IsJoined":      func(a netArguments) []any { is, ok := impl.IsJoined(a.Net); return []any{is, ok} },
		"SquareBetween": func(a netArguments) []any { n, ok := impl.SquareBetween(a.Net, a.A, a.B); return []any{n, ok} },
		"LongestLink":   func(a netArguments) []any { i, ok := impl.LongestLink(a.Net); return []any{i, ok} },
		"BridgesOf":     func(a netArguments) []any { l, ok := impl.BridgesOf(a.Net); return []any{l, ok} },
		"AddLink":       func(a netArguments) []any { n, ok := impl.AddLink(a.Net, a.Link); return []any{n, ok} },
		"DropTower":     func(a netArguments) []any { n, ok := impl.DropTower(a.Net, a.A); return []any{n, ok} },
		"NetText":       func(a netArguments) []any { s, ok := impl.NetText(a.Net); return []any{s, ok} },
		"ParseNet":      func(a netArguments) []any { n, ok := impl.ParseNet(a.Text); return []any{n, ok} },
	}
}

// callsWithNet names the functions of chapter 6 that get a net.
func callsWithNet() []string {
	return []string{"IsNet", "LinkBetween", "NeighboursOf", "ReachFrom", "IsJoined", "SquareBetween", "LongestLink", "BridgesOf", "AddLink", "DropTower", "NetText"}
}

// checkNetRefused fails if one of the named functions gives any result that is not a zero one.
func checkNetRefused(t *testing.T, a netArguments, names ...string) {
	t.Helper()
	checkAllRefused(t, netCalls(), a, names...)
}

func TestTowerExample(t *testing.T) {
	if impl.MaxTowers != 16 || impl.MaxLinks != 40 {
		t.Errorf("MaxTowers = %d, MaxLinks = %d", impl.MaxTowers, impl.MaxLinks)
	}
	n := impl.Net{Towers: []impl.Tower{{}, {X: 30, Y: 40}, {X: 60}}, Links: []impl.Link{{A: 0, B: 1, Delay: 5}, {A: 1, B: 2, Delay: 5}}}
	if !impl.IsNet(n) {
		t.Error("the example is no net")
	}
	if l, ok := impl.BridgesOf(n); !slices.Equal(l, []int{0, 1}) || !ok {
		t.Errorf("BridgesOf = %v, %v", l, ok)
	}
	ring, ok := impl.AddLink(n, impl.Link{A: 0, B: 2, Delay: 9})
	if textOfNet(ring) != "tower 0 0 0\ntower 30 40 0\ntower 60 0 0\nlink 0 1 5\nlink 0 2 9\nlink 1 2 5\n" || !ok {
		t.Errorf("AddLink = %v, %v", ring, ok)
	}
	if l, ok := impl.BridgesOf(ring); len(l) != 0 || !ok {
		t.Errorf("BridgesOf the ring = %v, %v", l, ok)
	}
	if s, ok := impl.SquareBetween(n, 0, 1); s != 2500 || !ok {
		t.Errorf("SquareBetween = %d, %v", s, ok)
	}
}

func TestIsNet(t *testing.T) {
	for _, n := range validNets() {
		if !goodNet(n) || !impl.IsNet(n) {
			t.Errorf("IsNet(%q) = %v, want true", textOfNet(n), impl.IsNet(n))
		}
	}
	for _, n := range invalidNets() {
		if goodNet(n) || impl.IsNet(n) {
			t.Errorf("IsNet(%.400q) = %v, want false", textOfNet(n), impl.IsNet(n))
		}
	}
	for towers := range 20 {
		if n := netOf(towers); impl.IsNet(n) != (towers >= 1 && towers <= 16) {
			t.Errorf("IsNet of %d towers = %v", towers, impl.IsNet(n))
		}
	}
	for links := range 44 {
		if n := netOf(16, pairsOf(16)[:2*links]...); impl.IsNet(n) != (links <= 40) {
			t.Errorf("IsNet of %d links = %v", links, impl.IsNet(n))
		}
	}
}

func TestIsNetByNumbers(t *testing.T) {
	check := func(n impl.Net) {
		if got, want := impl.IsNet(n), goodNet(n); got != want {
			t.Errorf("IsNet(%q) = %v, want %v", textOfNet(n), got, want)
		}
	}
	for x := -3; x < 1003; x++ {
		check(impl.Net{Towers: []impl.Tower{{X: x}}})
		check(impl.Net{Towers: []impl.Tower{{Y: x}}})
		check(impl.Net{Towers: []impl.Tower{{Height: x}}})
		check(impl.Net{Towers: make([]impl.Tower, 2), Links: []impl.Link{{A: 0, B: 1, Delay: x}}})
	}
	// All pairs of links between towers that are there or not.
	for i := range 6 * 6 * 6 * 6 {
		a, b, c, d := i%6-1, i/6%6-1, i/36%6-1, i/216-1
		for towers := 1; towers <= 4; towers++ {
			check(netOf(towers, a, b, c, d))
			check(netOf(towers, a, b))
		}
	}
}

// checkNeighbours compares LinkBetween and NeighboursOf for all towers of a net with its links.
func checkNeighbours(t *testing.T, n impl.Net) {
	t.Helper()
	for a := range n.Towers {
		var want []int
		for b := range n.Towers {
			link := slices.IndexFunc(n.Links, func(x impl.Link) bool { return x.A == a && x.B == b || x.A == b && x.B == a })
			if link >= 0 {
				want = append(want, b)
			}
			if got, ok := impl.LinkBetween(n, a, b); got != max(link, 0) || ok != (link >= 0) {
				t.Errorf("LinkBetween(%q, %d, %d) = %d, %v, want %d", textOfNet(n), a, b, got, ok, link)
			}
		}
		got, ok := impl.NeighboursOf(n, a)
		if !slices.Equal(got, want) || !ok {
			t.Errorf("NeighboursOf(%q, %d) = %v, %v, want %v", textOfNet(n), a, got, ok, want)
		}
		for _, b := range got {
			if l, _ := impl.NeighboursOf(n, b); !slices.Contains(l, a) {
				t.Errorf("in %q %d is a neighbour of %d, but has the neighbours %v", textOfNet(n), b, a, l)
			}
		}
	}
}

func TestNeighbours(t *testing.T) {
	for _, n := range validNets() {
		checkNeighbours(t, n)
	}
	smallNets(5, func(n impl.Net) { checkNeighbours(t, n) })
}

func TestNeighboursByNets(t *testing.T) {
	n := netOf(6, 0, 3, 1, 3, 2, 3, 3, 4)
	for _, c := range []struct{ a, b, link int }{{0, 3, 0}, {3, 0, 0}, {1, 3, 1}, {3, 1, 1}, {2, 3, 2}, {3, 2, 2}, {3, 4, 3}, {4, 3, 3}} {
		if link, ok := impl.LinkBetween(n, c.a, c.b); link != c.link || !ok {
			t.Errorf("LinkBetween(%d, %d) = %d, %v, want %d", c.a, c.b, link, ok, c.link)
		}
	}
	// No link between two towers, and one tower given twice.
	for _, c := range [][2]int{{0, 1}, {1, 0}, {0, 4}, {4, 0}, {0, 5}, {5, 0}, {3, 5}, {4, 5}, {0, 0}, {3, 3}, {5, 5}} {
		checkNetRefused(t, netArguments{Net: n, A: c[0], B: c[1]}, "LinkBetween")
	}
	for i, want := range [][]int{{3}, {3}, {3}, {0, 1, 2, 4}, {3}, {}} {
		if l, ok := impl.NeighboursOf(n, i); !slices.Equal(l, want) || !ok {
			t.Errorf("NeighboursOf(%d) = %v, %v, want %v", i, l, ok, want)
		}
	}
	lone := netOf(1)
	checkNetRefused(t, netArguments{Net: lone}, "LinkBetween")
	if l, ok := impl.NeighboursOf(lone, 0); len(l) != 0 || !ok {
		t.Errorf("NeighboursOf of the only tower = %v, %v", l, ok)
	}
}

// checkReach compares ReachFrom, IsJoined and BridgesOf with the table of what can be reached.
func checkReach(t *testing.T, n impl.Net) {
	t.Helper()
	table := reachTable(n, -1)
	joined := true
	for i := range n.Towers {
		var want []int
		for j := range n.Towers {
			if table[i][j] {
				want = append(want, j)
			}
		}
		if got, ok := impl.ReachFrom(n, i); !slices.Equal(got, want) || !ok {
			t.Errorf("ReachFrom(%q, %d) = %v, %v, want %v", textOfNet(n), i, got, ok, want)
		}
		joined = joined && table[0][i]
	}
	if got, ok := impl.IsJoined(n); got != joined || !ok {
		t.Errorf("IsJoined(%q) = %v, %v, want %v", textOfNet(n), got, ok, joined)
	}
	var bridges []int
	for i := range n.Links {
		if reachTable(n, i) != table {
			bridges = append(bridges, i)
		}
	}
	if got, ok := impl.BridgesOf(n); !slices.Equal(got, bridges) || !ok {
		t.Errorf("BridgesOf(%q) = %v, %v, want %v", textOfNet(n), got, ok, bridges)
	}
}

func TestReach(t *testing.T) {
	for _, n := range validNets() {
		checkReach(t, n)
	}
	smallNets(5, func(n impl.Net) { checkReach(t, n) })
	// Ways that lead up and down through the numbers.
	for seed := range 200 {
		towers := 6 + seed%11
		ends := pairsOf(towers)
		var chosen []int
		for i, w := range someWeights(len(ends)/2, towers, seed) {
			if w < 1+seed%3 && len(chosen) < 80 {
				chosen = append(chosen, ends[2*i], ends[2*i+1])
			}
		}
		checkReach(t, netOf(towers, chosen...))
	}
}

func TestReachByNets(t *testing.T) {
	for _, c := range []struct {
		net    impl.Net
		reach  string
		joined bool
	}{
		{netOf(1), "[[0]]", true},
		{netOf(2), "[[0] [1]]", false},
		{netOf(2, 0, 1), "[[0 1] [0 1]]", true},
		{netOf(4, 0, 2, 1, 3), "[[0 2] [1 3] [0 2] [1 3]]", false},
		{netOf(4, 1, 2, 1, 3, 2, 3), "[[0] [1 2 3] [1 2 3] [1 2 3]]", false},
		{netOf(4, 0, 3, 1, 2, 1, 3), "[[0 1 2 3] [0 1 2 3] [0 1 2 3] [0 1 2 3]]", true},
		{netOf(5, 0, 4), "[[0 4] [1] [2] [3] [0 4]]", false},
	} {
		var reach [][]int
		for i := range c.net.Towers {
			l, _ := impl.ReachFrom(c.net, i)
			reach = append(reach, l)
		}
		if fmt.Sprint(reach) != c.reach {
			t.Errorf("ReachFrom(%q) = %v, want %s", textOfNet(c.net), reach, c.reach)
		}
		if joined, ok := impl.IsJoined(c.net); joined != c.joined || !ok {
			t.Errorf("IsJoined(%q) = %v, %v", textOfNet(c.net), joined, ok)
		}
	}
}

func TestBridges(t *testing.T) {
	all := make([]int, 15)
	for i := range all {
		all[i] = i
	}
	for _, c := range []struct {
		net     impl.Net
		bridges []int
	}{
		{netOf(1), nil},
		{netOf(16), nil},
		{netOf(2, 0, 1), []int{0}},
		{chainOf(16), all},
		{starOf(16, 0), all},
		{starOf(16, 7), all},
		{ringOf(3), nil},
		{ringOf(16), nil},
		{netOf(9, pairsOf(9)...), nil},
		// Two rings apart, with a bridge between them, and with a ring of their own between them.
		{netOf(6, 0, 1, 0, 2, 1, 2, 3, 4, 3, 5, 4, 5), nil},
		{netOf(6, 0, 1, 0, 2, 1, 2, 2, 3, 3, 4, 3, 5, 4, 5), []int{3}},
		{netOf(6, 0, 1, 0, 2, 1, 2, 1, 4, 2, 3, 3, 4, 3, 5, 4, 5), nil},
		// Parts with bridges in some: one lone tower, a ring, and a ring with a chain at it.
		{netOf(10, 1, 2, 1, 3, 2, 3, 4, 5, 4, 6, 5, 6, 6, 7, 7, 8), []int{6, 7}},
		{netOf(7, 0, 6, 1, 2, 1, 3, 2, 3, 4, 5), []int{0, 4}},
		{netOf(5, 0, 1, 1, 2, 1, 4, 2, 3, 3, 4), []int{0}},
	} {
		if l, ok := impl.BridgesOf(c.net); !slices.Equal(l, c.bridges) || !ok {
			t.Errorf("BridgesOf(%q) = %v, %v, want %v", textOfNet(c.net), l, ok, c.bridges)
		}
	}
}

func TestSquareBetween(t *testing.T) {
	for _, n := range validNets() {
		for a, x := range n.Towers {
			for b, y := range n.Towers {
				want := int(math.Pow(float64(x.X-y.X), 2) + math.Pow(float64(x.Y-y.Y), 2))
				if got, ok := impl.SquareBetween(n, a, b); got != want || !ok {
					t.Errorf("SquareBetween(%q, %d, %d) = %d, %v, want %d", textOfNet(n), a, b, got, ok, want)
				}
			}
		}
	}
	n := impl.Net{Towers: []impl.Tower{{Height: 500}, {X: 30, Y: 40}, {X: 999, Y: 999, Height: 7}, {X: 30, Y: 40, Height: 400}, {X: 999}, {Y: 999}}}
	for _, c := range []struct{ a, b, square int }{
		{0, 1, 2500}, {0, 2, 1996002}, {1, 3, 0}, {2, 3, 969*969 + 959*959}, {4, 5, 1996002}, {2, 4, 998001}, {2, 5, 998001}, {0, 4, 998001}, {0, 5, 998001}, {2, 2, 0}, {0, 0, 0},
	} {
		for _, ends := range [][2]int{{c.a, c.b}, {c.b, c.a}} {
			if s, ok := impl.SquareBetween(n, ends[0], ends[1]); s != c.square || !ok {
				t.Errorf("SquareBetween(%d, %d) = %d, %v, want %d", ends[0], ends[1], s, ok, c.square)
			}
		}
	}
	if s, ok := impl.SquareBetween(netOf(1), 0, 0); s != 0 || !ok {
		t.Errorf("SquareBetween the only tower and itself = %d, %v", s, ok)
	}
}

func TestLongestLink(t *testing.T) {
	check := func(n impl.Net) {
		if len(n.Links) == 0 {
			checkNetRefused(t, netArguments{Net: n}, "LongestLink")
			return
		}
		longest, square := 0, -1
		for i := len(n.Links) - 1; i >= 0; i-- {
			x, y := n.Towers[n.Links[i].A], n.Towers[n.Links[i].B]
			if s := (x.X-y.X)*(x.X-y.X) + (x.Y-y.Y)*(x.Y-y.Y); s >= square {
				longest, square = i, s
			}
		}
		if got, ok := impl.LongestLink(n); got != longest || !ok {
			t.Errorf("LongestLink(%q) = %d, %v, want %d", textOfNet(n), got, ok, longest)
		}
	}
	for _, n := range validNets() {
		check(n)
	}
	// Towers at few places make many ties, and links between towers at the same place.
	smallNets(5, func(n impl.Net) {
		check(n)
		for i, w := range someWeights(len(n.Towers), 9, len(n.Links)) {
			n.Towers[i] = impl.Tower{X: w % 3, Y: w / 3, Height: 500 - 100*i}
		}
		check(n)
	})
}

func TestLongestLinkByNets(t *testing.T) {
	towers := []impl.Tower{{X: 10, Y: 10}, {X: 13, Y: 14}, {X: 10, Y: 15, Height: 500}, {X: 10, Y: 10, Height: 100}, {X: 14, Y: 14}}
	for _, c := range []struct {
		ends    []int
		longest int
	}{
		{[]int{0, 3}, 0},
		// Ties of the square 25.
		{[]int{0, 1, 0, 2}, 0},
		{[]int{0, 3, 1, 3, 2, 3}, 1},
		{[]int{0, 1, 0, 4, 3, 4}, 1},
		{[]int{0, 1, 1, 3, 3, 4}, 2},
		// The squares are 25 and 32, and the greater differences 5 and 4.
		{[]int{0, 2, 0, 4}, 1},
		{[]int{0, 2, 2, 4}, 0},
	} {
		if got, ok := impl.LongestLink(impl.Net{Towers: towers, Links: linksOf(c.ends...)}); got != c.longest || !ok {
			t.Errorf("LongestLink(%v) = %d, %v, want %d", c.ends, got, ok, c.longest)
		}
	}
	// Squares of 0 and of 1 alone.
	near := impl.Net{Towers: []impl.Tower{{}, {}, {Y: 1}}, Links: linksOf(0, 1, 1, 2)}
	if got, ok := impl.LongestLink(near); got != 1 || !ok {
		t.Errorf("LongestLink = %d, %v", got, ok)
	}
	// Delays and heights do not make a link longer.
	n := impl.Net{Towers: []impl.Tower{{}, {X: 1, Height: 500}, {Y: 2}}, Links: []impl.Link{{A: 0, B: 1, Delay: 60}, {A: 0, B: 2, Delay: 1}}}
	if got, ok := impl.LongestLink(n); got != 1 || !ok {
		t.Errorf("LongestLink = %d, %v", got, ok)
	}
}

// checkAddedLink compares AddLink with the valid net that has the links of a net and a further one, if there is one.
func checkAddedLink(t *testing.T, n impl.Net, x impl.Link) {
	t.Helper()
	want := withLinks(n, append(slices.Clone(n.Links), x)...)
	slices.SortStableFunc(want.Links, func(x impl.Link, y impl.Link) int {
		return strings.Compare(fmt.Sprintf("%03d %03d", x.A, x.B), fmt.Sprintf("%03d %03d", y.A, y.B))
	})
	if !goodNet(want) {
		checkNetRefused(t, netArguments{Net: n, Link: x}, "AddLink")
		return
	}
	if got, ok := impl.AddLink(n, x); textOfNet(got) != textOfNet(want) || !ok {
		t.Errorf("AddLink(%q, %v) = %q, %v, want %q", textOfNet(n), x, textOfNet(got), ok, textOfNet(want))
	}
}

func TestAddLink(t *testing.T) {
	for _, n := range validNets() {
		for a := -1; a <= len(n.Towers); a++ {
			for b := -1; b <= len(n.Towers); b++ {
				checkAddedLink(t, n, impl.Link{A: a, B: b, Delay: 60 - (a + b + 2)})
			}
		}
		for _, delay := range append(beyond(1, 60), 1, 60) {
			checkAddedLink(t, n, impl.Link{A: 0, B: len(n.Towers) - 1, Delay: delay})
		}
	}
	smallNets(4, func(n impl.Net) {
		for _, x := range linksOf(pairsOf(5)...) {
			checkAddedLink(t, n, x)
		}
	})
}

func TestAddLinkByNets(t *testing.T) {
	n := netOf(4, 0, 2, 1, 2, 1, 3)
	for _, c := range []struct {
		link  impl.Link
		place int
	}{
		{impl.Link{A: 0, B: 1, Delay: 7}, 0},
		{impl.Link{A: 0, B: 3, Delay: 1}, 1},
		{impl.Link{A: 2, B: 3, Delay: 60}, 3},
	} {
		want := withLinks(n, slices.Insert(slices.Clone(n.Links), c.place, c.link)...)
		if got, ok := impl.AddLink(n, c.link); textOfNet(got) != textOfNet(want) || !ok {
			t.Errorf("AddLink(%v) = %q, %v, want %q", c.link, textOfNet(got), ok, textOfNet(want))
		}
	}
	for _, x := range n.Links {
		// The link is there already, with the same delay and with others.
		for _, delay := range []int{x.Delay, 61 - x.Delay, 1, 60} {
			checkNetRefused(t, netArguments{Net: n, Link: impl.Link{A: x.A, B: x.B, Delay: delay}}, "AddLink")
		}
	}
	for _, x := range []impl.Link{{A: 1, B: 0, Delay: 7}, {A: 0, B: 0, Delay: 7}, {A: 0, B: 4, Delay: 7}, {A: -1, B: 0, Delay: 7}, {A: 0, B: 1, Delay: 0}, {A: 0, B: 1, Delay: 61}, {}} {
		checkNetRefused(t, netArguments{Net: n, Link: x}, "AddLink")
	}
	// One link more is none too many, but the next one is.
	ends := pairsOf(16)
	most, ok := impl.AddLink(netOf(16, ends[:78]...), impl.Link{A: 14, B: 15, Delay: 60})
	if len(most.Links) != 40 || !impl.IsNet(most) || !ok {
		t.Errorf("AddLink gives %d links, %v", len(most.Links), ok)
	}
	checkNetRefused(t, netArguments{Net: most, Link: impl.Link{A: 13, B: 15, Delay: 60}}, "AddLink")
	checkNetRefused(t, netArguments{Net: netOf(1), Link: impl.Link{A: 0, B: 1, Delay: 1}}, "AddLink")
}

// withoutTower returns the net without a tower by giving the other towers names first, without the program.
func withoutTower(n impl.Net, i int) impl.Net {
	var left impl.Net
	numbers := map[int]int{}
	for k, x := range n.Towers {
		if k != i {
			numbers[k] = len(left.Towers)
			left.Towers = append(left.Towers, x)
		}
	}
	for _, x := range n.Links {
		a, hasA := numbers[x.A]
		b, hasB := numbers[x.B]
		if hasA && hasB {
			left.Links = append(left.Links, impl.Link{A: a, B: b, Delay: x.Delay})
		}
	}
	return left
}

func TestDropTower(t *testing.T) {
	check := func(n impl.Net) {
		if len(n.Towers) == 1 {
			checkNetRefused(t, netArguments{Net: n}, "DropTower")
			return
		}
		for i := range n.Towers {
			want := withoutTower(n, i)
			if got, ok := impl.DropTower(n, i); textOfNet(got) != textOfNet(want) || !goodNet(got) || !ok {
				t.Errorf("DropTower(%q, %d) = %q, %v, want %q", textOfNet(n), i, textOfNet(got), ok, textOfNet(want))
			}
		}
	}
	for _, n := range validNets() {
		check(n)
	}
	smallNets(5, check)
}

func TestDropTowerByNets(t *testing.T) {
	n := impl.Net{
		Towers: []impl.Tower{{X: 1}, {X: 2, Height: 20}, {X: 3, Y: 30}},
		Links:  []impl.Link{{A: 0, B: 1, Delay: 11}, {A: 0, B: 2, Delay: 12}, {A: 1, B: 2, Delay: 13}},
	}
	for i, want := range []string{
		"tower 2 0 20\ntower 3 30 0\nlink 0 1 13\n",
		"tower 1 0 0\ntower 3 30 0\nlink 0 1 12\n",
		"tower 1 0 0\ntower 2 0 20\nlink 0 1 11\n",
	} {
		if got, ok := impl.DropTower(n, i); textOfNet(got) != want || !ok {
			t.Errorf("DropTower(%d) = %q, %v, want %q", i, textOfNet(got), ok, want)
		}
	}
	for _, lone := range []impl.Net{netOf(1), {Towers: []impl.Tower{{}}}} {
		checkNetRefused(t, netArguments{Net: lone, A: 0}, "DropTower")
	}
	// One tower after the other, until only one is left.
	left := ringOf(16)
	for len(left.Towers) > 1 {
		before := left
		var ok bool
		if left, ok = impl.DropTower(before, len(before.Towers)/2); textOfNet(left) != textOfNet(withoutTower(before, len(before.Towers)/2)) || !ok {
			t.Fatalf("DropTower(%q) = %q, %v", textOfNet(before), textOfNet(left), ok)
		}
	}
	if textOfNet(left) != textOfNet(impl.Net{Towers: ringOf(16).Towers[:1]}) {
		t.Errorf("the last tower is %q", textOfNet(left))
	}
}

var netTextForm = regexp.MustCompile(`\A(tower( (0|[1-9][0-9]{0,2})){3}\n)*(link( (0|[1-9][0-9]?)){3}\n)*\z`)
var netLineForm = regexp.MustCompile(`(tower|link) ([0-9]+) ([0-9]+) ([0-9]+)\n`)

// parsedNet reads a NetText, without the program.
func parsedNet(s string) (impl.Net, bool) {
	if !netTextForm.MatchString(s) {
		return impl.Net{}, false
	}
	var n impl.Net
	for _, words := range netLineForm.FindAllStringSubmatch(s, -1) {
		var numbers [3]int
		for i := range numbers {
			numbers[i], _ = strconv.Atoi(words[i+2])
		}
		if words[1] == "tower" {
			n.Towers = append(n.Towers, impl.Tower{X: numbers[0], Y: numbers[1], Height: numbers[2]})
		} else {
			n.Links = append(n.Links, impl.Link{A: numbers[0], B: numbers[1], Delay: numbers[2]})
		}
	}
	if !goodNet(n) {
		return impl.Net{}, false
	}
	return n, true
}

// checkParsedNet compares ParseNet with parsedNet.
func checkParsedNet(t *testing.T, s string) {
	t.Helper()
	want, found := parsedNet(s)
	if !found {
		checkNetRefused(t, netArguments{Text: s}, "ParseNet")
		return
	}
	if got, ok := impl.ParseNet(s); textOfNet(got) != textOfNet(want) || !ok {
		t.Errorf("ParseNet(%q) = %v, %v, want %v", s, got, ok, want)
	}
}

func TestNetTextsAreReadBack(t *testing.T) {
	check := func(n impl.Net) {
		t.Helper()
		text, ok := impl.NetText(n)
		if text != textOfNet(n) || !ok {
			t.Errorf("NetText(%v) = %q, %v", n, text, ok)
		}
		read, ok := impl.ParseNet(text)
		if !slices.Equal(read.Towers, n.Towers) || !slices.Equal(read.Links, n.Links) || !ok {
			t.Errorf("ParseNet(%q) = %v, %v", text, read, ok)
		}
	}
	for _, n := range validNets() {
		check(n)
	}
	smallNets(4, check)
	for x := range 1000 {
		check(impl.Net{Towers: []impl.Tower{{X: x, Y: 999 - x, Height: x / 2}, {Y: x}}, Links: []impl.Link{{A: 0, B: 1, Delay: 1 + x%60}}})
	}
	n := impl.Net{Towers: []impl.Tower{{X: 999, Y: 10, Height: 500}, {}}, Links: []impl.Link{{A: 0, B: 1, Delay: 60}}}
	if text, ok := impl.NetText(n); text != "tower 999 10 500\ntower 0 0 0\nlink 0 1 60\n" || !ok {
		t.Errorf("NetText = %q, %v", text, ok)
	}
}

func TestParseNetOfChangedTexts(t *testing.T) {
	pieces := []string{"0", "1", "9", "-", "+", " ", "\n", "\r", "\t", "\x00", "\xff", "a", "\u00a0", "\u0661", "tower 1 2 3\n", "link 0 1 5\n", " 1", "tower ", "link "}
	for _, n := range []impl.Net{validNets()[0], netOf(1), netOf(2), netOf(2, 0, 1), chainOf(4), ringOf(16), fullNets()[2]} {
		text := textOfNet(n)
		for i := range min(len(text), 150) {
			checkParsedNet(t, text[:i])
			checkParsedNet(t, text[i:])
			checkParsedNet(t, text[:i]+text[i+1:])
			for _, piece := range pieces {
				checkParsedNet(t, text[:i]+piece+text[i:])
				checkParsedNet(t, text[:i]+piece+text[i+1:])
			}
		}
		for _, piece := range pieces {
			checkParsedNet(t, text+piece)
		}
	}
	// All texts of these lines, in all orders.
	lines := []string{"tower 1 2 3\n", "tower 1 2 3 4\n", "tower 0 0 0\n", "link 0 1 5\n", "link 0 2 5\n", "link 1 2 5\n", "\n"}
	for i := range 7 * 7 * 7 * 7 * 7 {
		text := ""
		for k := i; k > 0; k /= 7 {
			text += lines[k%7]
		}
		checkParsedNet(t, text)
	}
}

func TestParseNetInvalid(t *testing.T) {
	texts := []string{
		"", "\n", " ", "\x00", "tower", "tower\n", "tower \n", "link\n", "tower 1 2 3", "tower 1 2\n", "tower 1\n", "tower 1 2 3 4\n", "tower 1 2 3 \n", " tower 1 2 3\n", "tower  1 2 3\n", "tower 1  2 3\n", "tower 1 2  3\n",
		"tower 01 2 3\n", "tower 1 02 3\n", "tower 1 2 03\n", "tower 00 0 0\n", "tower +1 2 3\n", "tower 1 +2 3\n", "tower 1 2 +3\n", "tower -1 2 3\n", "tower 1 -2 3\n", "tower 1 2 -3\n", "tower -0 2 3\n", "tower 1 2 -0\n",
		"tower 1 2 3\n\n", "\ntower 1 2 3\n", "tower 1 2 3\n\ntower 1 2 3\n", "tower 1 2 3\r\n", "tower 1 2 3\n\r\n", "tower\t1\t2\t3\n", "tower 1 2 3\n ", "tower 1 2 3\x00\n", "\ufefftower 1 2 3\n", "tower 1 2 3\n\x00",
		"Tower 1 2 3\n", "TOWER 1 2 3\n", "towers 1 2 3\n", "tow 1 2 3\n", "1 2 3\n", "tower1 2 3\n", "tower 1 2 x\n", "tower 1.0 2 3\n", "tower 0x1 2 3\n", "tower 1_0 2 3\n", "tower 1e1 2 3\n", "tower 1,2,3\n", "tower \u0661 2 3\n",
		"tower 1000 2 3\n", "tower 1 1000 3\n", "tower 1 2 501\n", "tower 18446744073709551617 2 3\n", "tower 9223372036854775808 2 3\n", "tower 4294967297 2 3\n", "tower 1 2 " + strings.Repeat("9", 1000) + "\n", "tower " + strings.Repeat("0", 1000) + "1 2 3\n",
		"link 0 1 5\n", "link 0 1 5\ntower 1 2 3\ntower 1 2 3\n", textOfNet(netOf(17)), strings.Repeat("tower 1 2 3\n", 100000), strings.Repeat("\n", 100000), strings.Repeat(" ", 100000), strings.Repeat("tower ", 100000),
		"tower " + strings.Repeat("1 ", 100000) + "\n", textOfNet(netOf(16, pairsOf(16)[:82]...)), textOfNet(netOf(16)) + strings.Repeat("link 0 1 5\n", 100000),
	}
	towers := textOfNet(netOf(3))
	for _, links := range []string{
		"link 0 1 5", "link 0 1\n", "link 0 1 5 6\n", "link 0 1 5 \n", "link  0 1 5\n", " link 0 1 5\n", "link 00 1 5\n", "link 0 01 5\n", "link 0 1 05\n", "link +0 1 5\n", "link 0 +1 5\n", "link 0 1 +5\n", "link -0 1 5\n", "link 0 1 -5\n", "link -1 1 5\n",
		"link 0 1 5\n\n", "\nlink 0 1 5\n", "link 0 1 5\n\nlink 0 2 5\n", "Link 0 1 5\n", "links 0 1 5\n", "link 0 1 0\n", "link 0 1 61\n", "link 0 3 5\n", "link 3 4 5\n", "link 0 0 5\n", "link 1 0 5\n", "link 2 1 5\n",
		"link 0 2 5\nlink 0 1 5\n", "link 1 2 5\nlink 0 1 5\n", "link 0 1 5\nlink 0 1 5\n", "link 0 1 5\nlink 0 1 6\n", "link 0 1 5\ntower 1 2 3\n", "link 0 1 5\ntower 1 2 3\nlink 0 2 5\n", "link 0 18446744073709551617 5\n",
	} {
		texts = append(texts, towers+links)
	}
	for _, s := range texts {
		if _, is := parsedNet(s); is {
			t.Errorf("%.60q is a NetText", s)
		}
		checkNetRefused(t, netArguments{Text: s}, "ParseNet")
	}
	for _, n := range invalidNets() {
		checkNetRefused(t, netArguments{Text: textOfNet(n)}, "ParseNet")
	}
}

func TestInvalidNets(t *testing.T) {
	for _, n := range invalidNets() {
		last := len(n.Towers) - 1
		for _, a := range []netArguments{
			{Net: n, A: 0, B: 1, Link: impl.Link{A: 0, B: 1, Delay: 5}},
			{Net: n, A: last / 2, B: last, Link: impl.Link{A: 0, B: last, Delay: 60}},
			{Net: n, A: last, B: 0, Link: impl.Link{A: last / 2, B: last, Delay: 1}},
		} {
			checkNetRefused(t, a, callsWithNet()...)
		}
	}
}

func TestInvalidTowers(t *testing.T) {
	for _, n := range validNets() {
		last := len(n.Towers) - 1
		for _, bad := range beyond(0, last) {
			checkNetRefused(t, netArguments{Net: n, A: bad, B: 0}, "LinkBetween", "NeighboursOf", "ReachFrom", "SquareBetween", "DropTower")
			checkNetRefused(t, netArguments{Net: n, A: bad, B: last}, "LinkBetween", "SquareBetween")
			checkNetRefused(t, netArguments{Net: n, A: 0, B: bad}, "LinkBetween", "SquareBetween")
			checkNetRefused(t, netArguments{Net: n, A: last, B: bad}, "LinkBetween", "SquareBetween")
			checkNetRefused(t, netArguments{Net: n, A: bad, B: bad}, "LinkBetween", "SquareBetween")
			checkNetRefused(t, netArguments{Net: n, Link: impl.Link{A: bad, B: last, Delay: 5}}, "AddLink")
			checkNetRefused(t, netArguments{Net: n, Link: impl.Link{A: 0, B: bad, Delay: 5}}, "AddLink")
		}
	}
}

// manyNetArguments returns arguments of many kinds, valid ones and invalid ones.
func manyNetArguments() []netArguments {
	var all []netArguments
	for i, n := range validNets() {
		last := len(n.Towers) - 1
		for k, a := range []int{0, last / 2, last, i % len(n.Towers)} {
			b := (a + 1 + k) % len(n.Towers)
			all = append(all, netArguments{Net: n, A: a, B: b, Link: impl.Link{A: min(a, b), B: max(a, b), Delay: 1 + i}, Text: textOfNet(n)})
		}
	}
	odd := oddInts()
	for i, n := range invalidNets() {
		if len(n.Towers) < 30 && len(n.Links) < 50 && i%37 == 0 {
			x, y := odd[i%len(odd)], odd[i*7%len(odd)]
			all = append(all, netArguments{Net: n, A: i % 3, B: i % 2, Link: impl.Link{A: x, B: y, Delay: i % 70}, Text: textOfNet(n)})
			all = append(all, netArguments{Net: chainOf(1 + i%16), A: x, B: y, Link: impl.Link{A: i % 4, B: y, Delay: x}, Text: textOfNet(n)})
		}
	}
	return all
}

func TestNetFunctionsArePure(t *testing.T) {
	calls := netCalls()
	if len(calls) != 12 || len(callsWithNet()) != 11 {
		t.Errorf("%d functions, %d of a net", len(calls), len(callsWithNet()))
	}
	checkAllPure(t, calls, manyNetArguments(), 20)
}

// TestNetsInOneMemory gives nets whose towers and links lie in the same arrays.
func TestNetsInOneMemory(t *testing.T) {
	towers, links := someTowers(8, 3), linksOf(0, 1, 0, 2, 1, 3, 2, 3, 0, 1)
	towersBefore, linksBefore := slices.Clone(towers), slices.Clone(links)
	first, second := impl.Net{Towers: towers[:4], Links: links[:4]}, impl.Net{Towers: towers[2:], Links: links[4:]}
	texts := []string{textOfNet(first), textOfNet(second)}
	var results []impl.Net
	for _, n := range []impl.Net{first, second} {
		for _, x := range []impl.Link{{A: 0, B: 3, Delay: 9}, {A: 1, B: 2, Delay: 9}} {
			added, ok := impl.AddLink(n, x)
			if len(added.Links) != len(n.Links)+1 || !goodNet(added) || !ok {
				t.Errorf("AddLink = %v, %v", added, ok)
			}
			results = append(results, added)
		}
		for i := range n.Towers {
			dropped, ok := impl.DropTower(n, i)
			if textOfNet(dropped) != textOfNet(withoutTower(n, i)) || !ok {
				t.Errorf("DropTower(%d) = %v, %v", i, dropped, ok)
			}
			results = append(results, dropped)
		}
	}
	for _, n := range results {
		for i := range n.Towers[:cap(n.Towers)] {
			n.Towers[:cap(n.Towers)][i] = impl.Tower{X: -1}
		}
		for i := range n.Links[:cap(n.Links)] {
			n.Links[:cap(n.Links)][i] = impl.Link{A: -1}
		}
	}
	if !slices.Equal(towers, towersBefore) || !slices.Equal(links, linksBefore) {
		t.Errorf("the arguments are %v, %v now", towers, links)
	}
	for i, n := range []impl.Net{first, second} {
		if text, ok := impl.NetText(n); text != texts[i] || !ok {
			t.Errorf("NetText = %q, %v", text, ok)
		}
	}
}

func TestNetFunctionsAcceptAllArguments(t *testing.T) {
	calls := netCalls()
	check := func(a netArguments) { checkAccepted(t, calls, a) }
	check(netArguments{})
	numbers := append(oddInts(), 0, 1, 2, 15, 16, 17, 40, 41, 500, 501, 999, 1000)
	for _, n := range numbers {
		for _, m := range numbers {
			x, y := impl.Tower{X: n, Y: m, Height: n}, impl.Link{A: n, B: m, Delay: n}
			check(netArguments{Net: impl.Net{Towers: []impl.Tower{x, {}, {}}, Links: []impl.Link{y}}, A: n, B: m, Link: y})
			check(netArguments{Net: ringOf(16), A: n, B: m, Link: y, Text: fmt.Sprintf("tower %d %d %d\nlink %d %d %d\n", n, m, n, m, n, m)})
		}
	}
	for _, a := range manyNetArguments() {
		check(a)
	}
	for i, s := range invalidPhraseTexts() {
		check(netArguments{Net: chainOf(1 + i%20), A: i % 20, Text: s})
	}
}
