package tests

import (
	"fmt"
	"slices"
	"testing"

	"loop.example/g00940/impl"
)

// fogArguments are what the functions of chapter 9 get, so that checkPure sees all of it.
type fogArguments struct {
	Net     impl.Net
	Fogs    []impl.Fog
	Link    int
	T       int
	From    int
	To      int
	Fog     impl.Fog
	Seconds int
}

// fogCalls calls all functions of chapter 9.
func fogCalls() map[string]func(a fogArguments) []any {
	return map[string]func(a fogArguments) []any{
		"AreFogs": func(a fogArguments) []any { are, ok := impl.AreFogs(a.Net, a.Fogs); return []any{are, ok} },
		"IsClear": func(a fogArguments) []any {
			is, ok := impl.IsClear(a.Net, a.Fogs, a.Link, a.T)
			return []any{is, ok}
		},
		"NextClear": func(a fogArguments) []any {
			n, ok := impl.NextClear(a.Net, a.Fogs, a.Link, a.T)
			return []any{n, ok}
		},
		"FogSeconds": func(a fogArguments) []any {
			n, ok := impl.FogSeconds(a.Net, a.Fogs, a.Link, a.From, a.To)
			return []any{n, ok}
		},
		"ClearWindows": func(a fogArguments) []any {
			l, ok := impl.ClearWindows(a.Net, a.Fogs, a.Link, a.From, a.To)
			return []any{l, ok}
		},
		"AddFog":     func(a fogArguments) []any { l, ok := impl.AddFog(a.Net, a.Fogs, a.Fog); return []any{l, ok} },
		"FoggyLinks": func(a fogArguments) []any { l, ok := impl.FoggyLinks(a.Net, a.Fogs, a.T); return []any{l, ok} },
		"FoggiestLink": func(a fogArguments) []any {
			i, n, ok := impl.FoggiestLink(a.Net, a.Fogs)
			return []any{i, n, ok}
		},
		"JoinedAt": func(a fogArguments) []any { is, ok := impl.JoinedAt(a.Net, a.Fogs, a.T); return []any{is, ok} },
		"EarliestStart": func(a fogArguments) []any {
			n, ok := impl.EarliestStart(a.Net, a.Fogs, a.Link, a.T, a.Seconds)
			return []any{n, ok}
		},
	}
}

// callsWithFogs names the functions of chapter 9 that fail for fogs that are not valid.
func callsWithFogs() []string {
	return []string{"IsClear", "NextClear", "FogSeconds", "ClearWindows", "AddFog", "FoggyLinks", "FoggiestLink", "JoinedAt", "EarliestStart"}
}

func callsWithLink() []string {
	return []string{"IsClear", "NextClear", "FogSeconds", "ClearWindows", "EarliestStart"}
}

func callsWithTime() []string {
	return []string{"IsClear", "NextClear", "FoggyLinks", "JoinedAt", "EarliestStart"}
}

// checkFogRefused fails if one of the named functions gives any result that is not a zero one.
func checkFogRefused(t *testing.T, a fogArguments, names ...string) {
	t.Helper()
	checkAllRefused(t, fogCalls(), a, names...)
}

// checkFogResults fails if a function of chapter 9 does not give these results.
func checkFogResults(t *testing.T, name string, a fogArguments, want ...any) {
	t.Helper()
	if got := textOfResults(fogCalls()[name](a)); got != textOfResults(want) {
		t.Errorf("%s(%+v) = %s, want %s", name, a, got, textOfResults(want))
	}
}

// checkNoFogs fails if AreFogs does not tell that fogs are not valid, or if a function that gets them does not fail.
func checkNoFogs(t *testing.T, a fogArguments) {
	t.Helper()
	if are, ok := impl.AreFogs(a.Net, a.Fogs); are || !ok {
		t.Errorf("AreFogs(%.400s) = %v, %v", fmt.Sprint(a.Fogs), are, ok)
	}
	checkFogRefused(t, a, callsWithFogs()...)
}

// fogsOf returns fogs whose Link, From and To are given one after the other.
func fogsOf(numbers ...int) []impl.Fog {
	var l []impl.Fog
	for i := 0; i < len(numbers); i += 3 {
		l = append(l, impl.Fog{Link: numbers[i], From: numbers[i+1], To: numbers[i+2]})
	}
	return l
}

// evenFogs returns so many fogs of one length on a link, which begin one after the other at the same distance.
func evenFogs(link int, count int, first int, distance int, length int) []impl.Fog {
	var l []impl.Fog
	for i := range count {
		l = append(l, impl.Fog{Link: link, From: first + i*distance, To: first + i*distance + length})
	}
	return l
}

// sixtyFogs returns MaxFogs fogs of a link, the first of which starts at 0, and the last of which ends at MaxTime.
func sixtyFogs(link int) []impl.Fog { return evenFogs(link, 60, 0, 169, 29) }

// allLinks returns fogs on all links at the same time.
func allLinks(n impl.Net, from int, to int) []impl.Fog {
	var l []impl.Fog
	for link := range n.Links {
		l = append(l, impl.Fog{Link: link, From: from, To: to})
	}
	return l
}

// mixedFogs returns fogs that look mixed, up to so many in all, in the seconds below a limit.
func mixedFogs(n impl.Net, most int, limit int, seed int) []impl.Fog {
	var l []impl.Fog
	each := max(1, most/len(n.Links))
	for link := range n.Links {
		cuts := someWeights(2*each, limit+1, 100*seed+link)
		slices.Sort(cuts)
		cuts = slices.Compact(cuts)
		for i := 0; i+1 < len(cuts) && len(l) < most; i += 2 {
			l = append(l, impl.Fog{Link: link, From: cuts[i], To: cuts[i+1]})
		}
	}
	return l
}

// fogLists returns valid fogs of many kinds for a net that has links.
func fogLists(n impl.Net) [][]impl.Fog {
	last := len(n.Links) - 1
	lists := [][]impl.Fog{
		nil, {}, fogsOf(0, 10, 20, 0, 25, 30), fogsOf(0, 0, 10000), fogsOf(last, 0, 10000), fogsOf(0, 0, 1), fogsOf(last, 9999, 10000), fogsOf(0, 5000, 5001),
		fogsOf(0, 0, 5000, 0, 5001, 10000), fogsOf(last, 10, 20, last, 21, 30, last, 31, 32, last, 33, 34), fogsOf(last, 0, 1, last, 2, 3, last, 9997, 9998, last, 9999, 10000),
		sixtyFogs(0), sixtyFogs(last), evenFogs(0, 60, 0, 2, 1), evenFogs(last, 60, 9881, 2, 1), evenFogs(last/2, 60, 100, 165, 164), evenFogs(0, 59, 500, 100, 99),
		allLinks(n, 0, 10000), allLinks(n, 10, 20), allLinks(n, 9999, 10000),
		slices.Concat(fogsOf(0, 10, 20, 0, 30, 40), allLinks(n, 10, 20)[1:]),
	}
	for seed := range 4 {
		lists = append(lists, mixedFogs(n, 60, 10000, seed), mixedFogs(n, 60, 130, seed+10), mixedFogs(n, 7, 10000, seed+20))
	}
	return lists
}

// linkedNets returns nets of many kinds that have links.
func linkedNets() []impl.Net {
	nets := []impl.Net{netOf(2, 0, 1), chainOf(3), ringOf(3), ringOf(6), starOf(7, 3), netOf(4, 0, 3), netOf(6, 0, 1, 0, 2, 1, 2, 2, 3, 3, 4, 3, 5, 4, 5), netOf(16, 0, 15)}
	return append(nets, fullNets()...)
}

// goodFogs tells by the words of chapter 9 whether fogs are valid, without the program.
func goodFogs(n impl.Net, l []impl.Fog) bool {
	if len(l) > 60 {
		return false
	}
	for i, x := range l {
		if x.Link < 0 || x.Link >= len(n.Links) || x.From < 0 || x.From >= x.To || x.To > 10000 {
			return false
		}
		for _, earlier := range l[:i] {
			if earlier.Link > x.Link || earlier.Link == x.Link && earlier.To >= x.From {
				return false
			}
		}
	}
	return true
}

// foggySeconds tells for each second whether fog lies on a link, also for all those behind MaxTime that a start may need.
func foggySeconds(l []impl.Fog, link int) []bool {
	foggy := make([]bool, 10000+1000)
	for _, x := range l {
		for at := x.From; at < x.To && x.Link == link; at++ {
			foggy[at] = true
		}
	}
	return foggy
}

// rangesOf returns the longest ranges of seconds with or without fog from one second to the one ahead of another one.
func rangesOf(foggy []bool, is bool, from int, to int) [][]int {
	ranges := [][]int{}
	for at := from; at < to; at++ {
		switch {
		case foggy[at] != is:
		case at > from && foggy[at-1] == is:
			ranges[len(ranges)-1][1]++
		default:
			ranges = append(ranges, []int{at, at + 1})
		}
	}
	return ranges
}

// fogsIn returns the fogs of a link that has fog in these seconds.
func fogsIn(foggy []bool, link int) []impl.Fog {
	var l []impl.Fog
	for _, r := range rangesOf(foggy, true, 0, len(foggy)) {
		l = append(l, impl.Fog{Link: link, From: r[0], To: r[1]})
	}
	return l
}

// bitSeconds tells for each second, from 0 to 9999, whether fog lies in it: in the second first + i if the binary digit i of a mask is 1.
func bitSeconds(first int, mask int) []bool {
	foggy := make([]bool, 10000)
	for i := first; mask > 0; i++ {
		foggy[i], mask = mask&1 == 1, mask>>1
	}
	return foggy
}

// sumOfRanges returns the number of seconds of ranges.
func sumOfRanges(ranges [][]int) int {
	sum := 0
	for _, x := range ranges {
		sum += x[1] - x[0]
	}
	return sum
}

// startByCounting returns the first second from t on from which no fog lies for some seconds.
func startByCounting(foggy []bool, t int, seconds int) int {
	for clear := 0; ; t++ {
		if clear++; foggy[t] {
			clear = 0
		}
		if clear == seconds {
			return t - seconds + 1
		}
	}
}

// fogsWith returns fogs with a further one by the seconds with fog of its link, nil if there are too many then.
func fogsWith(l []impl.Fog, x impl.Fog) []impl.Fog {
	foggy := foggySeconds(append(slices.Clone(l), x), x.Link)
	var with, behind []impl.Fog
	for _, other := range l {
		if other.Link < x.Link {
			with = append(with, other)
		} else if other.Link > x.Link {
			behind = append(behind, other)
		}
	}
	with = slices.Concat(with, fogsIn(foggy, x.Link), behind)
	if len(with) > 60 {
		return nil
	}
	return with
}

// joinedByTable tells whether all towers can be reached from tower 0 without the foggy links.
func joinedByTable(n impl.Net, foggy []int) bool {
	left := withLinks(n)
	for i, x := range n.Links {
		if !slices.Contains(foggy, i) {
			left.Links = append(left.Links, x)
		}
	}
	table := reachTable(left, -1)
	return !slices.Contains(table[0][:len(n.Towers)], false)
}

// momentsOf returns the seconds at which time begins and ends, and fogs begin and end, with those next to them.
func momentsOf(l []impl.Fog) []int {
	moments := []int{0, 1, 4321, 9999, 10000}
	for _, x := range l {
		moments = append(moments, x.From-1, x.From, x.From+1, (x.From+x.To)/2, x.To-1, x.To, x.To+1)
	}
	moments = slices.DeleteFunc(moments, func(at int) bool { return at < 0 || at > 10000 })
	slices.Sort(moments)
	return slices.Compact(moments)
}

// someOf returns at most about so many elements of a list, the first one and the last one among them.
func someOf(l []int, most int) []int {
	if len(l) <= most {
		return l
	}
	var some []int
	for i := range most {
		some = append(some, l[i*(len(l)-1)/(most-1)])
	}
	return some
}

// checkAddedFog compares AddFog with the fogs of all seconds.
func checkAddedFog(t *testing.T, a fogArguments) {
	t.Helper()
	want := fogsWith(a.Fogs, a.Fog)
	if want == nil {
		checkFogRefused(t, a, "AddFog")
		return
	}
	checkFogResults(t, "AddFog", a, want, true)
	if !goodFogs(a.Net, want) {
		t.Errorf("%v with %v are %v", a.Fogs, a.Fog, want)
	}
}

// checkRange compares the functions that get a range with the seconds of a link.
func checkRange(t *testing.T, a fogArguments, foggy []bool) {
	t.Helper()
	windows := rangesOf(foggy, false, a.From, a.To)
	seconds := sumOfRanges(rangesOf(foggy, true, a.From, a.To))
	checkFogResults(t, "ClearWindows", a, windows, true)
	checkFogResults(t, "FogSeconds", a, seconds, true)
	// Clear seconds and fog fill the range.
	got, ok := impl.ClearWindows(a.Net, a.Fogs, a.Link, a.From, a.To)
	if fog, _ := impl.FogSeconds(a.Net, a.Fogs, a.Link, a.From, a.To); sumOfRanges(got)+fog != a.To-a.From || !ok {
		t.Errorf("of the seconds from %d to %d %v are clear, and %d have fog", a.From, a.To, got, fog)
	}
	if a.From < a.To {
		a.Fog = impl.Fog{Link: a.Link, From: a.From, To: a.To}
		checkAddedFog(t, a)
	}
}

// checkStarts compares the functions that get a link and a time with the seconds of the link.
func checkStarts(t *testing.T, a fogArguments, foggy []bool, lengths []int) {
	t.Helper()
	checkFogResults(t, "IsClear", a, !foggy[a.T], true)
	checkFogResults(t, "NextClear", a, a.T+slices.Index(foggy[a.T:], false), true)
	for _, a.Seconds = range lengths {
		want := startByCounting(foggy, a.T, a.Seconds)
		checkFogResults(t, "EarliestStart", a, want, true)
		// The start is clear as long as told, as far as there can be fog, and the second ahead of one that had to wait has fog.
		start, ok := impl.EarliestStart(a.Net, a.Fogs, a.Link, a.T, a.Seconds)
		if fog, does := impl.FogSeconds(a.Net, a.Fogs, a.Link, start, min(start+a.Seconds, 10000)); fog != 0 || !does || !ok {
			t.Errorf("EarliestStart(%+v) = %d, %v with %d seconds of fog", a, start, ok, fog)
		}
		if start == a.T {
			continue
		}
		if clear, _ := impl.IsClear(a.Net, a.Fogs, a.Link, start-1); clear {
			t.Errorf("EarliestStart(%+v) = %d, though the second ahead of it is clear", a, start)
		}
	}
}

// checkLinkAt compares the functions that get a link with its seconds, for all of some moments and all ranges between them.
func checkLinkAt(t *testing.T, a fogArguments, moments []int, lengths []int) {
	t.Helper()
	foggy := foggySeconds(a.Fogs, a.Link)
	for i, at := range moments {
		a.T = at
		checkStarts(t, a, foggy, lengths)
		for _, to := range moments[i:] {
			a.From, a.To = at, to
			checkRange(t, a, foggy)
		}
	}
}

// checkAllLinks compares the functions that get no link with the seconds of all links, for some moments.
func checkAllLinks(t *testing.T, n impl.Net, l []impl.Fog, moments []int) {
	t.Helper()
	a := fogArguments{Net: n, Fogs: l}
	checkFogResults(t, "AreFogs", a, true, true)
	var rows [][]bool
	var sums []int
	for link := range n.Links {
		rows = append(rows, foggySeconds(l, link))
		sums = append(sums, sumOfRanges(rangesOf(rows[link], true, 0, 10000)))
	}
	if len(sums) == 0 {
		checkFogRefused(t, a, "FoggiestLink")
	} else {
		most := slices.Max(sums)
		checkFogResults(t, "FoggiestLink", a, slices.Index(sums, most), most, true)
	}
	for _, a.T = range moments {
		links := []int{}
		for link, foggy := range rows {
			if foggy[a.T] {
				links = append(links, link)
			}
		}
		checkFogResults(t, "FoggyLinks", a, links, true)
		checkFogResults(t, "JoinedAt", a, joinedByTable(n, links), true)
	}
}

func TestFogExample(t *testing.T) {
	if impl.MaxFogs != 60 || impl.MaxTime != 10000 {
		t.Errorf("MaxFogs = %d, MaxTime = %d", impl.MaxFogs, impl.MaxTime)
	}
	a := fogArguments{Net: chainOf(2), Fogs: fogsOf(0, 10, 20, 0, 25, 30), T: 12, From: 12, To: 40, Fog: impl.Fog{From: 20, To: 25}, Seconds: 5}
	checkFogResults(t, "AreFogs", a, true, true)
	checkFogResults(t, "IsClear", a, false, true)
	checkFogResults(t, "NextClear", a, 20, true)
	checkFogResults(t, "FogSeconds", a, 13, true)
	checkFogResults(t, "ClearWindows", a, [][]int{{20, 25}, {30, 40}}, true)
	checkFogResults(t, "AddFog", a, fogsOf(0, 10, 30), true)
	checkFogResults(t, "FoggyLinks", a, []int{0}, true)
	checkFogResults(t, "FoggiestLink", a, 0, 15, true)
	checkFogResults(t, "JoinedAt", a, false, true)
	checkFogResults(t, "EarliestStart", a, 20, true)
	a.Seconds = 6
	checkFogResults(t, "EarliestStart", a, 30, true)
}

func TestAreFogs(t *testing.T) {
	check := func(n impl.Net, l []impl.Fog, want bool) {
		t.Helper()
		if got, ok := impl.AreFogs(n, l); got != want || goodFogs(n, l) != want || !ok {
			t.Errorf("AreFogs(%d links, %.400s) = %v, %v, want %v", len(n.Links), fmt.Sprint(l), got, ok, want)
		}
	}
	n := chainOf(4)
	for _, c := range []struct {
		fogs []impl.Fog
		want bool
	}{
		// No fog, and fog at the beginning and at the end of time.
		{nil, true}, {fogsOf(), true}, {fogsOf(0, 0, 1), true}, {fogsOf(2, 9999, 10000), true}, {fogsOf(1, 0, 10000), true},
		// Fogs of one link: one second apart, touching, overlapping, one inside the other, twice the same, out of order.
		{fogsOf(0, 10, 20, 0, 21, 30), true}, {fogsOf(0, 10, 20, 0, 20, 30), false}, {fogsOf(0, 10, 20, 0, 19, 30), false}, {fogsOf(0, 10, 20, 0, 12, 18), false}, {fogsOf(0, 10, 20, 0, 10, 20), false}, {fogsOf(0, 21, 30, 0, 10, 20), false},
		{fogsOf(0, 10, 20, 0, 10, 30), false}, {fogsOf(0, 10, 20, 0, 5, 30), false}, {fogsOf(0, 10, 11, 0, 12, 13, 0, 14, 15), true}, {fogsOf(0, 10, 11, 0, 12, 14, 0, 14, 15), false},
		// Fogs of different links: at the same time, one after the other in any order of time, out of order.
		{fogsOf(0, 10, 20, 1, 10, 20), true}, {fogsOf(0, 10, 20, 1, 20, 30), true}, {fogsOf(0, 50, 60, 1, 10, 20, 2, 0, 5), true}, {fogsOf(0, 10, 20, 2, 10, 20), true}, {fogsOf(1, 10, 20, 0, 10, 20), false}, {fogsOf(1, 10, 20, 0, 30, 40), false},
		{fogsOf(0, 10, 20, 1, 10, 20, 0, 30, 40), false}, {fogsOf(0, 10, 20, 0, 30, 40, 1, 0, 10000, 2, 10, 20, 2, 21, 22), true},
		// One of the numbers is not valid.
		{fogsOf(-1, 10, 20), false}, {fogsOf(3, 10, 20), false}, {fogsOf(2, 10, 20), true}, {fogsOf(0, -1, 20), false}, {fogsOf(0, 0, 20), true}, {fogsOf(0, 20, 20), false}, {fogsOf(0, 21, 20), false}, {fogsOf(0, 0, 0), false},
		{fogsOf(0, 10, 10001), false}, {fogsOf(0, 9999, 10001), false}, {fogsOf(0, 10000, 10000), false}, {fogsOf(0, 10000, 10001), false}, {fogsOf(0, 10001, 10002), false}, {fogsOf(0, -5, -3), false},
		// Exactly MaxFogs fogs, and one too many.
		{sixtyFogs(0), true}, {sixtyFogs(2), true}, {evenFogs(0, 60, 0, 2, 1), true}, {evenFogs(0, 61, 0, 2, 1), false}, {append(sixtyFogs(0), fogsOf(1, 10, 20)...), false}, {append(fogsOf(0, 10, 20), sixtyFogs(1)...), false}, {make([]impl.Fog, 61), false}, {evenFogs(1, 1000, 0, 2, 1), false},
	} {
		check(n, c.fogs, c.want)
	}
	for count := range 70 {
		check(n, evenFogs(1, count, 7, 3, 2), count <= 60)
	}
	for _, n := range linkedNets() {
		for _, l := range fogLists(n) {
			check(n, l, true)
		}
	}
	// A net with no links has no fogs but none.
	for _, n := range []impl.Net{netOf(1), netOf(2), netOf(16)} {
		check(n, nil, true)
		check(n, fogsOf(), true)
		check(n, fogsOf(0, 10, 20), false)
		check(n, fogsOf(-1, 10, 20), false)
	}
}

// TestAreFogsByNumbers goes through all fogs of few links and seconds, at the beginning and at the end of time.
func TestAreFogsByNumbers(t *testing.T) {
	n := chainOf(3)
	check := func(l []impl.Fog) {
		if got, ok := impl.AreFogs(n, l); got != goodFogs(n, l) || !ok {
			t.Errorf("AreFogs(%v) = %v, %v", l, got, ok)
		}
	}
	for _, first := range []int{-1, 9997} {
		var all, good []impl.Fog
		listsOver(3, -1, 4, func(l []int) {
			x := impl.Fog{Link: l[0], From: first + l[1] + 1, To: first + l[2] + 1}
			if all = append(all, x); goodFogs(n, []impl.Fog{x}) {
				good = append(good, x)
			}
		})
		for _, x := range all {
			check([]impl.Fog{x})
			for _, y := range all {
				check([]impl.Fog{x, y})
			}
		}
		for _, x := range good {
			for _, y := range good {
				for _, z := range good {
					check([]impl.Fog{x, y, z})
				}
			}
		}
	}
}

// TestFogsOfFewSeconds goes through all fogs of eight seconds of one link, at the beginning, in the middle and at the end of time.
func TestFogsOfFewSeconds(t *testing.T) {
	lengths := append(numbersBelow(12)[1:], 999, 1000)
	for _, first := range []int{0, 5000, 9992} {
		var moments []int
		for at := max(first-2, 0); at <= min(first+10, 10000); at++ {
			moments = append(moments, at)
		}
		for mask := range 256 {
			l := fogsIn(bitSeconds(first, mask), 0)
			checkAllLinks(t, chainOf(2), l, moments)
			checkLinkAt(t, fogArguments{Net: chainOf(2), Fogs: l}, moments, lengths)
		}
	}
}

// TestFogsOfFewLinks goes through all fogs of three seconds of three links.
func TestFogsOfFewLinks(t *testing.T) {
	moments := []int{0, 39, 40, 41, 42, 43, 10000}
	for _, n := range []impl.Net{ringOf(3), chainOf(4), starOf(4, 1), netOf(5, 0, 1, 0, 2, 1, 2)} {
		for mask := range 512 {
			l := slices.Concat(fogsIn(bitSeconds(40, mask&7), 0), fogsIn(bitSeconds(40, mask>>3&7), 1), fogsIn(bitSeconds(40, mask>>6), 2))
			checkAllLinks(t, n, l, moments)
			for link := range 3 {
				checkAddedFog(t, fogArguments{Net: n, Fogs: l, Fog: impl.Fog{Link: link, From: 41, To: 42}})
				checkAddedFog(t, fogArguments{Net: n, Fogs: l, Fog: impl.Fog{Link: link, From: 38, To: 41}})
				if mask%7 == link {
					checkLinkAt(t, fogArguments{Net: n, Fogs: l, Link: link}, moments, []int{1, 2, 3})
				}
			}
		}
	}
}

// TestManyFogs has all kinds of fogs on all kinds of nets.
func TestManyFogs(t *testing.T) {
	for i, n := range linkedNets() {
		for k, l := range fogLists(n) {
			checkAllLinks(t, n, l, someOf(momentsOf(l), 40))
			for _, link := range []int{0, len(n.Links) / 2, len(n.Links) - 1} {
				ofLink := slices.DeleteFunc(slices.Clone(l), func(x impl.Fog) bool { return x.Link != link })
				checkLinkAt(t, fogArguments{Net: n, Fogs: l, Link: link}, someOf(momentsOf(ofLink), 12), []int{1, 2 + i, 28 + k, 140, 500, 1000})
			}
		}
	}
}

// TestNoLinks has nets with no links, of which only the towers and the times matter.
func TestNoLinks(t *testing.T) {
	for _, towers := range []int{1, 2, 16} {
		n := netOf(towers)
		for _, l := range [][]impl.Fog{nil, {}} {
			checkAllLinks(t, n, l, []int{0, 1, 5000, 9999, 10000})
			a := fogArguments{Net: n, Fogs: l, T: 7, To: 9, Fog: impl.Fog{To: 5}, Seconds: 1}
			checkFogResults(t, "JoinedAt", a, towers == 1, true)
			checkFogResults(t, "FoggyLinks", a, []int{}, true)
			checkFogRefused(t, a, "IsClear", "NextClear", "FogSeconds", "ClearWindows", "AddFog", "FoggiestLink", "EarliestStart")
		}
		checkNoFogs(t, fogArguments{Net: n, Fogs: fogsOf(0, 10, 20), To: 9, Fog: impl.Fog{To: 5}, Seconds: 1})
	}
}

// mainFogs are fogs of two links of a chain, the second one without fog in between.
func mainFogs() []impl.Fog { return fogsOf(0, 0, 3, 0, 10, 20, 0, 21, 30, 2, 15, 25, 2, 9990, 10000) }

func TestIsClearAndNextClear(t *testing.T) {
	for _, c := range []struct{ link, t, next int }{
		// The first second of a fog, one inside, the last one, and the one behind it.
		{0, 0, 3}, {0, 1, 3}, {0, 2, 3}, {0, 3, 3}, {0, 4, 4}, {0, 9, 9}, {0, 10, 20}, {0, 15, 20}, {0, 19, 20},
		// One clear second between two fogs.
		{0, 20, 20}, {0, 21, 30}, {0, 29, 30}, {0, 30, 30}, {0, 9999, 9999}, {0, 10000, 10000},
		// No fog on the link, though there is some on others.
		{1, 0, 0}, {1, 15, 15}, {1, 9999, 9999}, {1, 10000, 10000},
		{2, 0, 0}, {2, 14, 14}, {2, 15, 25}, {2, 24, 25}, {2, 25, 25}, {2, 9989, 9989},
		// Fog up to MaxTime.
		{2, 9990, 10000}, {2, 9999, 10000}, {2, 10000, 10000},
	} {
		a := fogArguments{Net: chainOf(4), Fogs: mainFogs(), Link: c.link, T: c.t}
		checkFogResults(t, "IsClear", a, c.t == c.next, true)
		checkFogResults(t, "NextClear", a, c.next, true)
		a.Fogs = nil
		checkFogResults(t, "IsClear", a, true, true)
		checkFogResults(t, "NextClear", a, c.t, true)
		a.Fogs = fogsOf(c.link, 0, 10000)
		checkFogResults(t, "IsClear", a, c.t == 10000, true)
		checkFogResults(t, "NextClear", a, 10000, true)
	}
}

func TestFogSecondsAndClearWindows(t *testing.T) {
	for _, c := range []struct {
		link, from, to int
		seconds        int
		windows        [][]int
	}{
		// From equal to to, in fog and outside of it.
		{0, 15, 15, 0, nil}, {0, 5, 5, 0, nil}, {0, 0, 0, 0, nil}, {0, 10, 10, 0, nil}, {0, 20, 20, 0, nil}, {2, 10000, 10000, 0, nil}, {1, 7, 7, 0, nil},
		// Ranges that begin and end inside a fog, and beside one.
		{0, 12, 18, 6, nil}, {0, 10, 20, 10, nil}, {0, 12, 20, 8, nil}, {0, 10, 19, 9, nil}, {0, 9, 20, 10, [][]int{{9, 10}}}, {0, 10, 21, 10, [][]int{{20, 21}}}, {0, 9, 21, 10, [][]int{{9, 10}, {20, 21}}},
		{0, 12, 25, 12, [][]int{{20, 21}}}, {0, 15, 22, 6, [][]int{{20, 21}}}, {0, 2, 12, 3, [][]int{{3, 10}}}, {0, 1, 29, 20, [][]int{{3, 10}, {20, 21}}},
		// One second.
		{0, 19, 20, 1, nil}, {0, 20, 21, 0, [][]int{{20, 21}}}, {0, 21, 22, 1, nil}, {0, 0, 1, 1, nil}, {2, 9999, 10000, 1, nil}, {1, 9999, 10000, 0, [][]int{{9999, 10000}}},
		// Windows between fogs and at the edges of the range: none, one and several.
		{0, 3, 10, 0, [][]int{{3, 10}}}, {0, 4, 9, 0, [][]int{{4, 9}}}, {0, 5, 15, 5, [][]int{{5, 10}}}, {0, 15, 35, 14, [][]int{{20, 21}, {30, 35}}}, {0, 30, 40, 0, [][]int{{30, 40}}}, {0, 31, 40, 0, [][]int{{31, 40}}}, {0, 29, 31, 1, [][]int{{30, 31}}},
		// All of time.
		{0, 0, 10000, 22, [][]int{{3, 10}, {20, 21}, {30, 10000}}}, {1, 0, 10000, 0, [][]int{{0, 10000}}}, {2, 0, 10000, 20, [][]int{{0, 15}, {25, 9990}}}, {2, 20, 9995, 10, [][]int{{25, 9990}}}, {2, 9990, 10000, 10, nil}, {2, 9989, 10000, 10, [][]int{{9989, 9990}}},
	} {
		a := fogArguments{Net: chainOf(4), Fogs: mainFogs(), Link: c.link, From: c.from, To: c.to}
		checkFogResults(t, "FogSeconds", a, c.seconds, true)
		checkFogResults(t, "ClearWindows", a, append([][]int{}, c.windows...), true)
		// All clear without fog, and none if it lies on the link all the time.
		whole := [][]int{}
		if c.from < c.to {
			whole = append(whole, []int{c.from, c.to})
		}
		a.Fogs = nil
		checkFogResults(t, "FogSeconds", a, 0, true)
		checkFogResults(t, "ClearWindows", a, whole, true)
		a.Fogs = fogsOf(c.link, 0, 10000)
		checkFogResults(t, "FogSeconds", a, c.to-c.from, true)
		checkFogResults(t, "ClearWindows", a, [][]int{}, true)
	}
}

func TestAddFog(t *testing.T) {
	l := fogsOf(0, 10, 20, 0, 30, 40, 0, 50, 60, 2, 10, 20)
	for _, c := range []struct {
		fog  []impl.Fog
		want []impl.Fog
	}{
		// It touches one, and has a second between.
		{fogsOf(0, 5, 10), fogsOf(0, 5, 20, 0, 30, 40, 0, 50, 60, 2, 10, 20)},
		{fogsOf(0, 5, 9), fogsOf(0, 5, 9, 0, 10, 20, 0, 30, 40, 0, 50, 60, 2, 10, 20)},
		{fogsOf(0, 20, 25), fogsOf(0, 10, 25, 0, 30, 40, 0, 50, 60, 2, 10, 20)},
		{fogsOf(0, 21, 25), fogsOf(0, 10, 20, 0, 21, 25, 0, 30, 40, 0, 50, 60, 2, 10, 20)},
		{fogsOf(0, 60, 61), fogsOf(0, 10, 20, 0, 30, 40, 0, 50, 61, 2, 10, 20)},
		{fogsOf(0, 61, 62), fogsOf(0, 10, 20, 0, 30, 40, 0, 50, 60, 0, 61, 62, 2, 10, 20)},
		// It begins or ends inside one.
		{fogsOf(0, 5, 12), fogsOf(0, 5, 20, 0, 30, 40, 0, 50, 60, 2, 10, 20)},
		{fogsOf(0, 39, 45), fogsOf(0, 10, 20, 0, 30, 45, 0, 50, 60, 2, 10, 20)},
		// It lies inside one, or is the same.
		{fogsOf(0, 12, 18), l}, {fogsOf(0, 10, 18), l}, {fogsOf(0, 12, 20), l}, {fogsOf(0, 10, 20), l}, {fogsOf(0, 30, 31), l}, {fogsOf(2, 19, 20), l},
		// It covers one, several and all of its link.
		{fogsOf(0, 28, 42), fogsOf(0, 10, 20, 0, 28, 42, 0, 50, 60, 2, 10, 20)},
		{fogsOf(0, 5, 45), fogsOf(0, 5, 45, 0, 50, 60, 2, 10, 20)},
		{fogsOf(0, 0, 10000), fogsOf(0, 0, 10000, 2, 10, 20)},
		// It joins two, touching both or one, and three.
		{fogsOf(0, 20, 30), fogsOf(0, 10, 40, 0, 50, 60, 2, 10, 20)},
		{fogsOf(0, 15, 30), fogsOf(0, 10, 40, 0, 50, 60, 2, 10, 20)},
		{fogsOf(0, 20, 35), fogsOf(0, 10, 40, 0, 50, 60, 2, 10, 20)},
		{fogsOf(0, 40, 55), fogsOf(0, 10, 20, 0, 30, 60, 2, 10, 20)},
		{fogsOf(0, 20, 50), fogsOf(0, 10, 60, 2, 10, 20)},
		{fogsOf(0, 5, 30), fogsOf(0, 5, 40, 0, 50, 60, 2, 10, 20)},
		// It lies between two without touching them.
		{fogsOf(0, 21, 29), fogsOf(0, 10, 20, 0, 21, 29, 0, 30, 40, 0, 50, 60, 2, 10, 20)},
		{fogsOf(0, 45, 46), fogsOf(0, 10, 20, 0, 30, 40, 0, 45, 46, 0, 50, 60, 2, 10, 20)},
		// It lies on a link without fog, or on one whose fogs have the same seconds as those of another one.
		{fogsOf(1, 10, 20), fogsOf(0, 10, 20, 0, 30, 40, 0, 50, 60, 1, 10, 20, 2, 10, 20)},
		{fogsOf(1, 0, 10000), fogsOf(0, 10, 20, 0, 30, 40, 0, 50, 60, 1, 0, 10000, 2, 10, 20)},
		{fogsOf(3, 5, 15), fogsOf(0, 10, 20, 0, 30, 40, 0, 50, 60, 2, 10, 20, 3, 5, 15)},
		{fogsOf(2, 20, 30), fogsOf(0, 10, 20, 0, 30, 40, 0, 50, 60, 2, 10, 30)},
		{fogsOf(2, 0, 1), fogsOf(0, 10, 20, 0, 30, 40, 0, 50, 60, 2, 0, 1, 2, 10, 20)},
		{fogsOf(2, 9999, 10000), fogsOf(0, 10, 20, 0, 30, 40, 0, 50, 60, 2, 10, 20, 2, 9999, 10000)},
	} {
		a := fogArguments{Net: chainOf(5), Fogs: l, Fog: c.fog[0]}
		checkFogResults(t, "AddFog", a, c.want, true)
		checkAddedFog(t, a)
		// The first one of all.
		a.Fogs = nil
		checkFogResults(t, "AddFog", a, c.fog, true)
	}
}

// TestAddFogToMany has as many fogs as there may be, or one less.
func TestAddFogToMany(t *testing.T) {
	n := chainOf(4)
	full := evenFogs(1, 60, 100, 10, 5)
	almost := full[:59]
	for _, c := range []struct {
		fogs []impl.Fog
		fog  impl.Fog
		left int
	}{
		// A further one of its own.
		{almost, impl.Fog{Link: 1, From: 0, To: 50}, 60}, {almost, impl.Fog{Link: 1, From: 106, To: 109}, 60}, {almost, impl.Fog{Link: 1, From: 9000, To: 10000}, 60}, {almost, impl.Fog{Link: 0, From: 100, To: 105}, 60}, {almost, impl.Fog{Link: 2, From: 100, To: 105}, 60},
		{full, impl.Fog{Link: 1, From: 0, To: 99}, 0}, {full, impl.Fog{Link: 1, From: 106, To: 109}, 0}, {full, impl.Fog{Link: 1, From: 9000, To: 10000}, 0}, {full, impl.Fog{Link: 0, From: 100, To: 105}, 0}, {full, impl.Fog{Link: 2, From: 100, To: 105}, 0}, {full, impl.Fog{Link: 1, From: 697, To: 698}, 0},
		// One that touches one, or lies inside one.
		{full, impl.Fog{Link: 1, From: 0, To: 100}, 60}, {full, impl.Fog{Link: 1, From: 105, To: 109}, 60}, {full, impl.Fog{Link: 1, From: 106, To: 110}, 60}, {full, impl.Fog{Link: 1, From: 695, To: 10000}, 60}, {full, impl.Fog{Link: 1, From: 402, To: 403}, 60}, {full, impl.Fog{Link: 1, From: 100, To: 105}, 60},
		// One that joins two, and more.
		{full, impl.Fog{Link: 1, From: 105, To: 110}, 59}, {full, impl.Fog{Link: 1, From: 685, To: 690}, 59}, {full, impl.Fog{Link: 1, From: 103, To: 122}, 58}, {full, impl.Fog{Link: 1, From: 0, To: 10000}, 1},
	} {
		a := fogArguments{Net: n, Fogs: c.fogs, Fog: c.fog}
		checkAddedFog(t, a)
		if got, ok := impl.AddFog(n, c.fogs, c.fog); len(got) != c.left || ok != (c.left > 0) {
			t.Errorf("AddFog(%v) gives %d fogs, %v, want %d", c.fog, len(got), ok, c.left)
		}
	}
	// One after the other, until there are too many.
	var l []impl.Fog
	for i := range 60 {
		var ok bool
		if l, ok = impl.AddFog(n, l, impl.Fog{Link: i * 2 % 3, From: 100 * (i * 7 % 60), To: 100*(i*7%60) + 99}); len(l) != i+1 || !goodFogs(n, l) || !ok {
			t.Fatalf("AddFog gives %v, %v", l, ok)
		}
	}
	checkFogRefused(t, fogArguments{Net: n, Fogs: l, Fog: impl.Fog{Link: 2, From: 9000, To: 9001}}, "AddFog")
}

func TestFoggyLinksAndJoinedAt(t *testing.T) {
	ring, chain := ringOf(4), chainOf(4)
	// The links of the ring are 0 to 1, 0 to 3, 1 to 2 and 2 to 3.
	l := fogsOf(0, 10, 20, 1, 15, 25, 2, 24, 30, 3, 5, 12)
	for _, c := range []struct {
		net    impl.Net
		fogs   []impl.Fog
		t      int
		links  []int
		joined bool
	}{
		// Joined at one second and not at another: one foggy link, two and three.
		{ring, l, 0, nil, true}, {ring, l, 4, nil, true}, {ring, l, 5, []int{3}, true}, {ring, l, 9, []int{3}, true}, {ring, l, 10, []int{0, 3}, false}, {ring, l, 11, []int{0, 3}, false}, {ring, l, 12, []int{0}, true}, {ring, l, 14, []int{0}, true},
		{ring, l, 15, []int{0, 1}, false}, {ring, l, 19, []int{0, 1}, false}, {ring, l, 20, []int{1}, true}, {ring, l, 24, []int{1, 2}, false}, {ring, l, 25, []int{2}, true}, {ring, l, 29, []int{2}, true}, {ring, l, 30, nil, true}, {ring, l, 10000, nil, true},
		// All links, to the last second of time and behind it.
		{ring, allLinks(ring, 9999, 10000), 9998, nil, true}, {ring, allLinks(ring, 9999, 10000), 9999, []int{0, 1, 2, 3}, false}, {ring, allLinks(ring, 9999, 10000), 10000, nil, true}, {ring, allLinks(ring, 0, 1), 0, []int{0, 1, 2, 3}, false}, {ring, allLinks(ring, 0, 1), 1, nil, true},
		{fullNets()[1], allLinks(fullNets()[1], 0, 10000), 5000, numbersBelow(40), false},
		// In a chain each link matters, whether or not tower 0 has it.
		{chain, nil, 7, nil, true}, {chain, fogsOf(0, 5, 10), 7, []int{0}, false}, {chain, fogsOf(1, 5, 10), 7, []int{1}, false}, {chain, fogsOf(2, 5, 10), 7, []int{2}, false}, {chain, fogsOf(2, 5, 10), 10, nil, true}, {chain, fogsOf(2, 5, 10), 4, nil, true},
		// Towers that are never joined, and a lone one.
		{netOf(4, 0, 1, 2, 3), nil, 7, nil, false}, {netOf(4, 0, 1, 2, 3), fogsOf(1, 5, 10), 7, []int{1}, false}, {netOf(3, 1, 2), nil, 0, nil, false}, {netOf(2), nil, 0, nil, false}, {netOf(1), nil, 0, nil, true}, {netOf(1), nil, 10000, nil, true},
	} {
		a := fogArguments{Net: c.net, Fogs: c.fogs, T: c.t}
		checkFogResults(t, "FoggyLinks", a, append([]int{}, c.links...), true)
		checkFogResults(t, "JoinedAt", a, c.joined, true)
	}
}

func TestFoggiestLink(t *testing.T) {
	n := chainOf(5)
	for _, c := range []struct {
		fogs []impl.Fog
		link int
		most int
	}{
		// No fog at all.
		{nil, 0, 0}, {fogsOf(), 0, 0},
		// One alone, the first one and the last one.
		{fogsOf(0, 10, 20), 0, 10}, {fogsOf(2, 10, 11), 2, 1}, {fogsOf(3, 0, 10000), 3, 10000}, {fogsOf(0, 0, 1, 3, 0, 10000), 3, 10000},
		// Several with the same seconds.
		{allLinks(n, 10, 20), 0, 10}, {fogsOf(1, 10, 20, 3, 50, 60), 1, 10}, {fogsOf(0, 10, 15, 1, 0, 10, 2, 9990, 10000), 1, 10}, {fogsOf(1, 10, 20, 2, 0, 4, 2, 10, 16), 1, 10}, {fogsOf(0, 10, 11, 2, 0, 4, 2, 10, 16, 3, 10, 20), 2, 10}, {allLinks(n, 0, 10000), 0, 10000},
		// The sum of the seconds counts, not the longest fog and not the number of fogs.
		{fogsOf(0, 10, 20, 1, 10, 16, 1, 30, 36), 1, 12}, {fogsOf(0, 10, 11, 0, 20, 21, 0, 30, 31, 1, 0, 4), 1, 4}, {append(fogsOf(0, 0, 1740), evenFogs(1, 59, 0, 169, 30)...), 1, 1770}, {append(fogsOf(0, 0, 1770), evenFogs(1, 59, 0, 169, 30)...), 0, 1770},
		{sixtyFogs(3), 3, 1740},
	} {
		checkFogResults(t, "FoggiestLink", fogArguments{Net: n, Fogs: c.fogs}, c.link, c.most, true)
	}
	for _, towers := range []int{1, 2, 16} {
		checkFogRefused(t, fogArguments{Net: netOf(towers)}, "FoggiestLink")
	}
}

func TestEarliestStart(t *testing.T) {
	few := fogsOf(0, 10, 20, 0, 25, 30, 1, 0, 10000, 2, 9000, 10000)
	for _, c := range []struct {
		fogs             []impl.Fog
		link, t, seconds int
		start            int
	}{
		{few, 0, 12, 5, 20}, {few, 0, 12, 6, 30},
		// One second, from the second ahead of a fog on, in it and behind it.
		{few, 0, 9, 1, 9}, {few, 0, 10, 1, 20}, {few, 0, 19, 1, 20}, {few, 0, 20, 1, 20}, {few, 0, 24, 1, 24}, {few, 0, 25, 1, 30}, {few, 0, 30, 1, 30},
		// It just fits ahead of a fog or between two, or does not.
		{few, 0, 0, 10, 0}, {few, 0, 0, 11, 30}, {few, 0, 1, 9, 1}, {few, 0, 1, 10, 30}, {few, 0, 5, 5, 5}, {few, 0, 5, 6, 30}, {few, 0, 6, 5, 20}, {few, 0, 9, 2, 20}, {few, 0, 20, 5, 20}, {few, 0, 21, 4, 21}, {few, 0, 21, 5, 30}, {few, 0, 24, 2, 30},
		// 1000 seconds: at once, between two fogs, behind all of them.
		{nil, 0, 0, 1000, 0}, {few, 0, 0, 1000, 30}, {fogsOf(0, 0, 10, 0, 1010, 2000), 0, 0, 1000, 10}, {fogsOf(0, 0, 10, 0, 1009, 2000), 0, 0, 1000, 2000}, {fogsOf(0, 1000, 2000), 0, 0, 1000, 0}, {fogsOf(0, 999, 2000), 0, 0, 1000, 2000}, {fogsOf(0, 999, 2000), 0, 0, 999, 0},
		// Behind MaxTime it is always clear, so that the start is at MaxTime at the latest.
		{few, 1, 0, 1, 10000}, {few, 1, 0, 1000, 10000}, {few, 1, 10000, 1000, 10000}, {few, 2, 8000, 1000, 8000}, {few, 2, 8001, 1000, 10000}, {few, 2, 9999, 1, 10000}, {few, 2, 9500, 1000, 10000}, {few, 2, 10000, 1, 10000}, {few, 0, 10000, 1000, 10000}, {few, 0, 9999, 1000, 9999}, {nil, 2, 9500, 1000, 9500},
		// It must wait for more than one fog.
		{evenFogs(0, 60, 0, 2, 1), 0, 0, 1, 1}, {evenFogs(0, 60, 0, 2, 1), 0, 0, 2, 119}, {evenFogs(0, 60, 0, 2, 1), 0, 57, 2, 119}, {sixtyFogs(0), 0, 0, 140, 29}, {sixtyFogs(0), 0, 0, 141, 10000}, {sixtyFogs(0), 0, 9832, 139, 9832}, {sixtyFogs(0), 0, 9832, 140, 10000},
		{fogsOf(0, 0, 10, 0, 12, 20, 0, 23, 30, 0, 34, 40), 0, 5, 3, 20}, {fogsOf(0, 0, 10, 0, 12, 20, 0, 23, 30, 0, 34, 40), 0, 5, 4, 30}, {fogsOf(0, 0, 10, 0, 12, 20, 0, 23, 30, 0, 34, 40), 0, 5, 5, 40},
		// The fog of other links is none of it.
		{few, 3, 0, 1000, 0}, {few, 3, 9999, 1000, 9999}, {fogsOf(1, 0, 100), 0, 50, 10, 50}, {fogsOf(0, 10, 20, 1, 22, 30), 0, 12, 5, 20},
	} {
		a := fogArguments{Net: chainOf(5), Fogs: c.fogs, Link: c.link, T: c.t, Seconds: c.seconds}
		checkFogResults(t, "EarliestStart", a, c.start, true)
		if by := startByCounting(foggySeconds(c.fogs, c.link), c.t, c.seconds); by != c.start {
			t.Errorf("the earliest start of %v is %d by counting, not %d", c, by, c.start)
		}
	}
}

// goodFogArguments returns valid arguments of many kinds, with which all functions but AddFog succeed.
func goodFogArguments() []fogArguments {
	var all []fogArguments
	for i, n := range linkedNets() {
		for k, l := range fogLists(n) {
			moments := momentsOf(l)
			at, to := moments[(i+k)%len(moments)], moments[(i+3*k)%len(moments)]
			a := fogArguments{Net: n, Fogs: l, Link: k % len(n.Links), T: at, From: min(at, to), To: max(at, to), Seconds: 1 + (i+k)*97%1000}
			a.Fog = impl.Fog{Link: (i + k) % len(n.Links), From: min(at, 9999), To: max(to, min(at, 9999)+1)}
			all = append(all, a)
		}
	}
	return all
}

// withFog returns a copy of fogs with another one at an index.
func withFog(l []impl.Fog, i int, x impl.Fog) []impl.Fog {
	other := slices.Clone(l)
	other[i] = x
	return other
}

// invalidFogs returns fogs that are not valid by themselves for a net, each of which has one fault.
func invalidFogs(n impl.Net, x impl.Fog) []impl.Fog {
	fogs := []impl.Fog{{Link: x.Link, From: x.From, To: x.From}, {Link: x.Link, From: x.To, To: x.To}, {Link: x.Link, From: x.To, To: x.From}, {Link: x.Link, From: 10000, To: 10000}, {Link: x.Link}}
	for _, bad := range beyond(0, len(n.Links)-1) {
		fogs = append(fogs, impl.Fog{Link: bad, From: x.From, To: x.To})
	}
	for _, bad := range beyond(0, x.To-1) {
		fogs = append(fogs, impl.Fog{Link: x.Link, From: bad, To: x.To})
	}
	for _, bad := range beyond(x.From+1, 10000) {
		fogs = append(fogs, impl.Fog{Link: x.Link, From: x.From, To: bad})
	}
	return fogs
}

// invalidFogLists returns fogs that are not valid for a net with the given ones, each of which has one fault.
func invalidFogLists(n impl.Net, l []impl.Fog) [][]impl.Fog {
	lists := [][]impl.Fog{make([]impl.Fog, 61), evenFogs(0, 61, 0, 2, 1), evenFogs(len(n.Links)-1, 61, 0, 150, 100), make([]impl.Fog, 10000)}
	for i, x := range l {
		if i > 2 && i < len(l)-2 && i != len(l)/2 {
			continue
		}
		for _, bad := range invalidFogs(n, x) {
			lists = append(lists, withFog(l, i, bad))
		}
		if i == 0 {
			continue
		}
		before := l[i-1]
		lists = append(lists, withFog(withFog(l, i, before), i-1, x), withFog(l, i, before), withFog(l, i-1, x))
		if before.Link == x.Link {
			// The earlier one touches the later one, has a second in common with it, and ends with it.
			for _, to := range []int{x.From, x.From + 1, x.To} {
				lists = append(lists, withFog(l, i-1, impl.Fog{Link: x.Link, From: before.From, To: to}))
			}
			lists = append(lists, withFog(l, i, impl.Fog{Link: x.Link, From: before.To, To: x.To}), withFog(l, i, impl.Fog{Link: x.Link, From: before.From, To: x.To}))
		}
	}
	return lists
}

func TestInvalidNetsOfFogs(t *testing.T) {
	names := append(callsWithFogs(), "AreFogs")
	for _, n := range invalidNets() {
		for _, l := range [][]impl.Fog{nil, fogsOf(0, 10, 20), fogsOf(0, 20, 10)} {
			checkFogRefused(t, fogArguments{Net: n, Fogs: l, To: 10, Fog: impl.Fog{From: 30, To: 40}, Seconds: 1}, names...)
		}
	}
}

func TestInvalidFogs(t *testing.T) {
	for i, a := range goodFogArguments() {
		lists := invalidFogLists(a.Net, a.Fogs)
		for k, l := range lists {
			if goodFogs(a.Net, l) {
				t.Errorf("the fogs %v are valid", l)
			}
			if len(lists) < 100 || (i+k)%5 == 0 {
				a.Fogs = l
				checkNoFogs(t, a)
			}
		}
	}
}

func TestInvalidFurtherFogs(t *testing.T) {
	for _, a := range goodFogArguments() {
		x := a.Fog
		if _, ok := impl.AddFog(a.Net, a.Fogs, x); ok != (fogsWith(a.Fogs, x) != nil) {
			t.Errorf("AddFog(%+v) gives %v", a, ok)
		}
		for _, a.Fog = range invalidFogs(a.Net, x) {
			checkFogRefused(t, a, "AddFog")
		}
	}
}

func TestInvalidLinksTimesAndSeconds(t *testing.T) {
	for _, good := range goodFogArguments() {
		for _, name := range append(callsWithLink(), callsWithTime()...) {
			if results := fogCalls()[name](good); results[len(results)-1] != true {
				t.Errorf("%s(%+v) = %v", name, good, results)
			}
		}
		a := good
		for _, a.Link = range beyond(0, len(a.Net.Links)-1) {
			checkFogRefused(t, a, callsWithLink()...)
		}
		a = good
		for _, a.T = range beyond(0, 10000) {
			checkFogRefused(t, a, callsWithTime()...)
		}
		a = good
		for _, a.From = range beyond(0, a.To) {
			checkFogRefused(t, a, "FogSeconds", "ClearWindows")
		}
		a = good
		for _, a.To = range beyond(a.From, 10000) {
			checkFogRefused(t, a, "FogSeconds", "ClearWindows")
		}
		a.From, a.To = 10001, 10001
		checkFogRefused(t, a, "FogSeconds", "ClearWindows")
		a.From, a.To = -1, -1
		checkFogRefused(t, a, "FogSeconds", "ClearWindows")
		a = good
		for _, a.Seconds = range beyond(1, 1000) {
			checkFogRefused(t, a, "EarliestStart")
		}
	}
}

// manyFogArguments returns arguments of many kinds, valid ones and invalid ones.
func manyFogArguments() []fogArguments {
	all := []fogArguments{{}, {Net: netOf(1)}, {Net: netOf(3), T: 5}}
	odd := oddInts()
	for i, a := range goodFogArguments() {
		if i%3 == 0 {
			all = append(all, a)
		}
		x, y := odd[i%len(odd)], odd[i*7%len(odd)]
		lists := invalidFogLists(a.Net, a.Fogs)
		if a.Fogs = lists[i*11%len(lists)]; len(a.Fogs) < 100 {
			all = append(all, a)
		}
		all = append(all, fogArguments{Net: chainOf(1 + i%16), Fogs: fogsOf(0, x, y), Link: x, T: y, From: x, To: y, Fog: impl.Fog{Link: y, From: x, To: y}, Seconds: x})
	}
	return all
}

func TestFogFunctionsArePure(t *testing.T) {
	calls := fogCalls()
	if len(calls) != 10 || len(callsWithFogs()) != 9 {
		t.Errorf("%d functions, %d of fogs", len(calls), len(callsWithFogs()))
	}
	checkAllPure(t, calls, manyFogArguments(), 20)
}

// TestFogsInOneMemory gives nets and fogs that lie in the same arrays, each with others behind it.
func TestFogsInOneMemory(t *testing.T) {
	n := ringOf(6)
	n.Towers, n.Links = append(n.Towers, impl.Tower{X: -1})[:6], append(n.Links, impl.Link{A: -1})[:6]
	memory := fogsOf(0, 10, 20, 0, 30, 40, 1, 10, 20, 3, 5, 15, 0, 10, 20, 0, 30, 40)
	before := slices.Clone(memory)
	for from := range memory {
		for to := from; to <= len(memory); to++ {
			l := memory[from:to]
			if !goodFogs(n, l) {
				checkNoFogs(t, fogArguments{Net: n, Fogs: l, To: 10, Fog: impl.Fog{To: 5}, Seconds: 1})
				continue
			}
			checkAllLinks(t, n, l, momentsOf(l))
			for _, x := range fogsOf(0, 20, 30, 0, 10, 20, 0, 50, 60, 1, 25, 26, 2, 1, 2, 5, 9000, 10000) {
				checkAddedFog(t, fogArguments{Net: n, Fogs: l, Fog: x})
				added, _ := impl.AddFog(n, l, x)
				for i := range added[:cap(added)] {
					added[:cap(added)][i] = impl.Fog{Link: -1}
				}
			}
			if !slices.Equal(memory, before) {
				t.Fatalf("the fogs are %v now", memory)
			}
		}
	}
	// Windows of one result are lists of their own.
	windows, _ := impl.ClearWindows(n, memory[:2], 0, 0, 50)
	if textOfResults([]any{windows}) != "[[0 10] [20 30] [40 50]]" {
		t.Fatalf("the windows are %v", windows)
	}
	_ = append(windows[0], -1, -1)
	windows[1][0] = -1
	if windows[0][1] != 10 || windows[1][1] != 30 || windows[2][0] != 40 {
		t.Errorf("the windows are %v now", windows)
	}
}

func TestFogFunctionsAcceptAllArguments(t *testing.T) {
	calls := fogCalls()
	check := func(a fogArguments) { checkAccepted(t, calls, a) }
	check(fogArguments{})
	numbers := append(oddInts(), 0, 1, 2, 59, 60, 61, 999, 1000, 1001, 9999, 10000, 10001)
	for _, n := range numbers {
		for _, m := range numbers {
			x := impl.Fog{Link: 0, From: n, To: m}
			check(fogArguments{Net: ringOf(5), Fogs: []impl.Fog{x}, Link: 1, T: n, From: n, To: m, Fog: impl.Fog{Link: n, From: m, To: n}, Seconds: m})
			check(fogArguments{Net: ringOf(5), Fogs: mainFogs(), Link: n, T: m, From: n, To: m, Fog: x, Seconds: n})
			check(fogArguments{Net: chainOf(3), Fogs: []impl.Fog{{Link: n, From: 5, To: m}, x}, T: n, From: 0, To: n, Fog: x, Seconds: 1})
			check(fogArguments{Net: withLink(chainOf(3), 1, impl.Link{A: 1, B: n, Delay: m}), Fogs: fogsOf(1, 10, 20), Link: 1, T: n, To: m, Fog: x, Seconds: 1})
		}
	}
	for _, a := range manyFogArguments() {
		check(a)
	}
	for i, n := range invalidNets() {
		check(fogArguments{Net: n, Fogs: fogsOf(0, 1, 10), Link: i % 3, T: i % 20, To: i, Fog: impl.Fog{From: i % 7, To: 9}, Seconds: i})
	}
}
