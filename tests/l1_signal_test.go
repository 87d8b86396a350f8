package tests

import (
	"fmt"
	"math"
	"slices"
	"strings"
	"testing"

	"loop.example/g00940/impl"
)

// digitsOf returns the six binary digits of a signal by division, shutter 0 first.
func digitsOf(n int) [6]int {
	var digits [6]int
	for i := range digits {
		digits[i] = n % 2
		n /= 2
	}
	return digits
}

// textOf returns the text of a signal as chapter 1 defines it, without the program.
func textOf(n int) string {
	text := ""
	for _, digit := range digitsOf(n) {
		text += [2]string{".", "#"}[digit]
	}
	return text
}

// changedIn returns the shutters that differ in two signals, without the program.
func changedIn(a int, b int) []int {
	var changed []int
	for i := range 6 {
		if digitsOf(a)[i] != digitsOf(b)[i] {
			changed = append(changed, i)
		}
	}
	return changed
}

// decimal returns the text of a list, without the program.
func decimal(l []int) string { return strings.Trim(fmt.Sprint(l), "[]") }

// mixedSignals returns a list of so many signals of many kinds, always the same one.
func mixedSignals(length int) []int {
	l := make([]int, length)
	for i := range l {
		l[i] = (i*37 + i*i*5 + length) % 64
	}
	return l
}

// validLists returns lists that every function of lists in chapter 1 requires, the empty ones among them.
func validLists() [][]int {
	lists := [][]int{nil, {}, {0}, {63}, {0, 63}, {63, 0}, {5, 12}, {61, 62, 63}, {7, 7, 7}}
	lists = append(lists, repeated(0, 100), repeated(63, 100))
	for length := range 101 {
		lists = append(lists, mixedSignals(length))
	}
	return lists
}

// invalidLists returns lists that are too long or have a number that is no signal at some place.
func invalidLists() [][]int {
	lists := [][]int{repeated(0, 101), repeated(5, 101), repeated(63, 128), repeated(64, 101), mixedSignals(101), repeated(1, 100000)}
	for _, n := range oddInts() {
		lists = append(lists, []int{n}, []int{n, 5, 12}, []int{5, n, 12}, []int{5, 12, n})
		last := mixedSignals(100)
		last[99] = n
		lists = append(lists, last)
	}
	return lists
}

func TestSignalExample(t *testing.T) {
	if s, ok := impl.SignalText(5); s != "#.#..." || !ok {
		t.Errorf("SignalText(5) = %q, %v", s, ok)
	}
	if n, ok := impl.ReadSignal("#.#..."); n != 5 || !ok {
		t.Errorf("ReadSignal = %d, %v", n, ok)
	}
	if n, ok := impl.SignalDistance(5, 12); n != 2 || !ok {
		t.Errorf("SignalDistance(5, 12) = %d, %v", n, ok)
	}
	if n, ok := impl.MirrorSignal(5); n != 40 || !ok {
		t.Errorf("MirrorSignal(5) = %d, %v", n, ok)
	}
	if n, ok := impl.TurnSignal(5); n != 58 || !ok {
		t.Errorf("TurnSignal(5) = %d, %v", n, ok)
	}
	if n, ok := impl.MovementsOf([]int{5, 12}); n != 6 || !ok {
		t.Errorf("MovementsOf(5, 12) = %d, %v", n, ok)
	}
}

func TestSignalConstants(t *testing.T) {
	got := []int{impl.SgIdle, impl.SgEnd, impl.SgRepeat, impl.SgError, impl.MaxContent, impl.MaxSignals}
	if want := []int{0, 61, 62, 63, 60, 100}; !slices.Equal(got, want) {
		t.Errorf("the constants are %v, want %v", got, want)
	}
}

func TestIsContent(t *testing.T) {
	for n := -130; n <= 130; n++ {
		if got, want := impl.IsContent(n), n >= 1 && n <= 60; got != want {
			t.Errorf("IsContent(%d) = %v", n, got)
		}
	}
	for _, n := range []int{math.MinInt, math.MinInt + 1, 256 + 5, 1<<32 + 5, math.MaxInt - 1, math.MaxInt} {
		if impl.IsContent(n) {
			t.Errorf("IsContent(%d) = true", n)
		}
	}
}

func TestClosedShutters(t *testing.T) {
	for n := range 64 {
		if got, ok := impl.ClosedShutters(n); !slices.Equal(got, changedIn(n, 0)) || !ok {
			t.Errorf("ClosedShutters(%d) = %v, %v", n, got, ok)
		}
	}
	for n, want := range map[int][]int{0: {}, 1: {0}, 32: {5}, 42: {1, 3, 5}, 63: {0, 1, 2, 3, 4, 5}} {
		if got, ok := impl.ClosedShutters(n); !slices.Equal(got, want) || !ok {
			t.Errorf("ClosedShutters(%d) = %v, %v, want %v", n, got, ok, want)
		}
	}
	for _, n := range oddInts() {
		if got, ok := impl.ClosedShutters(n); len(got) != 0 || ok {
			t.Errorf("ClosedShutters(%d) = %v, %v", n, got, ok)
		}
	}
}

func TestSignalText(t *testing.T) {
	for n, want := range map[int]string{0: "......", 1: "#.....", 8: "...#..", 32: ".....#", 61: "#.####", 63: "######"} {
		if got, ok := impl.SignalText(n); got != want || !ok {
			t.Errorf("SignalText(%d) = %q, %v, want %q", n, got, ok, want)
		}
	}
	for n := range 64 {
		text, ok := impl.SignalText(n)
		if text != textOf(n) || !ok {
			t.Errorf("SignalText(%d) = %q, %v", n, text, ok)
		}
		if back, ok := impl.ReadSignal(text); back != n || !ok {
			t.Errorf("ReadSignal(%q) = %d, %v, want %d", text, back, ok, n)
		}
	}
	for _, n := range oddInts() {
		if got, ok := impl.SignalText(n); got != "" || ok {
			t.Errorf("SignalText(%d) = %q, %v", n, got, ok)
		}
	}
}

func TestReadSignal(t *testing.T) {
	signals := map[string]int{}
	for n := range 64 {
		signals[textOf(n)] = n
	}
	check := func(s string) {
		want, wantOk := signals[s]
		if got, ok := impl.ReadSignal(s); got != want || ok != wantOk {
			t.Errorf("ReadSignal(%q) = %d, %v, want %d, %v", s, got, ok, want, wantOk)
		}
	}
	textsOver("#. o", 7, check)
	for _, s := range []string{
		"#####\xff", "\xff#####", "....\u00e9", "#.#.\u00e9", "\u00e9....", "..\u20ac.", "\u20ac\u20ac", "\uff03.....", "\uff03...", "\xe2\x82\xac###",
		"#.#...\n", "\x00\x00\x00\x00\x00\x00", "#.#..\x00", "101000", "#,#,,,", "\xc0\xa3....", "\u00e9\u00e9\u00e9", "\u00e9\u00e9\u00e9\u00e9\u00e9\u00e9",
		strings.Repeat("#", 64), strings.Repeat(".", 100000),
	} {
		check(s)
	}
}

func TestSignalDistanceAndChangedShutters(t *testing.T) {
	for a := range 64 {
		for b := range 64 {
			want := changedIn(a, b)
			if got, ok := impl.SignalDistance(a, b); got != len(want) || !ok {
				t.Errorf("SignalDistance(%d, %d) = %d, %v", a, b, got, ok)
			}
			if got, ok := impl.ChangedShutters(a, b); !slices.Equal(got, want) || !ok {
				t.Errorf("ChangedShutters(%d, %d) = %v, %v", a, b, got, ok)
			}
		}
	}
	for _, n := range oddInts() {
		for _, pair := range [][2]int{{n, 0}, {0, n}, {n, 63}, {63, n}, {n, n}, {n, 5}, {5, n}} {
			if got, ok := impl.SignalDistance(pair[0], pair[1]); got != 0 || ok {
				t.Errorf("SignalDistance(%v) = %d, %v", pair, got, ok)
			}
			if got, ok := impl.ChangedShutters(pair[0], pair[1]); len(got) != 0 || ok {
				t.Errorf("ChangedShutters(%v) = %v, %v", pair, got, ok)
			}
		}
	}
}

func TestMirrorSignal(t *testing.T) {
	for n := range 64 {
		mirrored, ok := impl.MirrorSignal(n)
		want := textOf(n)[3:] + textOf(n)[:3]
		if mirrored < 0 || mirrored > 63 || textOf(mirrored) != want || !ok {
			t.Errorf("MirrorSignal(%d) = %d, %v, want %s", n, mirrored, ok, want)
		}
		if back, ok := impl.MirrorSignal(mirrored); back != n || !ok {
			t.Errorf("MirrorSignal(MirrorSignal(%d)) = %d, %v", n, back, ok)
		}
	}
	for n, want := range map[int]int{0: 0, 1: 8, 2: 16, 4: 32, 8: 1, 7: 56, 9: 9, 63: 63} {
		if got, ok := impl.MirrorSignal(n); got != want || !ok {
			t.Errorf("MirrorSignal(%d) = %d, %v, want %d", n, got, ok, want)
		}
	}
	for _, n := range oddInts() {
		if got, ok := impl.MirrorSignal(n); got != 0 || ok {
			t.Errorf("MirrorSignal(%d) = %d, %v", n, got, ok)
		}
	}
}

func TestTurnSignal(t *testing.T) {
	for n := range 64 {
		turned, ok := impl.TurnSignal(n)
		if turned < 0 || turned > 63 || len(changedIn(n, turned)) != 6 || !ok {
			t.Errorf("TurnSignal(%d) = %d, %v", n, turned, ok)
		}
		if back, ok := impl.TurnSignal(turned); back != n || !ok {
			t.Errorf("TurnSignal(TurnSignal(%d)) = %d, %v", n, back, ok)
		}
	}
	for n, want := range map[int]int{0: 63, 63: 0, 1: 62, 61: 2} {
		if got, ok := impl.TurnSignal(n); got != want || !ok {
			t.Errorf("TurnSignal(%d) = %d, %v, want %d", n, got, ok, want)
		}
	}
	for _, n := range oddInts() {
		if got, ok := impl.TurnSignal(n); got != 0 || ok {
			t.Errorf("TurnSignal(%d) = %d, %v", n, got, ok)
		}
	}
}

func TestMovementsOf(t *testing.T) {
	alternating := make([]int, 100)
	for i := 0; i < 100; i += 2 {
		alternating[i] = 63
	}
	for _, c := range []struct {
		list []int
		want int
	}{
		{nil, 0}, {[]int{}, 0}, {[]int{0}, 0}, {[]int{63}, 12}, {[]int{5}, 4}, {[]int{5, 5, 5}, 4}, {[]int{5, 0, 5}, 8},
		{[]int{1, 3, 7}, 6}, {repeated(0, 100), 0}, {repeated(63, 100), 12}, {alternating, 600},
	} {
		if got, ok := impl.MovementsOf(c.list); got != c.want || !ok {
			t.Errorf("MovementsOf(%v) = %d, %v, want %d", c.list, got, ok, c.want)
		}
	}
	for _, l := range validLists() {
		want, shown := 0, 0
		for _, n := range append(slices.Clone(l), 0) {
			want += len(changedIn(shown, n))
			shown = n
		}
		if got, ok := impl.MovementsOf(l); got != want || !ok {
			t.Errorf("MovementsOf(%v) = %d, %v, want %d", l, got, ok, want)
		}
	}
	for _, l := range invalidLists() {
		if got, ok := impl.MovementsOf(l); got != 0 || ok {
			t.Errorf("MovementsOf of %d invalid = %d, %v", len(l), got, ok)
		}
	}
}

func TestNearestSignals(t *testing.T) {
	for _, c := range []struct {
		signal int
		list   []int
		want   []int
	}{
		{5, []int{5}, []int{0}}, {0, []int{63}, []int{0}}, {63, []int{0}, []int{0}}, {5, []int{12, 5, 5, 4, 5}, []int{1, 2, 4}},
		{0, []int{3, 1, 2, 5, 4}, []int{1, 2, 4}}, {63, []int{0, 62, 31}, []int{1, 2}}, {0, []int{7, 3, 1}, []int{2}}, {0, []int{1, 3, 7}, []int{0}},
		{0, repeated(63, 3), []int{0, 1, 2}},
	} {
		if got, ok := impl.NearestSignals(c.signal, c.list); !slices.Equal(got, c.want) || !ok {
			t.Errorf("NearestSignals(%d, %v) = %v, %v, want %v", c.signal, c.list, got, ok, c.want)
		}
	}
	for _, l := range validLists() {
		for _, n := range []int{0, 1, 5, 32, 61, 63} {
			checkNearest(t, n, l)
		}
	}
}

// checkNearest compares NearestSignals with the list's indices by distance.
func checkNearest(t *testing.T, n int, l []int) {
	t.Helper()
	byDistance := map[int][]int{}
	for i, x := range l {
		d := len(changedIn(n, x))
		byDistance[d] = append(byDistance[d], i)
	}
	var want []int
	for d := 6; d >= 0; d-- {
		if len(byDistance[d]) > 0 {
			want = byDistance[d]
		}
	}
	if got, ok := impl.NearestSignals(n, l); !slices.Equal(got, want) || ok != (len(l) > 0) {
		t.Errorf("NearestSignals(%d, %v) = %v, %v, want %v", n, l, got, ok, want)
	}
}

func TestNearestSignalsInvalid(t *testing.T) {
	check := func(n int, l []int) {
		t.Helper()
		if got, ok := impl.NearestSignals(n, l); len(got) != 0 || ok {
			t.Errorf("NearestSignals(%d) of %d signals = %v, %v", n, len(l), got, ok)
		}
	}
	check(0, nil)
	check(5, []int{})
	for _, l := range invalidLists() {
		check(0, l)
		check(5, l)
		check(63, l)
	}
	for _, n := range oddInts() {
		check(n, nil)
		check(n, []int{5, 12})
		check(n, []int{n})
		check(n, repeated(63, 100))
	}
}

func TestSignalsText(t *testing.T) {
	for _, c := range []struct {
		list []int
		want string
	}{
		{nil, ""}, {[]int{}, ""}, {[]int{0}, "0"}, {[]int{63}, "63"}, {[]int{5, 12}, "5 12"}, {[]int{0, 0, 63, 10}, "0 0 63 10"},
		{repeated(63, 100), strings.Repeat("63 ", 99) + "63"}, {repeated(0, 100), strings.Repeat("0 ", 99) + "0"},
	} {
		if got, ok := impl.SignalsText(c.list); got != c.want || !ok {
			t.Errorf("SignalsText(%v) = %q, %v, want %q", c.list, got, ok, c.want)
		}
	}
	for _, l := range validLists() {
		text, ok := impl.SignalsText(l)
		if text != decimal(l) || !ok {
			t.Errorf("SignalsText(%v) = %q, %v", l, text, ok)
		}
		if back, ok := impl.ReadSignals(text); !slices.Equal(back, l) || !ok {
			t.Errorf("ReadSignals(%q) = %v, %v, want %v", text, back, ok, l)
		}
	}
	for _, l := range invalidLists() {
		if got, ok := impl.SignalsText(l); got != "" || ok {
			t.Errorf("SignalsText of %d invalid = %q, %v", len(l), got, ok)
		}
	}
}

func TestReadSignals(t *testing.T) {
	// Every text of at most four bytes that is read is one of these: three signals need five bytes.
	lists := map[string][]int{"": nil}
	for a := range 64 {
		lists[decimal([]int{a})] = []int{a}
		for b := range 64 {
			lists[decimal([]int{a, b})] = []int{a, b}
		}
	}
	textsOver("0123456789 -+", 4, func(s string) {
		want, wantOk := lists[s]
		if got, ok := impl.ReadSignals(s); !slices.Equal(got, want) || ok != wantOk {
			t.Errorf("ReadSignals(%q) = %v, %v, want %v, %v", s, got, ok, want, wantOk)
		}
	})
	for n := range 64 {
		if got, ok := impl.ReadSignals(decimal([]int{n, 63 - n, n})); !slices.Equal(got, []int{n, 63 - n, n}) || !ok {
			t.Errorf("ReadSignals of %d, %d, %d = %v, %v", n, 63-n, n, got, ok)
		}
	}
}

func TestReadSignalsInvalid(t *testing.T) {
	texts := []string{
		" ", "  ", " 5", "5 ", "5  12", "5 12 ", " 5 12", "5\t12", "5\n", "5\n12", "\n", "5,12", "5-12", "05", "00", "5 012", "+5", "-0", "-5", "5 -12",
		"64", "5 64", "64 5", "100", "630", "5.", "5.0", "0x5", "0b1", "1e1", "1_0", "a", "5 a", "five", "\x00", "5\x00", "5\x0012", "\xff", "5 \xff",
		"\u0665", "5\u00a012", "\u00a05", "#.#...", "[5 12]",
		"9223372036854775807", "9223372036854775808", "18446744073709551616", "18446744073709551621", "-9223372036854775808",
		"5 18446744073709551621", "4294967301", "99999999999999999999999999",
		strings.Repeat("9", 1000), strings.Repeat("0", 1000), strings.Repeat(" ", 1000), strings.Repeat("0 ", 100000) + "0",
		decimal(repeated(0, 101)), decimal(repeated(63, 101)), decimal(repeated(5, 100)) + " ", " " + decimal(repeated(5, 100)), decimal(repeated(5, 99)) + " 64",
	}
	for _, s := range texts {
		if got, ok := impl.ReadSignals(s); len(got) != 0 || ok {
			t.Errorf("ReadSignals(%.40q) = %v, %v", s, got, ok)
		}
	}
}

func TestNoSignalsAsNilAndEmpty(t *testing.T) {
	for _, l := range [][]int{nil, {}, make([]int, 0, 200)} {
		if n, ok := impl.MovementsOf(l); n != 0 || !ok {
			t.Errorf("MovementsOf(%#v) = %d, %v", l, n, ok)
		}
		if nearest, ok := impl.NearestSignals(5, l); len(nearest) != 0 || ok {
			t.Errorf("NearestSignals(5, %#v) = %v, %v", l, nearest, ok)
		}
		if s, ok := impl.SignalsText(l); s != "" || !ok {
			t.Errorf("SignalsText(%#v) = %q, %v", l, s, ok)
		}
	}
	if l, ok := impl.ReadSignals(""); len(l) != 0 || !ok {
		t.Errorf("ReadSignals of no text = %v, %v", l, ok)
	}
}

func TestSignalFunctionsKeepArguments(t *testing.T) {
	for _, l := range append(validLists(), invalidLists()...) {
		checkUntouched(t, "MovementsOf", l, func(l []int) { impl.MovementsOf(l) })
		checkUntouched(t, "SignalsText", l, func(l []int) { impl.SignalsText(l) })
		for _, n := range []int{-1, 0, 5, 63, 64} {
			checkUntouched(t, "NearestSignals", l, func(l []int) { impl.NearestSignals(n, l) })
		}
	}
}

func TestSignalResultsHaveOwnMemory(t *testing.T) {
	for _, l := range validLists() {
		for _, n := range []int{0, 5, 63} {
			checkOwnMemory(t, "NearestSignals", l, func(l []int) []int { nearest, _ := impl.NearestSignals(n, l); return nearest })
		}
	}
	identity := []int{0, 1, 2, 3, 4, 5}
	checkOwnMemory(t, "NearestSignals", []int{5, 5, 5, 5, 5, 5}, func(l []int) []int {
		nearest, ok := impl.NearestSignals(5, l)
		if !slices.Equal(nearest, identity) || !ok {
			t.Errorf("NearestSignals = %v, %v", nearest, ok)
		}
		return nearest
	})
	for n := range 64 {
		checkOwnMemory(t, "ClosedShutters", []int{n}, func(l []int) []int { closed, _ := impl.ClosedShutters(n); return closed })
		checkOwnMemory(t, "ChangedShutters", []int{n}, func(l []int) []int { changed, _ := impl.ChangedShutters(n, 63); return changed })
		text := decimal([]int{n, 0, 63})
		checkOwnMemory(t, "ReadSignals", []int{n}, func(l []int) []int { read, _ := impl.ReadSignals(text); return read })
	}
}

func TestSignalFunctionsAcceptAllArguments(t *testing.T) {
	numbers := append(oddInts(), 0, 1, 5, 60, 61, 62, 63)
	lists := append(validLists(), invalidLists()...)
	for _, a := range numbers {
		impl.IsContent(a)
		impl.ClosedShutters(a)
		impl.SignalText(a)
		impl.MirrorSignal(a)
		impl.TurnSignal(a)
		for _, b := range numbers {
			impl.SignalDistance(a, b)
			impl.ChangedShutters(a, b)
		}
		for _, l := range lists {
			impl.NearestSignals(a, l)
		}
	}
	for _, l := range lists {
		impl.MovementsOf(l)
		impl.SignalsText(l)
	}
	textsOver("#. 0\x80\xff\xe2", 5, func(s string) {
		impl.ReadSignal(s)
		impl.ReadSignals(s)
	})
}
