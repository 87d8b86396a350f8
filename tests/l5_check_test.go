package tests

import (
	"slices"
	"testing"

	"loop.example/g00940/impl"
)

// sumsOf returns the sum and the weighted sum of a word step by step, without the program: the weighted one is the sum of all sums of last signals.
func sumsOf(word []int) (int, int) {
	sum, weighted := 0, 0
	for i := len(word) - 1; i >= 0; i-- {
		if word[i] != 61 {
			sum = (sum + word[i]) % 61
		}
		weighted = (weighted + sum) % 61
	}
	return sum, weighted
}

func isPair(word []int) bool {
	sum, weighted := sumsOf(word)
	return sum == 0 && weighted == 0
}

// withSignal returns a copy of a word with another signal at an index.
func withSignal(word []int, i int, n int) []int {
	changed := slices.Clone(word)
	changed[i] = n
	return changed
}

// behind returns a copy of a word with further signals behind it.
func behind(word []int, signals ...int) []int { return slices.Concat(word, signals) }

// correctedByTrying returns all words that hold as a pair and differ from a word in at most one signal.
func correctedByTrying(word []int) [][]int {
	if isPair(word) {
		return [][]int{word}
	}
	var corrected [][]int
	changed := slices.Clone(word)
	for i := range word {
		for n := 1; n <= 61; n++ {
			changed[i] = n
			if isPair(changed) {
				corrected = append(corrected, slices.Clone(changed))
			}
		}
		changed[i] = word[i]
	}
	return corrected
}

// someWord returns so many signals of a word that look mixed; the seed makes them others.
func someWord(length int, seed int) []int {
	word := someWeights(length, 61, 100*seed+length)
	for i := range word {
		word[i]++
	}
	return word
}

// heldWord returns a mixed word of so many signals, but not of 1, that holds as a pair, by trying its first two signals.
func heldWord(length int, seed int) []int {
	word := someWord(length, seed)
	if length == 0 || isPair(word) {
		return word
	}
	for word[0] = 1; word[0] <= 61; word[0]++ {
		for word[1] = 1; word[1] <= 61; word[1]++ {
			if isPair(word) {
				return word
			}
		}
	}
	panic("no word holds")
}

// validWords returns words of all lengths, the empty ones, all those of one signal and those of equal signals among them.
func validWords() [][]int {
	words := [][]int{nil, {}}
	for n := 1; n <= 61; n++ {
		words = append(words, []int{n}, []int{n, 62 - n}, repeated(n, 47), repeated(n, 48), repeated(n, 49), repeated(n, 50))
	}
	for length := 2; length <= 50; length++ {
		words = append(words, someWord(length, 1), someWord(length, 2), heldWord(length, 1), repeated(61, length), repeated(1, length))
	}
	return words
}

// invalidWords returns lists that are no words: of too many signals, or with a number that is no signal of a word somewhere.
func invalidWords() [][]int {
	words := [][]int{repeated(1, 51), repeated(61, 51), someWord(51, 1), heldWord(51, 1), repeated(0, 51), repeated(61, 100000)}
	for _, n := range append(beyond(1, 61), 0, 62, 63, -1) {
		words = append(words, []int{n})
		for _, length := range []int{1, 2, 3, 4, 47, 48, 49, 50} {
			words = append(words, withOne(someWord(length, 3), n)...)
		}
	}
	// Numbers that are 0 or a valid signal modulo 61, in words that would hold.
	for _, bad := range []int{0, 122, -61} {
		words = append(words, []int{5, 7, 32, 17, bad}, []int{bad, bad}, repeated(bad, 50))
	}
	return append(words, []int{5, 7, 32, 17 + 61}, []int{5 - 61, 7, 32, 17}, []int{5, 7 + 122, 32, 17})
}

// checkArguments are what the functions of chapter 5 get, so that checkPure sees all of it.
type checkArguments struct {
	Word  []int
	I     int
	K     int
	Words [][]int
}

// checkCalls calls all functions of chapter 5.
func checkCalls() map[string]func(a checkArguments) []any {
	return map[string]func(a checkArguments) []any{
		"SumCheck":      func(a checkArguments) []any { n, ok := impl.SumCheck(a.Word); return []any{n, ok} },
		"SumHolds":      func(a checkArguments) []any { is, ok := impl.SumHolds(a.Word); return []any{is, ok} },
		"PairChecks":    func(a checkArguments) []any { n, m, ok := impl.PairChecks(a.Word); return []any{n, m, ok} },
		"WithPair":      func(a checkArguments) []any { l, ok := impl.WithPair(a.Word); return []any{l, ok} },
		"SyndromesOf":   func(a checkArguments) []any { n, m, ok := impl.SyndromesOf(a.Word); return []any{n, m, ok} },
		"CorrectOne":    func(a checkArguments) []any { l, ok := impl.CorrectOne(a.Word); return []any{l, ok} },
		"FillErased":    func(a checkArguments) []any { n, ok := impl.FillErased(a.Word, a.K); return []any{n, ok} },
		"SeesExchange":  func(a checkArguments) []any { is, ok := impl.SeesExchange(a.Word, a.I, a.K); return []any{is, ok} },
		"WrongShutters": func(a checkArguments) []any { l, ok := impl.WrongShutters(a.Word, a.K); return []any{l, ok} },
		"CheckAll":      func(a checkArguments) []any { l, ok := impl.CheckAll(a.Words); return []any{l, ok} },
	}
}

// wordCalls names the functions of chapter 5 that get a word.
func wordCalls() []string {
	return []string{"SumCheck", "SumHolds", "PairChecks", "WithPair", "SyndromesOf", "CorrectOne", "FillErased", "SeesExchange", "WrongShutters"}
}

// checkRefused fails if one of the named functions gives any result that is not a zero one.
func checkRefused(t *testing.T, a checkArguments, names ...string) {
	t.Helper()
	checkAllRefused(t, checkCalls(), a, names...)
}

func TestCheckExample(t *testing.T) {
	if n, ok := impl.SumCheck([]int{5, 7}); n != 49 || !ok {
		t.Errorf("SumCheck = %d, %v", n, ok)
	}
	if a, b, ok := impl.PairChecks([]int{5, 7}); a != 32 || b != 17 || !ok {
		t.Errorf("PairChecks = %d, %d, %v", a, b, ok)
	}
	held := []int{5, 7, 32, 17}
	if l, ok := impl.WithPair([]int{5, 7}); !slices.Equal(l, held) || !ok {
		t.Errorf("WithPair = %v, %v", l, ok)
	}
	if is, ok := impl.SumHolds(held); !is || !ok {
		t.Errorf("SumHolds = %v, %v", is, ok)
	}
	if a, b, ok := impl.SyndromesOf(held); a != 0 || b != 0 || !ok {
		t.Errorf("SyndromesOf = %d, %d, %v", a, b, ok)
	}
	wrong := []int{5, 9, 32, 17}
	if a, b, ok := impl.SyndromesOf(wrong); a != 2 || b != 4 || !ok {
		t.Errorf("SyndromesOf = %d, %d, %v", a, b, ok)
	}
	if l, ok := impl.CorrectOne(wrong); !slices.Equal(l, held) || !ok {
		t.Errorf("CorrectOne = %v, %v", l, ok)
	}
	if n, ok := impl.FillErased(wrong, 1); n != 7 || !ok {
		t.Errorf("FillErased = %d, %v", n, ok)
	}
	if is, ok := impl.SeesExchange(held, 0, 1); !is || !ok {
		t.Errorf("SeesExchange = %v, %v", is, ok)
	}
	if l, ok := impl.WrongShutters(held, 0); !slices.Equal(l, []int{1, 4, 7, 13, 21, 37}) || !ok {
		t.Errorf("WrongShutters = %v, %v", l, ok)
	}
	if l, ok := impl.CheckAll([][]int{held, wrong, {1}, {1, 60}}); !slices.Equal(l, []int{1, 2, 1}) || !ok {
		t.Errorf("CheckAll = %v, %v", l, ok)
	}
	if impl.MaxChecked != 50 {
		t.Errorf("MaxChecked = %d", impl.MaxChecked)
	}
}

// checkSums compares what the program tells of the sums of a word with its sums.
func checkSums(t *testing.T, word []int) {
	t.Helper()
	sum, weighted := sumsOf(word)
	if a, b, ok := impl.SyndromesOf(word); a != sum || b != weighted || !ok {
		t.Errorf("SyndromesOf(%v) = %d, %d, %v, want %d, %d", word, a, b, ok, sum, weighted)
	}
	if is, ok := impl.SumHolds(word); is != (sum == 0) || !ok {
		t.Errorf("SumHolds(%v) = %v, %v", word, is, ok)
	}
}

func TestSumsOfWords(t *testing.T) {
	for _, word := range validWords() {
		checkSums(t, word)
	}
	for length := range 3 {
		listsOver(length, 1, 61, func(word []int) { checkSums(t, word) })
	}
	listsOver(3, 20, 42, func(word []int) { checkSums(t, word) })
}

func TestSumsByWords(t *testing.T) {
	for _, c := range []struct {
		word          []int
		sum, weighted int
	}{
		{nil, 0, 0},
		{[]int{}, 0, 0},
		{[]int{61}, 0, 0},
		{[]int{1}, 1, 1},
		{[]int{60}, 60, 60},
		{[]int{1, 60}, 0, 60},
		{[]int{61, 1}, 1, 2},
		{[]int{1, 61}, 1, 1},
		{[]int{1, 59, 1}, 0, 0},
		{[]int{30, 31}, 0, 31},
		{[]int{30, 32}, 1, 33},
		{repeated(61, 50), 0, 0},
		// 50 is the sum of the signals and 1275 that of the places, which is 55 more than 20 times 61.
		{repeated(1, 50), 50, 55},
		{repeated(60, 50), 11, 6},
	} {
		if a, b, ok := impl.SyndromesOf(c.word); a != c.sum || b != c.weighted || !ok {
			t.Errorf("SyndromesOf(%v) = %d, %d, %v, want %d, %d", c.word, a, b, ok, c.sum, c.weighted)
		}
		checkSums(t, c.word)
	}
}

// checkFollowing compares the signal that follows a word with all that make it hold by its sum.
func checkFollowing(t *testing.T, word []int) {
	t.Helper()
	n, ok := impl.SumCheck(word)
	for m := 1; m <= 61; m++ {
		sum, _ := sumsOf(behind(word, m))
		if (sum == 0) != (m == n) || !ok {
			t.Errorf("SumCheck(%v) = %d, %v; with %d the sum is %d", word, n, ok, m, sum)
		}
		if is, ok := impl.SumHolds(behind(word, m)); is != (m == n) || !ok {
			t.Errorf("SumHolds(%v) = %v, %v", behind(word, m), is, ok)
		}
	}
}

func TestSumCheck(t *testing.T) {
	zeros, most := 0, 0
	for _, word := range validWords() {
		if len(word) == 50 {
			checkRefused(t, checkArguments{Word: word}, "SumCheck")
			continue
		}
		checkFollowing(t, word)
		if n, _ := impl.SumCheck(word); n == 61 {
			zeros++
		}
		if len(word) == 49 {
			most++
		}
	}
	if zeros < 10 || most < 10 {
		t.Errorf("%d checks are 61, and %d words have the most signals", zeros, most)
	}
	listsOver(2, 1, 61, func(word []int) { checkFollowing(t, word) })
	for _, c := range []struct {
		word []int
		want int
	}{
		{nil, 61},
		{[]int{}, 61},
		{[]int{61}, 61},
		{[]int{60}, 1},
		{[]int{1}, 60},
		{[]int{30, 31}, 61},
		{[]int{61, 61, 30}, 31},
		{repeated(61, 49), 61},
		{repeated(1, 49), 12},
		{repeated(60, 49), 49},
	} {
		if n, ok := impl.SumCheck(c.word); n != c.want || !ok {
			t.Errorf("SumCheck(%v) = %d, %v, want %d", c.word, n, ok, c.want)
		}
	}
}

// checkPairBehind checks that the two signals behind a word are signals that make it hold.
func checkPairBehind(t *testing.T, word []int) (int, int) {
	t.Helper()
	a, b, ok := impl.PairChecks(word)
	want := behind(word, a, b)
	if !ok || a < 1 || a > 61 || b < 1 || b > 61 || !isPair(want) {
		t.Errorf("PairChecks(%v) = %d, %d, %v", word, a, b, ok)
		return a, b
	}
	l, ok := impl.WithPair(word)
	if !slices.Equal(l, want) || !ok {
		t.Errorf("WithPair(%v) = %v, %v, want %v", word, l, ok, want)
	}
	checkSums(t, l)
	if corrected, ok := impl.CorrectOne(l); !slices.Equal(corrected, l) || !ok {
		t.Errorf("CorrectOne(%v) = %v, %v", l, corrected, ok)
	}
	if counts, ok := impl.CheckAll([][]int{l}); !slices.Equal(counts, []int{1, 0, 0}) || !ok {
		t.Errorf("CheckAll of %v = %v, %v", l, counts, ok)
	}
	return a, b
}

func TestPairChecks(t *testing.T) {
	firstZeros, secondZeros, most := 0, 0, 0
	for _, word := range validWords() {
		if len(word) > 48 {
			checkRefused(t, checkArguments{Word: word}, "PairChecks", "WithPair")
			continue
		}
		a, b := checkPairBehind(t, word)
		if a == 61 {
			firstZeros++
		}
		if b == 61 {
			secondZeros++
		}
		if len(word) == 48 {
			most++
		}
	}
	if firstZeros < 5 || secondZeros < 5 || most < 10 {
		t.Errorf("%d first and %d second checks are 61, and %d words have the most signals", firstZeros, secondZeros, most)
	}
	listsOver(2, 1, 61, func(word []int) { checkPairBehind(t, word) })
	for _, c := range []struct {
		word []int
		a, b int
	}{
		{nil, 61, 61},
		{[]int{}, 61, 61},
		{[]int{61}, 61, 61},
		{[]int{1}, 59, 1},
		{[]int{60}, 2, 60},
		{[]int{1, 59, 1}, 61, 61},
		{[]int{1, 60}, 60, 1},
		// Only the first one is 61, and then only the second one.
		{[]int{19, 2}, 61, 40},
		{[]int{30, 1}, 30, 61},
		{repeated(61, 48), 61, 61},
		{repeated(1, 48), 57, 17},
		{repeated(60, 48), 4, 44},
	} {
		a, b, ok := impl.PairChecks(c.word)
		if a != c.a || b != c.b || !ok {
			t.Errorf("PairChecks(%v) = %d, %d, %v, want %d, %d", c.word, a, b, ok, c.a, c.b)
		}
	}
}

// TestOnlyOnePair tries all pairs of signals behind some words.
func TestOnlyOnePair(t *testing.T) {
	for _, word := range [][]int{nil, {61}, {5, 7}, {1, 2, 3}, someWord(20, 1), someWord(47, 1), someWord(48, 1), repeated(61, 48)} {
		a, b, ok := impl.PairChecks(word)
		listsOver(2, 1, 61, func(l []int) {
			if isPair(behind(word, l...)) != (l[0] == a && l[1] == b) || !ok {
				t.Errorf("PairChecks(%v) = %d, %d, %v and not %v", word, a, b, ok, l)
			}
		})
	}
}

// checkCorrected compares CorrectOne and CheckAll of a word with the words that hold and are wanted; there is at most one.
func checkCorrected(t *testing.T, word []int, want [][]int) {
	t.Helper()
	if len(want) > 1 {
		t.Fatalf("%v is corrected in the ways %v", word, want)
	}
	counts := []int{0, 0, 1}
	if len(want) == 0 {
		checkRefused(t, checkArguments{Word: word}, "CorrectOne")
	} else {
		if l, ok := impl.CorrectOne(word); !slices.Equal(l, want[0]) || !ok {
			t.Errorf("CorrectOne(%v) = %v, %v, want %v", word, l, ok, want[0])
		}
		counts = []int{0, 1, 0}
		if slices.Equal(word, want[0]) {
			counts = []int{1, 0, 0}
		}
	}
	if l, ok := impl.CheckAll([][]int{word}); !slices.Equal(l, counts) || !ok {
		t.Errorf("CheckAll of %v = %v, %v, want %v", word, l, ok, counts)
	}
}

func TestCorrectOne(t *testing.T) {
	for _, word := range validWords() {
		checkCorrected(t, word, correctedByTrying(word))
	}
	for length := range 3 {
		listsOver(length, 1, 61, func(word []int) { checkCorrected(t, word, correctedByTrying(word)) })
	}
	listsOver(3, 25, 38, func(word []int) { checkCorrected(t, word, correctedByTrying(word)) })
}

// TestWrongSignalsAreCorrected puts every other signal at every place of words that hold.
func TestWrongSignalsAreCorrected(t *testing.T) {
	toZero := 0
	for length := 1; length <= 50; length++ {
		words := [][]int{repeated(61, length)}
		if length > 1 {
			words = append(words, heldWord(length, 1), heldWord(length, 2))
		}
		if length > 2 {
			l, _ := impl.WithPair(someWord(length-2, 4))
			words = append(words, l)
		}
		for _, word := range words {
			if !isPair(word) || len(word) != length {
				t.Fatalf("%v is no word of %d signals that holds", word, length)
			}
			for i := range word {
				for n := 1; n <= 61; n++ {
					checkCorrected(t, withSignal(word, i, n), [][]int{word})
				}
				if word[i] == 61 {
					toZero++
				}
			}
		}
	}
	if toZero < 100 {
		t.Errorf("only %d words are corrected to 61", toZero)
	}
}

// TestTwoWrongSignals finds words with two wrong signals that are corrected to another word, and some that cannot be.
func TestTwoWrongSignals(t *testing.T) {
	corrected, lost, noSum, noWeighted := 0, 0, 0, 0
	check := func(word []int) {
		want := correctedByTrying(word)
		checkCorrected(t, word, want)
		sum, weighted := sumsOf(word)
		switch {
		case len(want) > 0:
			corrected++
		case sum == 0:
			noSum++
		case weighted == 0:
			noWeighted++
		default:
			lost++
		}
	}
	for _, length := range []int{2, 3, 4, 5, 10, 30, 49, 50} {
		word := heldWord(length, 5)
		for _, places := range [][2]int{{0, 1}, {0, length - 1}, {length - 2, length - 1}, {length / 2, length - 1}, {0, length / 2}} {
			for n := 1; n <= 61 && places[0] != places[1]; n += 1 + length/6 {
				for _, m := range []int{1, 2, 30, 59, 60, 61} {
					check(withSignal(withSignal(word, places[0], n), places[1], m))
				}
				// Two changes that leave the sum as it is.
				less := (word[places[0]]+word[places[1]]-n+121)%61 + 1
				check(withSignal(withSignal(word, places[0], n), places[1], less))
			}
		}
	}
	if corrected < 100 || lost < 100 || noSum < 100 || noWeighted < 10 {
		t.Errorf("%d words are corrected; not so %d, %d of the sum 0 and %d of the weighted sum 0", corrected, lost, noSum, noWeighted)
	}
}

func TestCorrectOneByWords(t *testing.T) {
	for _, c := range []struct {
		word []int
		want []int
		ok   bool
	}{
		{nil, nil, true},
		{[]int{}, nil, true},
		{[]int{61}, []int{61}, true},
		{[]int{1}, []int{61}, true},
		{[]int{60}, []int{61}, true},
		{[]int{5, 7, 32, 17}, []int{5, 7, 32, 17}, true},
		// A wrong signal at the first and at the last place.
		{[]int{61, 7, 32, 17}, []int{5, 7, 32, 17}, true},
		{[]int{5, 7, 32, 60}, []int{5, 7, 32, 17}, true},
		{[]int{61, 3}, []int{61, 61}, true},
		{[]int{3, 61}, []int{61, 61}, true},
		{behind(repeated(61, 49), 1), repeated(61, 50), true},
		{behind([]int{60}, repeated(61, 49)...), repeated(61, 50), true},
		// Two wrong signals: the sum is 0, the weighted sum is 0, and a place that the word does not have.
		{[]int{1, 60}, nil, false},
		{[]int{2, 60}, nil, false},
		{[]int{2, 61, 61, 60}, nil, false},
		// The place would be the one behind the last one; in a longer word it is there.
		{[]int{60, 2}, nil, false},
		{[]int{60, 2, 61}, []int{60, 2, 60}, true},
		{slices.Concat([]int{56}, repeated(61, 48), []int{6}), nil, false},
	} {
		l, ok := impl.CorrectOne(c.word)
		if !slices.Equal(l, c.want) || ok != c.ok {
			t.Errorf("CorrectOne(%v) = %v, %v, want %v, %v", c.word, l, ok, c.want, c.ok)
		}
	}
}

// checkErased compares FillErased with the only signal that makes a word hold by its sum.
func checkErased(t *testing.T, word []int, k int) {
	t.Helper()
	n, ok := impl.FillErased(word, k)
	for m := 1; m <= 61; m++ {
		sum, _ := sumsOf(withSignal(word, k, m))
		if (sum == 0) != (m == n) || !ok {
			t.Errorf("FillErased(%v, %d) = %d, %v; with %d the sum is %d", word, k, n, ok, m, sum)
		}
	}
}

func TestFillErased(t *testing.T) {
	for _, word := range validWords() {
		for k := range word {
			checkErased(t, word, k)
		}
	}
	// What stands at the index does not matter.
	for _, length := range []int{1, 2, 3, 20, 50} {
		word := someWord(length, 6)
		for _, k := range []int{0, length / 2, length - 1} {
			want, _ := impl.FillErased(word, k)
			for m := 1; m <= 61; m++ {
				if n, ok := impl.FillErased(withSignal(word, k, m), k); n != want || !ok {
					t.Errorf("FillErased(%v, %d) = %d, %v, want %d", withSignal(word, k, m), k, n, ok, want)
				}
			}
			if is, ok := impl.SumHolds(withSignal(word, k, want)); !is || !ok {
				t.Errorf("SumHolds of %v with %d at %d = %v, %v", word, want, k, is, ok)
			}
		}
	}
	for _, c := range []struct {
		word []int
		k    int
		want int
	}{
		{[]int{1}, 0, 61},
		{[]int{61}, 0, 61},
		{[]int{5, 7, 49}, 0, 5},
		{[]int{5, 7, 1}, 2, 49},
		{[]int{5, 61, 49}, 1, 7},
		{[]int{30, 2, 31}, 1, 61},
		{repeated(61, 50), 49, 61},
		{repeated(1, 50), 0, 12},
	} {
		if n, ok := impl.FillErased(c.word, c.k); n != c.want || !ok {
			t.Errorf("FillErased(%v, %d) = %d, %v, want %d", c.word, c.k, n, ok, c.want)
		}
	}
}

func TestSeesExchange(t *testing.T) {
	seen, same, refused := 0, 0, 0
	for _, word := range append(validWords(), []int{5, 7, 32, 17}, []int{61, 61, 61}, []int{1, 59, 1}, []int{1, 59, 1, 61}) {
		for i := range word {
			for k := range word {
				if !isPair(word) {
					refused++
					checkRefused(t, checkArguments{Word: word, I: i, K: k}, "SeesExchange")
					continue
				}
				exchanged := withSignal(withSignal(word, i, word[k]), k, word[i])
				is, ok := impl.SeesExchange(word, i, k)
				if is != !isPair(exchanged) || !ok {
					t.Errorf("SeesExchange(%v, %d, %d) = %v, %v", word, i, k, is, ok)
				}
				if is != (word[i] != word[k]) {
					t.Errorf("SeesExchange(%v, %d, %d) = %v", word, i, k, is)
				}
				if is {
					seen++
				} else if i != k {
					same++
				}
			}
		}
	}
	if seen < 100 || same < 100 || refused < 100 {
		t.Errorf("%d exchanges are seen, %d of equal signals are not, %d words do not hold", seen, same, refused)
	}
}

func TestSeesExchangeByWords(t *testing.T) {
	for _, c := range []struct {
		word []int
		i, k int
		want bool
		ok   bool
	}{
		{[]int{61}, 0, 0, false, true},
		{[]int{5, 7, 32, 17}, 2, 2, false, true},
		{[]int{5, 7, 32, 17}, 0, 3, true, true},
		{[]int{5, 7, 32, 17}, 3, 0, true, true},
		{[]int{1, 59, 1}, 0, 2, false, true},
		{[]int{1, 59, 1}, 1, 2, true, true},
		{[]int{61, 1, 59, 1}, 0, 1, true, true},
		// Words that do not hold: neither, or by the sum alone, or by the weighted sum alone.
		{[]int{5, 9, 32, 17}, 0, 1, false, false},
		{[]int{1, 60}, 0, 1, false, false},
		{[]int{1, 60}, 1, 1, false, false},
		{[]int{2, 60}, 0, 1, false, false},
	} {
		is, ok := impl.SeesExchange(c.word, c.i, c.k)
		if is != c.want || ok != c.ok {
			t.Errorf("SeesExchange(%v, %d, %d) = %v, %v, want %v, %v", c.word, c.i, c.k, is, ok, c.want, c.ok)
		}
	}
}

func TestWrongShutters(t *testing.T) {
	for n := 1; n <= 61; n++ {
		var want []int
		for m := 1; m <= 61; m++ {
			if len(changedIn(n, m)) == 1 {
				want = append(want, m)
			}
		}
		for _, word := range [][]int{{n}, {n, 1, 2}, {1, n, 2}, {1, 2, n}, behind([]int{n}, someWord(49, 7)...), behind(someWord(49, 7), n)} {
			for k := range word {
				if word[k] != n {
					continue
				}
				if l, ok := impl.WrongShutters(word, k); !slices.Equal(l, want) || !ok {
					t.Errorf("WrongShutters(%v, %d) = %v, %v, want %v", word, k, l, ok, want)
				}
			}
		}
	}
	for n, want := range map[int][]int{
		// Changes that give 0, 62 and 63 are left out.
		1:  {3, 5, 9, 17, 33},
		2:  {3, 6, 10, 18, 34},
		32: {33, 34, 36, 40, 48},
		61: {29, 45, 53, 57, 60},
		60: {28, 44, 52, 56, 61},
		58: {26, 42, 50, 56, 59},
		59: {27, 43, 51, 57, 58},
		55: {23, 39, 51, 53, 54},
		30: {14, 22, 26, 28, 31},
		31: {15, 23, 27, 29, 30},
		5:  {1, 4, 7, 13, 21, 37},
		29: {13, 21, 25, 28, 31, 61},
	} {
		if l, ok := impl.WrongShutters([]int{7, n, 7}, 1); !slices.Equal(l, want) || !ok {
			t.Errorf("WrongShutters of %d = %v, %v, want %v", n, l, ok, want)
		}
	}
}

// kindOf returns the index at which CheckAll counts a word, by trying.
func kindOf(word []int) int {
	switch {
	case isPair(word):
		return 0
	case len(correctedByTrying(word)) > 0:
		return 1
	}
	return 2
}

func checkCounts(t *testing.T, words [][]int, want []int) {
	t.Helper()
	if l, ok := impl.CheckAll(words); !slices.Equal(l, want) || !ok {
		t.Errorf("CheckAll(%v) = %v, %v, want %v", words, l, ok, want)
	}
}

func TestCheckAll(t *testing.T) {
	checkCounts(t, nil, []int{0, 0, 0})
	checkCounts(t, [][]int{}, []int{0, 0, 0})
	checkCounts(t, [][]int{nil}, []int{1, 0, 0})
	checkCounts(t, [][]int{{}, nil}, []int{2, 0, 0})
	checkCounts(t, make([][]int, 20), []int{20, 0, 0})
	held, correctable, lost := []int{5, 7, 32, 17}, []int{5, 9, 32, 17}, []int{1, 60}
	for count := range 21 {
		for first := range count + 1 {
			for second := range count - first + 1 {
				words := slices.Concat(slices.Repeat([][]int{held}, first), slices.Repeat([][]int{lost}, count-first-second), slices.Repeat([][]int{correctable}, second))
				checkCounts(t, words, []int{first, second, count - first - second})
				slices.Reverse(words)
				checkCounts(t, words, []int{first, second, count - first - second})
			}
		}
	}
	words := validWords()
	for from := 0; from+20 <= len(words); from += 11 {
		want := make([]int, 3)
		for count := 1; count <= 20; count++ {
			want[kindOf(words[from+count-1])]++
			checkCounts(t, words[from:from+count], want)
		}
	}
}

func TestInvalidWords(t *testing.T) {
	for _, word := range invalidWords() {
		for _, k := range []int{0, 1, len(word) / 2, len(word) - 1} {
			checkRefused(t, checkArguments{Word: word, I: k, K: k}, wordCalls()...)
			checkRefused(t, checkArguments{Word: word, I: 0, K: k}, wordCalls()...)
		}
		for _, words := range [][][]int{{word}, {word, {5, 7}}, {nil, word, {5, 7}}, {{5, 7}, word}, append(slices.Repeat([][]int{{61}}, 19), word)} {
			checkRefused(t, checkArguments{Words: words}, "CheckAll")
		}
	}
}

func TestWordsOfTooManySignals(t *testing.T) {
	for _, c := range []struct {
		most  int
		names []string
	}{
		{48, []string{"PairChecks", "WithPair"}},
		{49, []string{"SumCheck"}},
		{50, []string{"SumHolds", "SyndromesOf", "CorrectOne", "FillErased", "SeesExchange", "WrongShutters", "CheckAll"}},
	} {
		for length := range 55 {
			for _, word := range [][]int{repeated(61, length), heldWord(max(length, 2), 8)} {
				if len(word) != length {
					continue
				}
				a := checkArguments{Word: word, I: 0, K: max(length-1, 0), Words: [][]int{word}}
				for _, name := range c.names {
					results := checkCalls()[name](a)
					needsIndex := slices.Contains([]string{"FillErased", "SeesExchange", "WrongShutters"}, name)
					if results[len(results)-1] != (length <= c.most && (length > 0 || !needsIndex)) {
						t.Errorf("%s of %d signals = %v", name, length, results)
					}
					if length > c.most {
						checkRefused(t, a, name)
					}
				}
			}
		}
	}
}

func TestInvalidIndices(t *testing.T) {
	for _, word := range [][]int{nil, {}, {61}, {5, 7, 32, 17}, {1, 59, 1}, heldWord(49, 1), heldWord(50, 1), repeated(61, 50)} {
		last := len(word) - 1
		for _, k := range append(beyond(0, last), -1, len(word)) {
			if k >= 0 && k <= last {
				continue
			}
			checkRefused(t, checkArguments{Word: word, K: k}, "FillErased", "WrongShutters", "SeesExchange")
			checkRefused(t, checkArguments{Word: word, I: k}, "SeesExchange")
			checkRefused(t, checkArguments{Word: word, I: k, K: last}, "SeesExchange")
			checkRefused(t, checkArguments{Word: word, I: last, K: k}, "SeesExchange")
			checkRefused(t, checkArguments{Word: word, I: k, K: k}, "SeesExchange")
		}
	}
}

func TestTooManyWords(t *testing.T) {
	for _, count := range []int{21, 22, 40, 1000} {
		for _, word := range [][]int{nil, {61}, {5, 7, 32, 17}, {1, 60}, {0}} {
			checkRefused(t, checkArguments{Words: slices.Repeat([][]int{word}, count)}, "CheckAll")
		}
	}
	for at := range 20 {
		words := make([][]int, 20)
		for i := range words {
			words[i] = []int{61}
		}
		checkCounts(t, words, []int{20, 0, 0})
		for _, bad := range [][]int{{0}, {62}, {-1}, repeated(61, 51), {5, 7, 0}} {
			words[at] = bad
			checkRefused(t, checkArguments{Words: words}, "CheckAll")
		}
	}
}

// manyCheckArguments returns arguments of many kinds, valid ones and invalid ones.
func manyCheckArguments() []checkArguments {
	words := append(validWords(), []int{5, 7, 32, 17}, []int{5, 9, 32, 17}, []int{1, 60}, []int{1, 59, 1})
	for _, word := range invalidWords() {
		if len(word) < 100 {
			words = append(words, word)
		}
	}
	numbers := append([]int{0, 1, 2, 3, 49, 50}, oddInts()...)
	var all []checkArguments
	for i, word := range words {
		a := checkArguments{Word: word, I: 0, K: len(word) / 2, Words: words[i:min(i+i%22, len(words))]}
		b := checkArguments{Word: word, I: numbers[i%len(numbers)], K: numbers[i*7%len(numbers)], Words: [][]int{word, {61}, word}}
		all = append(all, a, b)
	}
	return all
}

func TestCheckFunctionsArePure(t *testing.T) {
	calls := checkCalls()
	if len(calls) != 10 || len(wordCalls()) != 9 {
		t.Errorf("%d functions, %d of a word", len(calls), len(wordCalls()))
	}
	checkAllPure(t, calls, manyCheckArguments(), 20)
}

// TestCheckInOneMemory gives words that lie in one array, one over another.
func TestCheckInOneMemory(t *testing.T) {
	memory := []int{5, 7, 32, 17, 61, 5, 9, 32, 17}
	before := slices.Clone(memory)
	// The two signals must not be written behind the word, though there is room for them.
	paired, ok := impl.WithPair(memory[:2])
	if !slices.Equal(paired, []int{5, 7, 32, 17}) || !ok {
		t.Errorf("WithPair = %v, %v", paired, ok)
	}
	other, ok := impl.WithPair(memory[3:4])
	if len(other) != 3 || !isPair(other) || !ok {
		t.Errorf("WithPair = %v, %v", other, ok)
	}
	// A word that holds already is given back as a copy.
	held, ok := impl.CorrectOne(memory[:4])
	if !slices.Equal(held, memory[:4]) || !ok {
		t.Errorf("CorrectOne = %v, %v", held, ok)
	}
	corrected, ok := impl.CorrectOne(memory[5:])
	if !slices.Equal(corrected, []int{5, 7, 32, 17}) || !ok {
		t.Errorf("CorrectOne = %v, %v", corrected, ok)
	}
	counts, ok := impl.CheckAll([][]int{memory[:4], memory[5:], memory[:5], memory[4:5], memory[:0]})
	if !slices.Equal(counts, []int{4, 1, 0}) || !ok {
		t.Errorf("CheckAll = %v, %v", counts, ok)
	}
	shutters, ok := impl.WrongShutters(memory, 0)
	if !slices.Equal(shutters, []int{1, 4, 7, 13, 21, 37}) || !ok {
		t.Errorf("WrongShutters = %v, %v", shutters, ok)
	}
	for _, l := range [][]int{paired, other, held, corrected, counts, shutters} {
		for i := range l[:cap(l)] {
			l[:cap(l)][i] = -1
		}
	}
	if !slices.Equal(memory, before) {
		t.Errorf("the arguments are %v now", memory)
	}
	// The table of inverses and all else must be as it was.
	checkCorrected(t, memory[5:], [][]int{{5, 7, 32, 17}})
}

func TestCheckFunctionsAcceptAllArguments(t *testing.T) {
	calls := checkCalls()
	check := func(a checkArguments) { checkAccepted(t, calls, a) }
	check(checkArguments{})
	numbers := append(oddInts(), 0, 1, 2, 30, 49, 50, 51, 60, 61, 62, 122)
	for _, n := range numbers {
		for _, m := range numbers {
			check(checkArguments{Word: []int{5, 7, 32, 17}, I: n, K: m, Words: [][]int{{n, m}, {m}}})
			check(checkArguments{Word: []int{n, m}, I: 0, K: 1, Words: [][]int{{n}, {m}, {n, m}}})
		}
		check(checkArguments{Word: repeated(n, 50), I: 49, K: 0, Words: slices.Repeat([][]int{{n}}, 20)})
	}
	for _, a := range manyCheckArguments() {
		check(a)
	}
	for _, word := range invalidWords() {
		check(checkArguments{Word: word, Words: [][]int{word}})
	}
}
