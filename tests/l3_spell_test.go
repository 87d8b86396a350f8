package tests

import (
	"fmt"
	"reflect"
	"slices"
	"strings"
	"testing"

	"loop.example/g00940/impl"
)

// spellingsOf returns all lists of phrases that spell letters, in lexicographic order, by trying every phrase at each place.
func spellingsOf(b impl.Book, s string) [][]int {
	if s == "" {
		return [][]int{{}}
	}
	var lists [][]int
	for i, x := range b.Phrases {
		if behind, fits := strings.CutPrefix(s, x.Text); fits {
			for _, l := range spellingsOf(b, behind) {
				lists = append(lists, append([]int{i}, l...))
			}
		}
	}
	return lists
}

// readingsOf returns all readings of signals, in lexicographic order, by trying every phrase at each place.
func readingsOf(b impl.Book, signals []int) [][]int {
	if len(signals) == 0 {
		return [][]int{{}}
	}
	var lists [][]int
	for i, x := range b.Phrases {
		n := len(x.Signals)
		if n <= len(signals) && reflect.DeepEqual(x.Signals, signals[:n]) {
			for _, l := range readingsOf(b, signals[n:]) {
				lists = append(lists, append([]int{i}, l...))
			}
		}
	}
	return lists
}

// textsIn and signalsIn join what the phrases with some indices have, without the program.
func textsIn(b impl.Book, l []int) string {
	text := ""
	for _, i := range l {
		text += b.Phrases[i].Text
	}
	return text
}

func signalsIn(b impl.Book, l []int) []int {
	signals := []int{}
	for _, i := range l {
		signals = slices.Concat(signals, b.Phrases[i].Signals)
	}
	return signals
}

// letterBooks calls f with every book of at most so many phrases that have 1 to 3 of the letters a and b, with Signals of many lengths.
func letterBooks(most int, f func(b impl.Book)) {
	var texts []string
	textsOver("ab", 3, func(s string) {
		if s != "" {
			texts = append(texts, s)
		}
	})
	slices.Sort(texts)
	books := 0
	phrase := func(place int, i int) impl.Phrase {
		books++
		// Mixed lengths, so that longer lists of phrases are shorter ones of Signals, or equally long.
		length := 1 + books*books/7%3
		return impl.Phrase{Text: texts[i], Signals: []int{60 - i, 7, 8}[:length]}
	}
	booksOutOf(len(texts), most, phrase, f)
}

// sameLetters returns a book of phrases that are 1 to so many letters a, and have the given numbers of Signals.
func sameLetters(lengths ...int) impl.Book {
	var b impl.Book
	for i, length := range lengths {
		b.Phrases = append(b.Phrases, impl.Phrase{Text: strings.Repeat("a", i+1), Signals: []int{i + 1, 60, 59}[:length]})
	}
	return b
}

// invalidLetters are strings that are no letters: too long, or with another byte somewhere.
func invalidLetters() []string {
	texts := []string{strings.Repeat("a", 41), strings.Repeat("ab", 21), strings.Repeat("z", 64), strings.Repeat("a", 100000), strings.Repeat("a", 256), strings.Repeat("a", 40) + "\x00", strings.Repeat("a", 39) + "\u00e9"}
	for _, s := range invalidPhraseTexts() {
		if strings.IndexFunc(s, func(r rune) bool { return r < 'a' || r > 'z' }) >= 0 {
			texts = append(texts, s, "ab"+s)
		}
	}
	return texts
}

// invalidReads are lists that are no signals of a reading: too long, or with a number that is no content somewhere.
func invalidReads() [][]int {
	lists := [][]int{repeated(1, 61), repeated(2, 61), repeated(60, 100), repeated(1, 100000), repeated(0, 61)}
	for _, n := range append(oddInts(), 0, 61, 62, 63) {
		lists = append(lists, []int{n}, []int{1, n}, []int{n, 1}, []int{1, 2, 3, n}, append(repeated(1, 59), n))
	}
	return lists
}

// spellArguments are what the functions of chapter 3 get, so that checkPure sees all of it.
type spellArguments struct {
	Book    impl.Book
	Letters string
	Indices []int
	Signals []int
}

// callsByLetters, callsBySignals, callsByIndices and callsByBook call the functions of chapter 3, by what they get beside the book.
func callsByLetters() map[string]func(a spellArguments) []any {
	return map[string]func(a spellArguments) []any{
		"SpellMessage":   func(a spellArguments) []any { l, ok := impl.SpellMessage(a.Book, a.Letters); return []any{l, ok} },
		"EncodeMessage":  func(a spellArguments) []any { l, ok := impl.EncodeMessage(a.Book, a.Letters); return []any{l, ok} },
		"LeastSignals":   func(a spellArguments) []any { n, ok := impl.LeastSignals(a.Book, a.Letters); return []any{n, ok} },
		"CountSpellings": func(a spellArguments) []any { n, ok := impl.CountSpellings(a.Book, a.Letters); return []any{n, ok} },
		"SpelledPart":    func(a spellArguments) []any { n, ok := impl.SpelledPart(a.Book, a.Letters); return []any{n, ok} },
		"SavedSignals":   func(a spellArguments) []any { n, ok := impl.SavedSignals(a.Book, a.Letters); return []any{n, ok} },
	}
}

func callsBySignals() map[string]func(a spellArguments) []any {
	return map[string]func(a spellArguments) []any{
		"CountReadings": func(a spellArguments) []any { n, ok := impl.CountReadings(a.Book, a.Signals); return []any{n, ok} },
		"FirstReading":  func(a spellArguments) []any { l, ok := impl.FirstReading(a.Book, a.Signals); return []any{l, ok} },
		"ReadMessage":   func(a spellArguments) []any { s, ok := impl.ReadMessage(a.Book, a.Signals); return []any{s, ok} },
	}
}

func callsByIndices() map[string]func(a spellArguments) []any {
	return map[string]func(a spellArguments) []any{
		"TextOfPhrases": func(a spellArguments) []any { s, ok := impl.TextOfPhrases(a.Book, a.Indices); return []any{s, ok} },
	}
}

func callsByBook() map[string]func(a spellArguments) []any {
	return map[string]func(a spellArguments) []any{
		"LoneLetters": func(a spellArguments) []any { s, ok := impl.LoneLetters(a.Book); return []any{s, ok} },
	}
}

// spellCalls calls all functions of chapter 3.
func spellCalls() map[string]func(a spellArguments) []any {
	calls := map[string]func(a spellArguments) []any{}
	for _, some := range []map[string]func(a spellArguments) []any{callsByLetters(), callsBySignals(), callsByIndices(), callsByBook()} {
		for name, call := range some {
			calls[name] = call
		}
	}
	return calls
}

// checkZero fails if a call gives any result that is not a zero one.
func checkZero(t *testing.T, calls map[string]func(a spellArguments) []any, a spellArguments) {
	t.Helper()
	for name, call := range calls {
		for _, result := range call(a) {
			if isZeroResult(result) {
				continue
			}
			t.Errorf("%s(%.200q, %.50q, %.100s, %.100s) gives %v", name, textOfBook(a.Book), a.Letters, decimal(a.Indices), decimal(a.Signals), result)
		}
	}
}

func TestSpellExample(t *testing.T) {
	b := bookOf("a 1", "ab 2", "b 3")
	if n, ok := impl.CountSpellings(b, "ab"); n != 2 || !ok {
		t.Errorf("CountSpellings = %d, %v", n, ok)
	}
	if l, ok := impl.SpellMessage(b, "ab"); !slices.Equal(l, []int{1}) || !ok {
		t.Errorf("SpellMessage = %v, %v", l, ok)
	}
	if l, ok := impl.EncodeMessage(b, "ab"); !slices.Equal(l, []int{2}) || !ok {
		t.Errorf("EncodeMessage = %v, %v", l, ok)
	}
	if n, ok := impl.LeastSignals(b, "ab"); n != 1 || !ok {
		t.Errorf("LeastSignals = %d, %v", n, ok)
	}
	if n, ok := impl.SavedSignals(b, "ab"); n != 1 || !ok {
		t.Errorf("SavedSignals = %d, %v", n, ok)
	}
	if s, ok := impl.LoneLetters(b); s != "ab" || !ok {
		t.Errorf("LoneLetters = %q, %v", s, ok)
	}
	for signals, text := range map[[2]int]string{{1, 3}: "ab", {3, 1}: "ba", {2, 1}: "aba", {1, 2}: "aab"} {
		if n, ok := impl.CountReadings(b, signals[:]); n != 1 || !ok {
			t.Errorf("CountReadings(%v) = %d, %v", signals, n, ok)
		}
		if s, ok := impl.ReadMessage(b, signals[:]); s != text || !ok {
			t.Errorf("ReadMessage(%v) = %q, %v, want %q", signals, s, ok, text)
		}
	}
	if impl.MaxLetters != 40 || impl.MaxRead != 60 {
		t.Errorf("MaxLetters = %d, MaxRead = %d", impl.MaxLetters, impl.MaxRead)
	}
}

// checkSpelling compares all that chapter 3 tells of letters with the lists of phrases that spell them.
func checkSpelling(t *testing.T, b impl.Book, s string) {
	t.Helper()
	lists := spellingsOf(b, s)
	if n, ok := impl.CountSpellings(b, s); n != len(lists) || !ok {
		t.Errorf("CountSpellings(%q, %q) = %d, %v, want %d", textOfBook(b), s, n, ok, len(lists))
	}
	part := len(s)
	for len(spellingsOf(b, s[:part])) == 0 {
		part--
	}
	if n, ok := impl.SpelledPart(b, s); n != part || !ok {
		t.Errorf("SpelledPart(%q, %q) = %d, %v, want %d", textOfBook(b), s, n, ok, part)
	}
	if len(lists) == 0 {
		calls := callsByLetters()
		delete(calls, "CountSpellings")
		delete(calls, "SpelledPart")
		checkZero(t, calls, spellArguments{Book: b, Letters: s})
		return
	}
	// MinFunc returns the first one of several that are least, and the lists come in lexicographic order.
	least := slices.MinFunc(lists, func(k []int, l []int) int { return len(signalsIn(b, k)) - len(signalsIn(b, l)) })
	if l, ok := impl.SpellMessage(b, s); !slices.Equal(l, least) || !ok {
		t.Errorf("SpellMessage(%q, %q) = %v, %v, want %v", textOfBook(b), s, l, ok, least)
	}
	if l, ok := impl.EncodeMessage(b, s); !slices.Equal(l, signalsIn(b, least)) || !ok {
		t.Errorf("EncodeMessage(%q, %q) = %v, %v, want %v", textOfBook(b), s, l, ok, signalsIn(b, least))
	}
	if n, ok := impl.LeastSignals(b, s); n != len(signalsIn(b, least)) || !ok {
		t.Errorf("LeastSignals(%q, %q) = %d, %v, want %d", textOfBook(b), s, n, ok, len(signalsIn(b, least)))
	}
	if text, ok := impl.TextOfPhrases(b, least); text != s || !ok {
		t.Errorf("TextOfPhrases(%q, %v) = %q, %v, want %q", textOfBook(b), least, text, ok, s)
	}
	saved, found := -len(signalsIn(b, least)), true
	for _, c := range strings.Split(s, "") {
		i := slices.IndexFunc(b.Phrases, func(x impl.Phrase) bool { return x.Text == c })
		if found = i >= 0; !found {
			saved = 0
			break
		}
		saved += len(b.Phrases[i].Signals)
	}
	if n, ok := impl.SavedSignals(b, s); n != saved || ok != found {
		t.Errorf("SavedSignals(%q, %q) = %d, %v, want %d, %v", textOfBook(b), s, n, ok, saved, found)
	}
}

func TestSpellingOfManyLetters(t *testing.T) {
	counts := map[string]int{}
	letterBooks(4, func(b impl.Book) {
		textsOver("ab", 5, func(s string) {
			checkSpelling(t, b, s)
			lists := spellingsOf(b, s)
			counts[fmt.Sprint("spelled ", min(len(lists), 3))]++
			if saved, ok := impl.SavedSignals(b, s); ok {
				counts[fmt.Sprint("saved ", min(saved, 1))]++
			}
		})
		for _, s := range []string{"c", "ac", "abc", "cab", "abcab", "aacaa", "bbbc"} {
			checkSpelling(t, b, s)
		}
	})
	for _, what := range []string{"spelled 0", "spelled 1", "spelled 2", "spelled 3", "saved 0", "saved 1"} {
		if counts[what] == 0 {
			t.Errorf("no letters are %s: %v", what, counts)
		}
	}
	for _, b := range validBooks() {
		for i, x := range b.Phrases {
			for _, y := range b.Phrases {
				checkSpelling(t, b, x.Text+y.Text)
				checkSpelling(t, b, x.Text+y.Text+b.Phrases[i/2].Text)
				checkSpelling(t, b, x.Text[1:]+y.Text)
				checkSpelling(t, b, x.Text+y.Text[:len(y.Text)-1])
			}
		}
	}
}

func TestSpellMessageByBooks(t *testing.T) {
	for _, c := range []struct {
		book    impl.Book
		letters string
		want    []int
	}{
		// Several lists of the least length: the first one in lexicographic order, not the one with the fewest phrases or the longest ones.
		{bookOf("a 1", "ab 2,3", "b 4"), "ab", []int{0, 2}},
		{bookOf("a 1,5", "ab 2,3", "abc 6,7,8", "b 4", "bc 9", "c 10"), "abc", []int{0, 4}},
		{bookOf("a 1", "ab 2", "abc 3", "bcd 4", "cd 5", "d 6"), "abcd", []int{0, 3}},
		{bookOf("a 1", "ab 2", "bcd 4,1", "c 7", "cd 5"), "abcd", []int{1, 4}},
		// The first phrase of a shorter list may be longer, and the least index leads nowhere.
		{bookOf("a 1", "aa 2"), "aaa", []int{0, 1}},
		{bookOf("a 1", "aa 2,2,2"), "aaa", []int{0, 0, 0}},
		{bookOf("a 1,1,1", "aa 2"), "aaa", []int{0, 1}},
		{bookOf("aa 1", "aaa 2"), "aaaaa", []int{0, 1}},
		{bookOf("aa 1,1", "aaa 2"), "aaaaaa", []int{1, 1}},
		{bookOf("aa 1", "aaa 2"), "aaaaaaa", []int{0, 0, 1}},
		{bookOf("a 1", "ab 2", "cd 3"), "abcd", []int{1, 2}},
		// What costs little first costs much later.
		{bookOf("a 1", "ab 2,3", "bc 4,5,6", "c 7"), "abc", []int{1, 3}},
		{bookOf("a 1", "abcdefghijkl 2,3,4", "b 5", "c 6", "d 8,9", "efghijkl 7"), "abcdefghijkl", []int{1}},
		{bookOf("a 1", "z 2"), "", nil},
	} {
		checkSpelling(t, c.book, c.letters)
		if l, ok := impl.SpellMessage(c.book, c.letters); !slices.Equal(l, c.want) || !ok {
			t.Errorf("SpellMessage(%q, %q) = %v, %v, want %v", textOfBook(c.book), c.letters, l, ok, c.want)
		}
	}
}

func TestNoLetters(t *testing.T) {
	for _, b := range validBooks() {
		checkSpelling(t, b, "")
		if l, ok := impl.SpellMessage(b, ""); len(l) != 0 || !ok {
			t.Errorf("SpellMessage of no letters = %v, %v", l, ok)
		}
		if l, ok := impl.EncodeMessage(b, ""); len(l) != 0 || !ok {
			t.Errorf("EncodeMessage of no letters = %v, %v", l, ok)
		}
		for name, want := range map[string]int{"LeastSignals": 0, "CountSpellings": 1, "SpelledPart": 0, "SavedSignals": 0} {
			if got := callsByLetters()[name](spellArguments{Book: b}); got[0] != want || got[1] != true {
				t.Errorf("%s of no letters = %v, want %d", name, got, want)
			}
		}
	}
}

// spellingsByLengths counts, from the front, the lists of phrases of equal letters that have all lengths up to a greatest one.
func spellingsByLengths(letters int, greatest int) int {
	counts := []int{1}
	for n := 1; n <= letters; n++ {
		sum := 0
		for length := 1; length <= min(n, greatest); length++ {
			sum += counts[n-length]
		}
		counts = append(counts, sum)
	}
	return counts[letters]
}

func TestMostLetters(t *testing.T) {
	whole := strings.Repeat("a", 40)
	for greatest := 1; greatest <= 12; greatest++ {
		b := sameLetters(slices.Repeat([]int{1}, greatest)...)
		least := (40 + greatest - 1) / greatest
		// The first list in lexicographic order has the shortest phrase first.
		want := append([]int{40 - (least-1)*greatest - 1}, slices.Repeat([]int{greatest - 1}, least-1)...)
		if l, ok := impl.SpellMessage(b, whole); !slices.Equal(l, want) || !ok {
			t.Errorf("SpellMessage of 40 letters by 1 to %d = %v, %v, want %v", greatest, l, ok, want)
		}
		if l, ok := impl.EncodeMessage(b, whole); !slices.Equal(l, signalsIn(b, want)) || !ok {
			t.Errorf("EncodeMessage of 40 letters by 1 to %d = %v, %v", greatest, l, ok)
		}
		if n, ok := impl.LeastSignals(b, whole); n != least || !ok {
			t.Errorf("LeastSignals of 40 letters by 1 to %d = %d, %v, want %d", greatest, n, ok, least)
		}
		if n, ok := impl.CountSpellings(b, whole); n != spellingsByLengths(40, greatest) || !ok {
			t.Errorf("CountSpellings of 40 letters by 1 to %d = %d, %v, want %d", greatest, n, ok, spellingsByLengths(40, greatest))
		}
		if n, ok := impl.SpelledPart(b, whole); n != 40 || !ok {
			t.Errorf("SpelledPart of 40 letters by 1 to %d = %d, %v", greatest, n, ok)
		}
		if n, ok := impl.SavedSignals(b, whole); n != 40-least || !ok {
			t.Errorf("SavedSignals of 40 letters by 1 to %d = %d, %v, want %d", greatest, n, ok, 40-least)
		}
		checkZero(t, callsByLetters(), spellArguments{Book: b, Letters: whole + "a"})
	}
	if n, _ := impl.CountSpellings(sameLetters(slices.Repeat([]int{1}, 12)...), whole); n != 547810762745 {
		t.Errorf("CountSpellings of 40 letters by 1 to 12 = %d", n)
	}
	long := bookOf("a 1,2,3")
	if l, ok := impl.EncodeMessage(long, whole); !slices.Equal(l, slices.Repeat([]int{1, 2, 3}, 40)) || !ok {
		t.Errorf("EncodeMessage of 40 letters of three signals = %v, %v", l, ok)
	}
	if n, ok := impl.LeastSignals(long, whole); n != 120 || !ok {
		t.Errorf("LeastSignals of 40 letters of three signals = %d, %v", n, ok)
	}
	if n, ok := impl.SavedSignals(sameLetters(3, 3, 3, 1), whole); n != 110 || !ok {
		t.Errorf("SavedSignals of 40 letters = %d, %v", n, ok)
	}
	if l, ok := impl.SpellMessage(bookOf("a 1", "abcdefghijkl 2,3,4"), strings.Repeat("abcdefghijkl", 3)+"aaaa"); !slices.Equal(l, []int{1, 1, 1, 0, 0, 0, 0}) || !ok {
		t.Errorf("SpellMessage of phrases of 12 letters = %v, %v", l, ok)
	}
}

func TestUnspelledLetters(t *testing.T) {
	for _, c := range []struct {
		book    impl.Book
		letters string
		part    int
	}{
		{bookOf("a 1", "ab 2", "b 3"), "c", 0},
		{bookOf("a 1", "ab 2", "b 3"), "cab", 0},
		{bookOf("a 1", "ab 2", "b 3"), "abc", 2},
		{bookOf("a 1", "ab 2", "b 3"), "abcab", 2},
		{bookOf("aa 1", "aaa 2"), "a", 0},
		{bookOf("aa 1"), "aaaaa", 4},
		// The longest phrase, or the shortest one, leads less far than another one.
		{bookOf("a 1", "ab 2", "bcd 3"), "abcde", 4},
		{bookOf("a 1", "ab 2", "abc 3", "cde 4"), "abcdef", 5},
		{bookOf("ab 1", "abc 2", "abcd 3", "cdef 4"), "abcdefg", 6},
		// A part behind letters that cannot be spelled does not count.
		{bookOf("ab 1", "cd 2"), "abxcd", 2},
		{bookOf("b 1"), "ab", 0},
		{bookOf("abcdefghijkl 1"), "abcdefghijk", 0},
		{bookOf("abcdefghijkl 1"), "abcdefghijkla", 12},
		{bookOf("a 1"), strings.Repeat("a", 39) + "b", 39},
		{bookOf("a 1"), "b" + strings.Repeat("a", 39), 0},
	} {
		checkSpelling(t, c.book, c.letters)
		if n, ok := impl.SpelledPart(c.book, c.letters); n != c.part || !ok {
			t.Errorf("SpelledPart(%q, %q) = %d, %v, want %d", textOfBook(c.book), c.letters, n, ok, c.part)
		}
		if n, ok := impl.CountSpellings(c.book, c.letters); n != 0 || !ok {
			t.Errorf("CountSpellings(%q, %q) = %d, %v", textOfBook(c.book), c.letters, n, ok)
		}
	}
}

func TestSavedSignals(t *testing.T) {
	for _, c := range []struct {
		book    impl.Book
		letters string
		saved   int
		ok      bool
	}{
		{bookOf("a 1", "ab 2", "b 3"), "ab", 1, true},
		{bookOf("a 1", "ab 2,3", "b 4"), "ab", 0, true},
		{bookOf("a 1", "ab 2,3,4", "b 4"), "ab", 0, true},
		{bookOf("a 1,2,3", "ab 2", "b 3,2,1"), "abab", 10, true},
		{bookOf("a 1,2,3", "b 3,2,1"), "abab", 0, true},
		// Letters that are spelled, but not one by one.
		{bookOf("ab 2", "b 3"), "ab", 0, false},
		{bookOf("a 1", "ab 2"), "ab", 0, false},
		{bookOf("ab 2"), "ab", 0, false},
		{bookOf("ab 2"), "abab", 0, false},
		{bookOf("ab 2"), "", 0, true},
		// Letters that are not spelled at all.
		{bookOf("a 1", "b 2"), "abc", 0, false},
	} {
		checkSpelling(t, c.book, c.letters)
		if n, ok := impl.SavedSignals(c.book, c.letters); n != c.saved || ok != c.ok {
			t.Errorf("SavedSignals(%q, %q) = %d, %v, want %d, %v", textOfBook(c.book), c.letters, n, ok, c.saved, c.ok)
		}
	}
}

func TestLoneLetters(t *testing.T) {
	for _, b := range validBooks() {
		want := ""
		for _, x := range b.Phrases {
			if len(x.Text) == 1 {
				want += x.Text
			}
		}
		if s, ok := impl.LoneLetters(b); s != want || !ok {
			t.Errorf("LoneLetters(%q) = %q, %v, want %q", textOfBook(b), s, ok, want)
		}
	}
	alphabet := impl.Book{}
	for i := range 26 {
		letter := string(rune('a' + i))
		alphabet.Phrases = append(alphabet.Phrases, impl.Phrase{Text: letter, Signals: []int{60 - i}})
		if i%2 == 0 {
			alphabet.Phrases = append(alphabet.Phrases, impl.Phrase{Text: letter + "a", Signals: []int{60 - i, 1}})
		}
	}
	for _, c := range []struct {
		book impl.Book
		want string
	}{
		{bookOf("a 1", "ab 2", "b 3", "zz 4"), "ab"},
		{bookOf("a 3", "z 1"), "az"},
		{bookOf("ab 1", "abc 2", "zz 3"), ""},
		{bookOf("abcdefghijkl 1"), ""},
		{bookOf("z 1,2,3"), "z"},
		{alphabet, "abcdefghijklmnopqrstuvwxyz"},
	} {
		if s, ok := impl.LoneLetters(c.book); s != c.want || !ok {
			t.Errorf("LoneLetters(%q) = %q, %v, want %q", textOfBook(c.book), s, ok, c.want)
		}
	}
}

func TestTextOfPhrases(t *testing.T) {
	for _, b := range validBooks() {
		n := len(b.Phrases)
		var lists [][]int
		for length := range 41 {
			l := make([]int, length)
			for i := range l {
				l[i] = (i*7 + length) % n
			}
			lists = append(lists, l)
		}
		lists = append(lists, nil, []int{0}, []int{n - 1}, []int{n - 1, 0}, repeated(0, 40), repeated(n-1, 40))
		for _, l := range lists {
			if s, ok := impl.TextOfPhrases(b, l); s != textsIn(b, l) || !ok {
				t.Errorf("TextOfPhrases(%q, %v) = %q, %v, want %q", textOfBook(b), l, s, ok, textsIn(b, l))
			}
		}
		for _, odd := range append(oddInts(), n, n+1, -n) {
			for _, l := range [][]int{{odd}, {0, odd}, {odd, 0}, append(repeated(0, 39), odd)} {
				checkZero(t, callsByIndices(), spellArguments{Book: b, Indices: l})
			}
		}
		for _, l := range [][]int{repeated(0, 41), repeated(n-1, 41), repeated(0, 100000), repeated(-1, 41)} {
			checkZero(t, callsByIndices(), spellArguments{Book: b, Indices: l})
		}
	}
	if s, ok := impl.TextOfPhrases(bookOf("a 1", "ab 2", "b 3"), []int{2, 0, 1, 1}); s != "baabab" || !ok {
		t.Errorf("TextOfPhrases = %q, %v", s, ok)
	}
	// More letters than MaxLetters are the Texts of phrases too.
	if s, ok := impl.TextOfPhrases(bookOf("abcdefghijkl 1"), repeated(0, 40)); s != strings.Repeat("abcdefghijkl", 40) || !ok {
		t.Errorf("TextOfPhrases of 40 long phrases = %q, %v", s, ok)
	}
}

// checkReading compares all that chapter 3 tells of signals with their readings.
func checkReading(t *testing.T, b impl.Book, signals []int) {
	t.Helper()
	lists := readingsOf(b, signals)
	if n, ok := impl.CountReadings(b, signals); n != len(lists) || !ok {
		t.Errorf("CountReadings(%q, %v) = %d, %v, want %d", textOfBook(b), signals, n, ok, len(lists))
	}
	var first []int
	if len(lists) > 0 {
		first = lists[0]
	}
	if l, ok := impl.FirstReading(b, signals); !slices.Equal(l, first) || ok != (len(lists) > 0) {
		t.Errorf("FirstReading(%q, %v) = %v, %v, want %v", textOfBook(b), signals, l, ok, first)
	}
	want := ""
	if len(lists) == 1 {
		want = textsIn(b, first)
	}
	if s, ok := impl.ReadMessage(b, signals); s != want || ok != (len(lists) == 1) {
		t.Errorf("ReadMessage(%q, %v) = %q, %v, want %q of %d readings", textOfBook(b), signals, s, ok, want, len(lists))
	}
}

func TestReadingsOfManySignals(t *testing.T) {
	counts := map[int]int{}
	var lists [][]int
	textsOver("AB", 6, func(s string) {
		l := make([]int, len(s))
		for i := range s {
			l[i] = map[byte]int{'A': 60, 'B': 1}[s[i]]
		}
		lists = append(lists, l)
	})
	smallBooks(3, func(b impl.Book) {
		// With the phrases in the other order the longer ones have lesser indices.
		turned := impl.Book{Phrases: slices.Clone(b.Phrases)}
		for i := range turned.Phrases {
			turned.Phrases[i].Signals = b.Phrases[len(b.Phrases)-1-i].Signals
		}
		for _, l := range lists {
			checkReading(t, b, l)
			checkReading(t, turned, l)
			counts[min(len(readingsOf(b, l)), 2)]++
		}
		checkReading(t, b, []int{2})
		checkReading(t, b, []int{60, 2, 60})
		checkReading(t, b, []int{1, 60, 2})
	})
	if counts[0] == 0 || counts[1] == 0 || counts[2] == 0 {
		t.Errorf("the numbers of readings are %v", counts)
	}
	for _, b := range validBooks() {
		for i, x := range b.Phrases {
			for _, y := range b.Phrases {
				checkReading(t, b, slices.Concat(x.Signals, y.Signals))
				checkReading(t, b, slices.Concat(x.Signals, y.Signals, b.Phrases[i/2].Signals))
				checkReading(t, b, slices.Concat(x.Signals[1:], y.Signals))
				checkReading(t, b, slices.Concat(x.Signals, y.Signals[:len(y.Signals)-1]))
			}
		}
	}
}

func TestReadingsByBooks(t *testing.T) {
	for _, c := range []struct {
		book    impl.Book
		signals []int
		count   int
		first   []int
		text    string
	}{
		{bookOf("a 1", "ab 2", "b 3"), []int{1, 3}, 1, []int{0, 2}, "ab"},
		{bookOf("a 1", "ab 2", "b 3"), []int{2}, 1, []int{1}, "ab"},
		{bookOf("a 1", "b 1,2", "c 2"), []int{1, 2}, 2, []int{0, 2}, ""},
		{bookOf("a 1,2", "b 1", "c 2"), []int{1, 2}, 2, []int{0}, ""},
		{bookOf("a 2", "b 1,2", "c 1"), []int{1, 2}, 2, []int{1}, ""},
		// The least index leads nowhere.
		{bookOf("a 1", "b 1,2"), []int{1, 2}, 1, []int{1}, "b"},
		{bookOf("a 1", "b 1,2"), []int{1, 1, 2, 1}, 1, []int{0, 1, 0}, "aba"},
		{bookOf("a 1,2,3", "b 1", "c 2,3,4"), []int{1, 2, 3, 4}, 1, []int{1, 2}, "bc"},
		{bookOf("a 1", "b 2"), []int{1, 2, 3}, 0, nil, ""},
		{bookOf("a 1", "b 2"), []int{3, 1, 2}, 0, nil, ""},
		{bookOf("a 1,2"), []int{1}, 0, nil, ""},
		{bookOf("a 1,2,3"), []int{1, 2}, 0, nil, ""},
		{bookOf("a 12", "b 1,2"), []int{1, 2}, 1, []int{1}, "b"},
		{bookOf("a 12", "b 1,2"), []int{12}, 1, []int{0}, "a"},
		{bookOf("a 1"), nil, 1, nil, ""},
	} {
		checkReading(t, c.book, c.signals)
		if n, ok := impl.CountReadings(c.book, c.signals); n != c.count || !ok {
			t.Errorf("CountReadings(%q, %v) = %d, %v, want %d", textOfBook(c.book), c.signals, n, ok, c.count)
		}
		if l, ok := impl.FirstReading(c.book, c.signals); !slices.Equal(l, c.first) || ok != (c.count > 0) {
			t.Errorf("FirstReading(%q, %v) = %v, %v, want %v", textOfBook(c.book), c.signals, l, ok, c.first)
		}
		if s, ok := impl.ReadMessage(c.book, c.signals); s != c.text || ok != (c.count == 1) {
			t.Errorf("ReadMessage(%q, %v) = %q, %v, want %q", textOfBook(c.book), c.signals, s, ok, c.text)
		}
	}
}

func TestNoSignals(t *testing.T) {
	for _, b := range validBooks() {
		for _, signals := range [][]int{nil, {}} {
			checkReading(t, b, signals)
			if n, ok := impl.CountReadings(b, signals); n != 1 || !ok {
				t.Errorf("CountReadings of no signals = %d, %v", n, ok)
			}
			if l, ok := impl.FirstReading(b, signals); len(l) != 0 || !ok {
				t.Errorf("FirstReading of no signals = %v, %v", l, ok)
			}
			if s, ok := impl.ReadMessage(b, signals); s != "" || !ok {
				t.Errorf("ReadMessage of no signals = %q, %v", s, ok)
			}
		}
	}
}

func TestMostSignals(t *testing.T) {
	most := bookOf("a 5", "b 5,5", "c 5,5,5")
	if n, ok := impl.CountReadings(most, repeated(5, 60)); n != 4680045560037375 || n != spellingsByLengths(60, 3) || !ok {
		t.Errorf("CountReadings of 60 signals = %d, %v", n, ok)
	}
	if l, ok := impl.FirstReading(most, repeated(5, 60)); !slices.Equal(l, repeated(0, 60)) || !ok {
		t.Errorf("FirstReading of 60 signals = %v, %v", l, ok)
	}
	if s, ok := impl.ReadMessage(most, repeated(5, 60)); s != "" || ok {
		t.Errorf("ReadMessage of 60 signals with many readings = %q, %v", s, ok)
	}
	turned := bookOf("a 5,5,5", "b 5,5", "c 5")
	if l, ok := impl.FirstReading(turned, repeated(5, 59)); !slices.Equal(l, append(repeated(0, 19), 1)) || !ok {
		t.Errorf("FirstReading of 59 signals = %v, %v", l, ok)
	}
	// The only reading has more phrases and letters than a list of indices and letters may have.
	long := bookOf("abcdefghijkl 60")
	if s, ok := impl.ReadMessage(long, repeated(60, 60)); s != strings.Repeat("abcdefghijkl", 60) || !ok {
		t.Errorf("ReadMessage of 60 long phrases = %q, %v", s, ok)
	}
	triples := bookOf("a 1,2,3", "b 3,2,1")
	signals := slices.Concat(slices.Repeat([]int{1, 2, 3}, 10), slices.Repeat([]int{3, 2, 1}, 10))
	if s, ok := impl.ReadMessage(triples, signals); s != strings.Repeat("a", 10)+strings.Repeat("b", 10) || !ok {
		t.Errorf("ReadMessage of 20 phrases = %q, %v", s, ok)
	}
	for _, b := range []impl.Book{most, turned, long} {
		for _, n := range []int{5, 60} {
			checkZero(t, callsBySignals(), spellArguments{Book: b, Signals: repeated(n, 61)})
		}
	}
}

// TestMessagesAreReadBack sends letters and reads the signals by books that are read in one way.
func TestMessagesAreReadBack(t *testing.T) {
	for _, b := range append(validBooks(), bookOf("a 1", "ab 2", "b 3"), bookOf("a 1,2", "ab 1,3", "abc 1,1,1", "b 2", "bc 1,1,2", "c 3")) {
		if oneWay, _ := impl.IsReadOneWay(b); !oneWay {
			continue
		}
		for _, letters := range []string{"", "a", "b", "ab", "abc", "aab", "abab", "abcabc", "ccc", "help", "helpfirefog", "abcdefghijklabcdefghijkl"} {
			signals, ok := impl.EncodeMessage(b, letters)
			if !ok {
				continue
			}
			if s, ok := impl.ReadMessage(b, signals); s != letters || !ok {
				t.Errorf("ReadMessage(%q, %v) = %q, %v, want %q", textOfBook(b), signals, s, ok, letters)
			}
		}
	}
}

func TestSpellInvalidArguments(t *testing.T) {
	books := append(validBooks(), sameLetters(1, 1, 1), bookOf("a 1", "ab 2", "b 3"))
	for _, b := range books {
		for _, s := range invalidLetters() {
			checkZero(t, callsByLetters(), spellArguments{Book: b, Letters: s})
		}
		for _, l := range invalidReads() {
			checkZero(t, callsBySignals(), spellArguments{Book: b, Signals: l})
		}
	}
	for _, b := range invalidBooks() {
		checkZero(t, spellCalls(), spellArguments{Book: b})
		arguments := spellArguments{Book: b, Letters: "a", Indices: []int{0}, Signals: []int{1}}
		if n := len(b.Phrases); n > 0 {
			last := b.Phrases[n-1]
			if goodBook(impl.Book{Phrases: []impl.Phrase{last}}) {
				arguments.Letters, arguments.Signals = last.Text, last.Signals
			}
		}
		checkZero(t, spellCalls(), arguments)
	}
}

func TestSpellFunctionsArePure(t *testing.T) {
	calls := spellCalls()
	if len(calls) != 11 {
		t.Errorf("%d functions", len(calls))
	}
	books := append(validBooks(), sameLetters(1, 2, 3, 1), bookOf("a 1", "ab 2", "b 3"))
	for i, b := range invalidBooks() {
		if i < 40 && len(b.Phrases) < 100 {
			books = append(books, b)
		}
	}
	texts := []string{"", "a", "ab", "aaaa", strings.Repeat("a", 40), strings.Repeat("a", 41), "abz", "A"}
	lists := [][]int{nil, {}, {0}, {0, 0, 0}, {1, 2}, repeated(1, 60), repeated(0, 41), {-1}, {61}}
	for _, b := range books {
		all := slices.Clone(lists)
		for _, x := range b.Phrases[:min(3, len(b.Phrases))] {
			all = append(all, x.Signals)
		}
		for i, l := range all {
			letters := texts[i%len(texts)]
			if i%3 == 0 && len(b.Phrases) > 0 {
				letters = b.Phrases[i%len(b.Phrases)].Text
			}
			arguments := spellArguments{Book: b, Letters: letters, Indices: l, Signals: l}
			for name, call := range calls {
				checkPure(t, name, arguments, call)
			}
		}
	}
}

// TestSpellInOneMemory gives a book whose lists lie in one array, with the signals to be read behind them.
func TestSpellInOneMemory(t *testing.T) {
	memory := []int{1, 2, 3, 4, 1, 2, 4}
	b := impl.Book{Phrases: []impl.Phrase{{Text: "a", Signals: memory[:1]}, {Text: "ab", Signals: memory[:2]}, {Text: "b", Signals: memory[3:4]}}}
	signals, ok := impl.EncodeMessage(b, "ab")
	if !slices.Equal(signals, []int{1, 4}) || !ok {
		t.Errorf("EncodeMessage = %v, %v", signals, ok)
	}
	reading, ok := impl.FirstReading(b, memory[4:])
	if !slices.Equal(reading, []int{1, 2}) || !ok {
		t.Errorf("FirstReading = %v, %v", reading, ok)
	}
	// A list of one phrase must not be the Signals of this phrase.
	one, ok := impl.EncodeMessage(b, "b")
	if !slices.Equal(one, []int{4}) || !ok {
		t.Errorf("EncodeMessage = %v, %v", one, ok)
	}
	for _, l := range [][]int{signals, reading, one} {
		for i := range l[:cap(l)] {
			l[:cap(l)][i] = -1
		}
	}
	if !slices.Equal(memory, []int{1, 2, 3, 4, 1, 2, 4}) {
		t.Errorf("the arguments are %v now", memory)
	}
}

func TestSpellFunctionsAcceptAllArguments(t *testing.T) {
	calls := spellCalls()
	texts := append(invalidLetters(), "", "a", "ab", strings.Repeat("a", 40))
	lists := append(append(invalidReads(), invalidPhraseSignals()...), nil, []int{1}, repeated(1, 60))
	for i, b := range append(validBooks(), invalidBooks()...) {
		arguments := spellArguments{Book: b, Letters: texts[i%len(texts)], Indices: lists[i*3%len(lists)], Signals: lists[i%len(lists)]}
		for name, call := range calls {
			first, second := call(arguments), call(arguments)
			if !reflect.DeepEqual(first, second) {
				t.Errorf("%s gives %v, and called again %v", name, first, second)
			}
		}
	}
}
