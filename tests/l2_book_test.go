package tests

import (
	"fmt"
	"math"
	"reflect"
	"regexp"
	"slices"
	"strings"
	"testing"

	"loop.example/g00940/impl"
)

// bookOf returns a book by lines as those of a BookText, without the program. The signals may be any integers, joined by commas.
func bookOf(lines ...string) impl.Book {
	var b impl.Book
	for _, line := range lines {
		text, numbers, _ := strings.Cut(line, " ")
		x := impl.Phrase{Text: text}
		for _, number := range strings.FieldsFunc(numbers, func(r rune) bool { return r == ',' }) {
			n := 0
			if _, err := fmt.Sscan(number, &n); err != nil {
				panic(err)
			}
			x.Signals = append(x.Signals, n)
		}
		b.Phrases = append(b.Phrases, x)
	}
	return b
}

// textOfBook returns a text by which books are compared, without the program.
func textOfBook(b impl.Book) string {
	var text strings.Builder
	for _, x := range b.Phrases {
		text.WriteString(x.Text + " " + strings.ReplaceAll(decimal(x.Signals), " ", "-") + "\n")
	}
	return text.String()
}

// longBook returns a book of so many phrases, of which some begin others and all kinds of lengths occur.
func longBook(phrases int) impl.Book {
	var b impl.Book
	for i := range phrases {
		text := strings.Repeat(string(rune('a'+i/2%26)), i/52+1) + strings.Repeat("z", i%2*(11-i/52))
		b.Phrases = append(b.Phrases, impl.Phrase{Text: text, Signals: []int{60 - i/3, 1 + i, 60}[:1+i%3]})
	}
	return b
}

// validBooks returns books of many kinds.
func validBooks() []impl.Book {
	books := []impl.Book{
		bookOf("a 1", "ab 1,2", "b 2"),
		bookOf("a 1"),
		bookOf("abcdefghijkl 60,1,60"),
		bookOf("z 60"),
		bookOf("a 1", "aa 1,1", "aaa 1,1,1"),
		bookOf("a 1,1,1", "aa 1,1", "aaa 1"),
		bookOf("a 1,2,3", "b 3,2,1"),
		bookOf("a 1", "b 2", "c 3", "d 4,1", "e 4,2"),
		bookOf("fire 7,7,8", "fog 7,7,9", "help 7,7,7", "zzzzzzzzzzzz 7,8"),
		bookOf("a 1,2", "b 2,1"),
		bookOf("a 12", "b 1,2", "c 1", "d 2"),
	}
	for _, phrases := range []int{2, 3, 7, 39, 40} {
		books = append(books, longBook(phrases))
	}
	return books
}

// invalidBooks returns books that have one fault each.
func invalidBooks() []impl.Book {
	books := []impl.Book{
		{},
		{Phrases: []impl.Phrase{}},
		{Phrases: make([]impl.Phrase, 1)},
		{Phrases: make([]impl.Phrase, 41)},
		{Phrases: make([]impl.Phrase, 100000)},
		bookOf("b 1", "a 2"),
		bookOf("a 1", "a 2"),
		bookOf("a 1", "c 2", "b 3"),
		bookOf("ab 1", "a 2"),
		bookOf("a 1", "b 2", "b 3"),
		bookOf("a 1", "b 1"),
		bookOf("a 1,2,3", "b 4", "c 1,2,3"),
		bookOf("a 1", "b 2,3", "c 2,3"),
		longBook(41),
		longBook(50),
	}
	for _, text := range invalidPhraseTexts() {
		books = append(books, impl.Book{Phrases: []impl.Phrase{{Text: text, Signals: []int{5}}}})
	}
	for _, x := range validBooks() {
		for _, signals := range invalidPhraseSignals() {
			for _, i := range []int{0, len(x.Phrases) / 2, len(x.Phrases) - 1} {
				b := impl.Book{Phrases: slices.Clone(x.Phrases)}
				b.Phrases[i].Signals = signals
				books = append(books, b)
			}
		}
	}
	return books
}

func invalidPhraseTexts() []string {
	texts := []string{
		"", " ", "A", "Z", "a ", " a", "aB", "a b", "a\n", "\x00", "a\x00", "0", "1", "`", "{", "\xff", "a\xff", "\x80", "\u00e9", "a\u00e9", "\u0430", "\u1e00", "\U00010061",
		"abcdefghijklm", strings.Repeat("a", 13), strings.Repeat("z", 255), strings.Repeat("a", 256+5), strings.Repeat("b", 100000), "a-b", "a.", "\u00e9\u00e9\u00e9\u00e9\u00e9\u00e9",
	}
	for c := range 256 {
		if c < 'a' || c > 'z' {
			texts = append(texts, string([]byte{'k', byte(c), 'k'}))
		}
	}
	return texts
}

func invalidPhraseSignals() [][]int {
	lists := [][]int{nil, {}, {0}, {61}, {62}, {63}, {0, 1}, {1, 0}, {1, 2, 61}, {1, 61, 2}, {61, 1, 2}, {1, 2, 3, 4}, {1, 1, 1, 1}, repeated(5, 100)}
	for _, n := range oddInts() {
		lists = append(lists, []int{n}, []int{1, n}, []int{1, 2, n})
	}
	return lists
}

var phraseTextForm = regexp.MustCompile(`\A[a-z]{1,12}\z`)
var bookTextForm = regexp.MustCompile(`\A([a-z]{1,12} [1-9][0-9]?(-[1-9][0-9]?){0,2}\n)+\z`)

// goodBook tells by the words of chapter 2 whether a book is valid, without the program.
func goodBook(b impl.Book) bool {
	if len(b.Phrases) < 1 || len(b.Phrases) > 40 {
		return false
	}
	signals := map[string]bool{}
	for i, x := range b.Phrases {
		if !phraseTextForm.MatchString(x.Text) || len(x.Signals) < 1 || len(x.Signals) > 3 {
			return false
		}
		for _, n := range x.Signals {
			if n < 1 || n > 60 {
				return false
			}
		}
		signals[fmt.Sprint(x.Signals)] = true
		if i > 0 && b.Phrases[i-1].Text >= x.Text {
			return false
		}
	}
	return len(signals) == len(b.Phrases)
}

// someSignals returns all lists of 1 to 3 signals out of two ones, the shorter ones first.
func someSignals(one int, other int) [][]int {
	both := [][]int{{one}, {other}}
	lists := slices.Clone(both)
	for i := 0; len(lists) < 14; i++ {
		for _, n := range both {
			lists = append(lists, slices.Concat(lists[i], n))
		}
	}
	return lists
}

// booksOutOf calls f with every book of at most so many phrases out of n ones, in every subset once. The function phrase makes the one with index i, for a place in the book.
func booksOutOf(n int, most int, phrase func(place int, i int) impl.Phrase, f func(b impl.Book)) {
	var choose func(b impl.Book, from int)
	choose = func(b impl.Book, from int) {
		if len(b.Phrases) > 0 {
			f(b)
		}
		if len(b.Phrases) == most {
			return
		}
		for i := from; i < n; i++ {
			x := phrase(len(b.Phrases), i)
			choose(impl.Book{Phrases: append(slices.Clip(b.Phrases), x)}, i+1)
		}
	}
	choose(impl.Book{}, 0)
}

// smallBooks calls f with every book of at most so many phrases that have 1 to 3 of two signals, in every subset once.
func smallBooks(most int, f func(b impl.Book)) {
	lists := someSignals(60, 1)
	phrase := func(place int, i int) impl.Phrase {
		return impl.Phrase{Text: string(rune('a' + place)), Signals: lists[i]}
	}
	booksOutOf(len(lists), most, phrase, f)
}

func TestBookExample(t *testing.T) {
	b := bookOf("a 1", "ab 1,2", "b 2")
	if !impl.IsBook(b) {
		t.Error("the example is no book")
	}
	if is, ok := impl.IsReadOneWay(b); is || !ok {
		t.Errorf("IsReadOneWay = %v, %v", is, ok)
	}
	if is, ok := impl.IsPrefixFree(b); is || !ok {
		t.Errorf("IsPrefixFree = %v, %v", is, ok)
	}
	if i, j, ok := impl.FirstPrefix(b); i != 0 || j != 1 || !ok {
		t.Errorf("FirstPrefix = %d, %d, %v", i, j, ok)
	}
	if s, ok := impl.BookText(b); s != "a 1\nab 1-2\nb 2\n" || !ok {
		t.Errorf("BookText = %q, %v", s, ok)
	}
	if impl.MaxPhrases != 40 {
		t.Errorf("MaxPhrases = %d", impl.MaxPhrases)
	}
}

func TestIsPhraseText(t *testing.T) {
	for length := 1; length <= 12; length++ {
		for c := 'a'; c <= 'z'; c++ {
			if s := strings.Repeat(string(c), length); !impl.IsPhraseText(s) {
				t.Errorf("IsPhraseText(%q) = false", s)
			}
		}
		if s := "qwertzuiopas"[:length]; !impl.IsPhraseText(s) {
			t.Errorf("IsPhraseText(%q) = false", s)
		}
	}
	for _, s := range invalidPhraseTexts() {
		if impl.IsPhraseText(s) {
			t.Errorf("IsPhraseText(%.40q) = true", s)
		}
	}
	for c := range 256 {
		if got, want := impl.IsPhraseText(string([]byte{byte(c)})), c >= 'a' && c <= 'z'; got != want {
			t.Errorf("IsPhraseText of byte %d = %v", c, got)
		}
	}
}

func TestIsBook(t *testing.T) {
	for _, b := range validBooks() {
		if !goodBook(b) || !impl.IsBook(b) {
			t.Errorf("IsBook(%v) = %v, want true", b, impl.IsBook(b))
		}
	}
	for _, b := range invalidBooks() {
		if goodBook(b) || impl.IsBook(b) {
			t.Errorf("IsBook(%.200q) = %v, want false", textOfBook(b), impl.IsBook(b))
		}
	}
	texts := []string{"a", "aa", "ab", "b", ""}
	lists := [][]int{{1}, {1, 2}, {2}, {0}, {1, 2, 3, 4}}
	for i := range 5 * 5 * 5 * 5 * 5 * 5 {
		b := impl.Book{Phrases: []impl.Phrase{
			{Text: texts[i%5], Signals: lists[i/125%5]}, {Text: texts[i/5%5], Signals: lists[i/625%5]}, {Text: texts[i/25%5], Signals: lists[i/3125]},
		}}
		if got, want := impl.IsBook(b), goodBook(b); got != want {
			t.Errorf("IsBook(%v) = %v, want %v", b, got, want)
		}
	}
}

func TestFindPhrase(t *testing.T) {
	for _, b := range validBooks() {
		for i, x := range b.Phrases {
			if got, ok := impl.FindPhrase(b, x.Text); got != i || !ok {
				t.Errorf("FindPhrase(%v, %q) = %d, %v, want %d", b, x.Text, got, ok, i)
			}
			for _, s := range []string{x.Text[1:], x.Text + "a", "a" + x.Text, x.Text + x.Text, strings.ToUpper(x.Text), "m", "zzzzzzzzzzzy"} {
				want := slices.IndexFunc(b.Phrases, func(y impl.Phrase) bool { return y.Text == s })
				if got, ok := impl.FindPhrase(b, s); got != max(want, 0) || ok != (want >= 0) {
					t.Errorf("FindPhrase(%v, %q) = %d, %v, want %d", b, s, got, ok, want)
				}
			}
		}
		for _, s := range invalidPhraseTexts() {
			if got, ok := impl.FindPhrase(b, s); got != 0 || ok {
				t.Errorf("FindPhrase(%.20q) = %d, %v", s, got, ok)
			}
		}
	}
	for _, b := range invalidBooks() {
		for _, x := range b.Phrases[max(0, len(b.Phrases)-3):] {
			if got, ok := impl.FindPhrase(b, x.Text); got != 0 || ok {
				t.Errorf("FindPhrase(%.200q, %.20q) = %d, %v", textOfBook(b), x.Text, got, ok)
			}
		}
	}
}

func TestPhraseOf(t *testing.T) {
	for _, b := range validBooks() {
		for i, x := range b.Phrases {
			if got, ok := impl.PhraseOf(b, x.Signals); got != i || !ok {
				t.Errorf("PhraseOf(%v, %v) = %d, %v, want %d", b, x.Signals, got, ok, i)
			}
			reversed := slices.Clone(x.Signals)
			slices.Reverse(reversed)
			for _, l := range [][]int{x.Signals[1:], x.Signals[:len(x.Signals)-1], slices.Concat(x.Signals, []int{1}), slices.Concat([]int{1}, x.Signals), reversed, {33}, {33, 34, 35}} {
				want := slices.IndexFunc(b.Phrases, func(y impl.Phrase) bool { return slices.Equal(y.Signals, l) })
				if got, ok := impl.PhraseOf(b, l); got != max(want, 0) || ok != (want >= 0) {
					t.Errorf("PhraseOf(%v, %v) = %d, %v, want %d", b, l, got, ok, want)
				}
			}
		}
		for _, l := range invalidPhraseSignals() {
			if got, ok := impl.PhraseOf(b, l); got != 0 || ok {
				t.Errorf("PhraseOf(%v, %v) = %d, %v", b, l, got, ok)
			}
		}
	}
	for _, b := range invalidBooks() {
		for _, x := range b.Phrases[max(0, len(b.Phrases)-3):] {
			if got, ok := impl.PhraseOf(b, x.Signals); got != 0 || ok {
				t.Errorf("PhraseOf(%.200q, %v) = %d, %v", textOfBook(b), x.Signals, got, ok)
			}
		}
	}
}

func TestWithBeginning(t *testing.T) {
	for _, b := range validBooks() {
		beginnings := []string{"", "a", "aa", "b", "k", "z", "zz", "zzzzzzzzzzzz", "fo", "abcdefghijkl"}
		for _, x := range b.Phrases {
			for i := range x.Text {
				beginnings = append(beginnings, x.Text[:i], x.Text[i:])
			}
		}
		for _, s := range beginnings {
			var want []int
			for i, x := range b.Phrases {
				if len(x.Text) >= len(s) && x.Text[:len(s)] == s {
					want = append(want, i)
				}
			}
			if got, ok := impl.WithBeginning(b, s); !slices.Equal(got, want) || !ok {
				t.Errorf("WithBeginning(%v, %q) = %v, %v, want %v", b, s, got, ok, want)
			}
		}
		for _, s := range invalidPhraseTexts()[1:] {
			if got, ok := impl.WithBeginning(b, s); len(got) != 0 || ok {
				t.Errorf("WithBeginning(%.20q) = %v, %v", s, got, ok)
			}
		}
	}
	for _, b := range invalidBooks() {
		for _, s := range []string{"", "a"} {
			if got, ok := impl.WithBeginning(b, s); len(got) != 0 || ok {
				t.Errorf("WithBeginning(%.200q, %q) = %v, %v", textOfBook(b), s, got, ok)
			}
		}
	}
}

// checkPrefixes compares FirstPrefix and IsPrefixFree with texts of signals that begin each other.
func checkPrefixes(t *testing.T, b impl.Book) {
	t.Helper()
	first, second, found := 0, 0, false
	for i := len(b.Phrases) - 1; i >= 0; i-- {
		for j := len(b.Phrases) - 1; j >= 0; j-- {
			if i != j && strings.HasPrefix(decimal(b.Phrases[j].Signals)+" ", decimal(b.Phrases[i].Signals)+" ") {
				first, second, found = i, j, true
			}
		}
	}
	if i, j, ok := impl.FirstPrefix(b); i != first || j != second || ok != found {
		t.Errorf("FirstPrefix(%v) = %d, %d, %v, want %d, %d, %v", b, i, j, ok, first, second, found)
	}
	if free, ok := impl.IsPrefixFree(b); free == found || !ok {
		t.Errorf("IsPrefixFree(%v) = %v, %v, want %v", b, free, ok, !found)
	}
}

func TestPrefixes(t *testing.T) {
	for _, b := range validBooks() {
		checkPrefixes(t, b)
	}
	smallBooks(4, func(b impl.Book) {
		checkPrefixes(t, b)
		// With the phrases in the other order the longer ones stand first.
		turned := impl.Book{Phrases: slices.Clone(b.Phrases)}
		for i := range turned.Phrases {
			turned.Phrases[i].Signals = b.Phrases[len(b.Phrases)-1-i].Signals
		}
		checkPrefixes(t, turned)
	})
	for _, c := range []struct {
		book          impl.Book
		first, second int
		found         bool
	}{
		{bookOf("a 1,2", "b 1", "c 2"), 1, 0, true},
		{bookOf("a 1,2,3", "b 1,2", "c 1"), 1, 0, true},
		{bookOf("a 1,2,3", "b 2", "c 1", "d 1,2"), 2, 0, true},
		{bookOf("a 3", "b 1", "c 1,2", "d 1,3"), 1, 2, true},
		{bookOf("a 12", "b 1,2", "c 2,1"), 0, 0, false},
		{bookOf("a 2,1", "b 1"), 0, 0, false},
		{bookOf("a 1"), 0, 0, false},
	} {
		if i, j, ok := impl.FirstPrefix(c.book); i != c.first || j != c.second || ok != c.found {
			t.Errorf("FirstPrefix(%v) = %d, %d, %v, want %d, %d, %v", c.book, i, j, ok, c.first, c.second, c.found)
		}
	}
	for _, b := range invalidBooks() {
		if i, j, ok := impl.FirstPrefix(b); i != 0 || j != 0 || ok {
			t.Errorf("FirstPrefix(%.200q) = %d, %d, %v", textOfBook(b), i, j, ok)
		}
		if free, ok := impl.IsPrefixFree(b); free || ok {
			t.Errorf("IsPrefixFree(%.200q) = %v, %v", textOfBook(b), free, ok)
		}
	}
}

// twiceRead tells whether two different lists of phrases have the same signals, at most so many, out of 60 and 1: it counts the lists of phrases and the different signals of them, which are fewer then.
func twiceRead(b impl.Book, most int) bool {
	lists := make([]int, most+1)
	read := make([][]bool, most+1)
	lists[0], read[0] = 1, []bool{true}
	for n := 1; n <= most; n++ {
		read[n] = make([]bool, 1<<n)
		for _, x := range b.Phrases {
			behind := n - len(x.Signals)
			if behind < 0 {
				continue
			}
			lists[n] += lists[behind]
			end := 0
			for _, s := range x.Signals {
				end = end*2 + s%2
			}
			for before, is := range read[behind] {
				if is {
					read[n][before<<len(x.Signals)|end] = true
				}
			}
		}
		different := 0
		for _, is := range read[n] {
			if is {
				different++
			}
		}
		if different < lists[n] {
			return true
		}
	}
	return false
}

func TestIsReadOneWay(t *testing.T) {
	counts := map[string]int{}
	smallBooks(14, func(b impl.Book) {
		oneWay, ok := impl.IsReadOneWay(b)
		if want := !twiceRead(b, 12); oneWay != want || !ok {
			t.Errorf("IsReadOneWay(%v) = %v, %v, want %v", b, oneWay, ok, want)
		}
		free, _ := impl.IsPrefixFree(b)
		counts[fmt.Sprint(oneWay, free)]++
	})
	if counts["true true"] == 0 || counts["true false"] == 0 || counts["false false"] == 0 || counts["false true"] != 0 {
		t.Errorf("the books that are read in one way and prefix-free: %v", counts)
	}
	for _, b := range invalidBooks() {
		if oneWay, ok := impl.IsReadOneWay(b); oneWay || ok {
			t.Errorf("IsReadOneWay(%.200q) = %v, %v", textOfBook(b), oneWay, ok)
		}
	}
}

func TestIsReadOneWayByBooks(t *testing.T) {
	for _, c := range []struct {
		book impl.Book
		want bool
	}{
		{bookOf("a 1"), true},
		{bookOf("a 1", "b 2"), true},
		{bookOf("a 12", "b 1,2"), true},
		{bookOf("a 1", "b 1,2"), true},
		{bookOf("a 1", "b 1,2", "c 1,2,2"), true},
		{bookOf("a 1", "b 1,1"), false},
		{bookOf("a 1,1", "b 1,1,1"), false},
		// Only lists of several phrases each: 1 2 then 3 1 is 1 2 3 then 1.
		{bookOf("a 1", "b 1,2", "c 1,2,3", "d 3,1"), false},
		{bookOf("b 1,2", "c 1,2,3", "d 3,1"), true},
		// 1 2, 3 4, 5 6, 7 is 1 2 3, 4 5, 6 7; without the last link nothing is read twice.
		{bookOf("a 1,2", "b 3,4", "c 5,6", "d 7", "e 1,2,3", "f 4,5", "g 6,7"), false},
		{bookOf("a 1,2", "b 3,4", "c 5,6", "e 1,2,3", "f 4,5", "g 6,7"), true},
		{bookOf("a 1,2", "b 3,4", "c 5,6", "d 7", "e 1,2,3", "g 6,7"), true},
		// The list that is behind ends with a phrase that is longer than the rest: 1, 2 3 4, 5 is 1 2, 3 4 5.
		{bookOf("a 1", "b 2,3,4", "c 5", "d 1,2", "e 3,4,5"), false},
		{bookOf("a 1", "b 2,3,4", "c 5", "d 1,2", "e 3,4"), false},
		{bookOf("a 1", "b 2,3,4", "c 6", "d 1,2", "e 3,4,5"), true},
		// A rest that comes again and again: 1, 2 3, 2 3 and so on is 1 2, 3 2, 3 2, and never ends in both ways.
		{bookOf("a 1", "b 2,3", "c 1,2", "d 3,2"), true},
		{bookOf("a 1", "b 2,3", "c 1,2", "d 3,2", "e 3"), false},
		{bookOf("a 1", "b 1,2", "c 2,1"), false},
		{bookOf("a 10,11", "b 10", "c 11,10,10"), false},
		{bookOf("a 10,11", "b 10", "c 11,10"), false},
	} {
		if got, ok := impl.IsReadOneWay(c.book); got != c.want || !ok {
			t.Errorf("IsReadOneWay(%v) = %v, %v, want %v", c.book, got, ok, c.want)
		}
	}
	var flat impl.Book
	for i := range 40 {
		flat.Phrases = append(flat.Phrases, impl.Phrase{Text: strings.Repeat("a", i/26+1) + string(rune('a'+i%26)), Signals: []int{60 - i}})
	}
	slices.SortFunc(flat.Phrases, func(x impl.Phrase, y impl.Phrase) int { return strings.Compare(x.Text, y.Text) })
	if oneWay, ok := impl.IsReadOneWay(flat); !oneWay || !ok {
		t.Errorf("IsReadOneWay of 40 single signals = %v, %v", oneWay, ok)
	}
	flat.Phrases[39].Signals = []int{60, 59, 58}
	if oneWay, ok := impl.IsReadOneWay(flat); oneWay || !ok {
		t.Errorf("IsReadOneWay of 39 single signals and three of them = %v, %v", oneWay, ok)
	}
}

// checkAdded compares AddPhrase with the sorted phrases.
func checkAdded(t *testing.T, b impl.Book, x impl.Phrase) {
	t.Helper()
	want := impl.Book{Phrases: append(slices.Clone(b.Phrases), x)}
	slices.SortStableFunc(want.Phrases, func(x impl.Phrase, y impl.Phrase) int { return strings.Compare(x.Text, y.Text) })
	good := goodBook(b) && goodBook(want)
	if !good {
		want = impl.Book{}
	}
	if got, ok := impl.AddPhrase(b, x); textOfBook(got) != textOfBook(want) || ok != good {
		t.Errorf("AddPhrase(%.200q, %.80s) = %.200q, %v, want %v", textOfBook(b), fmt.Sprint(x), textOfBook(got), ok, good)
	}
}

func TestAddPhrase(t *testing.T) {
	added := bookOf("a 33", "zzzzzzzzzzzz 33,34,35", "b 1", "m 1,2", "ab 55,1", "aaaaaaaaaaaa 60", "abcdefghijkl 60,1,60").Phrases
	for _, text := range invalidPhraseTexts() {
		added = append(added, impl.Phrase{Text: text, Signals: []int{33, 34}})
	}
	for _, signals := range invalidPhraseSignals() {
		added = append(added, impl.Phrase{Text: "mm", Signals: signals})
	}
	for _, b := range validBooks() {
		for _, x := range added {
			checkAdded(t, b, x)
		}
		for _, x := range b.Phrases {
			checkAdded(t, b, x)
			checkAdded(t, b, impl.Phrase{Text: x.Text, Signals: []int{33, 34, 35}})
			checkAdded(t, b, impl.Phrase{Text: "mn", Signals: x.Signals})
			checkAdded(t, b, impl.Phrase{Text: x.Text[:len(x.Text)/2+1] + "k", Signals: []int{33, 34, 35}})
		}
	}
	for _, b := range invalidBooks() {
		checkAdded(t, b, impl.Phrase{Text: "q", Signals: []int{33, 34, 35}})
	}
	if b, ok := impl.AddPhrase(longBook(39), impl.Phrase{Text: "a", Signals: []int{33}}); len(b.Phrases) != 0 || ok {
		t.Errorf("AddPhrase of a text twice = %v, %v", b, ok)
	}
	if b, ok := impl.AddPhrase(longBook(39), impl.Phrase{Text: "mmm", Signals: []int{33}}); len(b.Phrases) != 40 || !ok {
		t.Errorf("AddPhrase to 39 phrases = %v, %v", b, ok)
	}
	if b, ok := impl.AddPhrase(longBook(40), impl.Phrase{Text: "mmm", Signals: []int{33}}); len(b.Phrases) != 0 || ok {
		t.Errorf("AddPhrase to 40 phrases = %v, %v", b, ok)
	}
	// A phrase that makes a book valid again is not added to a book that is not valid.
	if b, ok := impl.AddPhrase(impl.Book{}, impl.Phrase{Text: "a", Signals: []int{1}}); len(b.Phrases) != 0 || ok {
		t.Errorf("AddPhrase to no phrases = %v, %v", b, ok)
	}
}

func TestDropPhrase(t *testing.T) {
	check := func(b impl.Book, text string) {
		t.Helper()
		want := impl.Book{Phrases: slices.DeleteFunc(slices.Clone(b.Phrases), func(x impl.Phrase) bool { return x.Text == text })}
		good := goodBook(b) && goodBook(want) && len(want.Phrases) < len(b.Phrases)
		if !good {
			want = impl.Book{}
		}
		if got, ok := impl.DropPhrase(b, text); textOfBook(got) != textOfBook(want) || ok != good {
			t.Errorf("DropPhrase(%.200q, %.20q) = %.200q, %v, want %v", textOfBook(b), text, textOfBook(got), ok, good)
		}
	}
	for _, b := range validBooks() {
		for _, x := range b.Phrases {
			for _, s := range []string{x.Text, x.Text + "a", x.Text[1:], "m", "zzzzzzzzzzzy"} {
				check(b, s)
			}
		}
		for _, s := range invalidPhraseTexts() {
			check(b, s)
		}
	}
	for _, b := range invalidBooks() {
		for _, x := range b.Phrases[max(0, len(b.Phrases)-3):] {
			check(b, x.Text)
		}
	}
	// Dropping the fault of a book that is not valid does not make the call succeed.
	if b, ok := impl.DropPhrase(bookOf("a 1", "b 1"), "b"); len(b.Phrases) != 0 || ok {
		t.Errorf("DropPhrase from an invalid book = %v, %v", b, ok)
	}
	if b, ok := impl.DropPhrase(longBook(41), longBook(41).Phrases[40].Text); len(b.Phrases) != 0 || ok {
		t.Errorf("DropPhrase from 41 phrases = %v, %v", b, ok)
	}
	if b, ok := impl.DropPhrase(bookOf("a 1"), "a"); len(b.Phrases) != 0 || ok {
		t.Errorf("DropPhrase of the only phrase = %v, %v", b, ok)
	}
}

func TestAddAndDropUndoEachOther(t *testing.T) {
	for _, b := range validBooks() {
		for _, x := range b.Phrases {
			dropped, ok := impl.DropPhrase(b, x.Text)
			if !ok {
				continue
			}
			if back, ok := impl.AddPhrase(dropped, x); !reflect.DeepEqual(back, b) || !ok {
				t.Errorf("AddPhrase(DropPhrase(%v, %q)) = %v, %v", b, x.Text, back, ok)
			}
		}
	}
}

func TestBookText(t *testing.T) {
	for _, b := range validBooks() {
		text, ok := impl.BookText(b)
		if text != textOfBook(b) || !ok {
			t.Errorf("BookText(%v) = %q, %v", b, text, ok)
		}
		if back, ok := impl.ParseBook(text); !reflect.DeepEqual(back, b) || !ok {
			t.Errorf("ParseBook(%q) = %v, %v", text, back, ok)
		}
	}
	for _, b := range invalidBooks() {
		if text, ok := impl.BookText(b); text != "" || ok {
			t.Errorf("BookText(%.200q) = %q, %v", textOfBook(b), text, ok)
		}
		if back, ok := impl.ParseBook(textOfBook(b)); len(back.Phrases) != 0 || ok {
			t.Errorf("ParseBook of the text of %.200q = %v, %v", textOfBook(b), back, ok)
		}
	}
}

// parsed returns the book with a BookText, read by an expression.
func parsed(s string) (impl.Book, bool) {
	if !bookTextForm.MatchString(s) {
		return impl.Book{}, false
	}
	b := bookOf(strings.Split(strings.TrimSuffix(strings.ReplaceAll(s, "-", ","), "\n"), "\n")...)
	if !goodBook(b) {
		return impl.Book{}, false
	}
	return b, true
}

func TestParseBook(t *testing.T) {
	check := func(s string) {
		t.Helper()
		want, wantOk := parsed(s)
		if got, ok := impl.ParseBook(s); textOfBook(got) != textOfBook(want) || ok != wantOk {
			t.Errorf("ParseBook(%.60q) = %v, %v, want %v", s, got, ok, wantOk)
		}
	}
	textsOver("ab2 -\n", 6, check)
	textsOver("a06-\n", 5, func(s string) { check("a " + s) })
	for _, b := range validBooks() {
		text := textOfBook(b)
		check(text[:len(text)-1])
		for i := range min(len(text), 200) {
			check(text[:i])
			check(text[i:])
			check(text[:i] + text[i+1:])
			for _, c := range []string{"a", "Z", "0", "1", "-", " ", "\n", "\r", "\t", "\x00", "\xff", "+", "\u00e9"} {
				check(text[:i] + c + text[i:])
				check(text[:i] + c + text[i+1:])
			}
		}
	}
}

func TestParseBookInvalid(t *testing.T) {
	texts := []string{
		"", "\n", "\n\n", " ", "a", "a\n", "a ", "a \n", "a 1", "a 1 \n", "a  1\n", " a 1\n", "a 1\n\n", "\na 1\n", "a 1\r\n", "a 1\nb 2", "a 1\n\nb 2\n", "a 1\nb 2\n ",
		"a 0\n", "a 61\n", "a 62\n", "a 63\n", "a 01\n", "a +1\n", "a -1\n", "a -0\n", "a 1-\n", "a -1-2\n", "a 1--2\n", "a 1-2-3-4\n", "a 1-02\n", "a 1-+2\n", "a 1 2\n", "a 1,2\n", "a 1.0\n", "a 0x1\n", "a 1_0\n", "a 1e0\n",
		"A 1\n", "a1 1\n", " 1\n", "1\n", "1 1\n", "abcdefghijklm 1\n", "a\t1\n", "a\u00a01\n", "\u00e9 1\n", "a\x00 1\n", "a 1\x00\n", "a 1\n\x00", "\ufeffa 1\n", "a \u0661\n",
		"b 1\na 2\n", "a 1\na 2\n", "a 1\nb 1\n", "a 1\na 1\n", "a 1-2\nb 2\nc 1-2\n",
		"a 18446744073709551617\n", "a 4294967297\n", "a 9223372036854775808\n", "a 257\n", "a " + strings.Repeat("9", 1000) + "\n", "a " + strings.Repeat("0", 1000) + "1\n",
		textOfBook(longBook(41)), strings.Repeat("a 1\n", 100000), strings.Repeat("\n", 100000), "a " + strings.Repeat("1-", 100000) + "1\n", strings.Repeat("a", 100000), strings.Repeat(" ", 100000),
	}
	for _, s := range texts {
		if got, ok := impl.ParseBook(s); len(got.Phrases) != 0 || ok {
			t.Errorf("ParseBook(%.40q) = %v, %v", s, got, ok)
		}
	}
}

// bookArguments are what the functions of chapter 2 get, so that checkPure sees all of it.
type bookArguments struct {
	Book    impl.Book
	Phrase  impl.Phrase
	Signals []int
	Text    string
}

// bookCalls calls all functions of chapter 2.
func bookCalls() map[string]func(a bookArguments) []any {
	return map[string]func(a bookArguments) []any{
		"IsPhraseText": func(a bookArguments) []any { return []any{impl.IsPhraseText(a.Text)} },
		"IsBook":       func(a bookArguments) []any { return []any{impl.IsBook(a.Book)} },
		"FindPhrase":   func(a bookArguments) []any { i, ok := impl.FindPhrase(a.Book, a.Text); return []any{i, ok} },
		"PhraseOf":     func(a bookArguments) []any { i, ok := impl.PhraseOf(a.Book, a.Signals); return []any{i, ok} },
		"WithBeginning": func(a bookArguments) []any {
			l, ok := impl.WithBeginning(a.Book, a.Text)
			return []any{l, ok}
		},
		"IsPrefixFree": func(a bookArguments) []any { is, ok := impl.IsPrefixFree(a.Book); return []any{is, ok} },
		"FirstPrefix":  func(a bookArguments) []any { i, j, ok := impl.FirstPrefix(a.Book); return []any{i, j, ok} },
		"IsReadOneWay": func(a bookArguments) []any { is, ok := impl.IsReadOneWay(a.Book); return []any{is, ok} },
		"AddPhrase":    func(a bookArguments) []any { b, ok := impl.AddPhrase(a.Book, a.Phrase); return []any{b, ok} },
		"DropPhrase":   func(a bookArguments) []any { b, ok := impl.DropPhrase(a.Book, a.Text); return []any{b, ok} },
		"BookText":     func(a bookArguments) []any { s, ok := impl.BookText(a.Book); return []any{s, ok} },
		"ParseBook":    func(a bookArguments) []any { b, ok := impl.ParseBook(a.Text); return []any{b, ok} },
	}
}

func TestBookFunctionsArePure(t *testing.T) {
	calls := bookCalls()
	if len(calls) != 12 {
		t.Errorf("%d functions", len(calls))
	}
	books := validBooks()
	for i, b := range invalidBooks() {
		if i < 40 && len(b.Phrases) < 100 {
			books = append(books, b)
		}
	}
	for _, b := range books {
		texts := []string{"", "mm", "a", "ab", "z", "abcdefghijkl", "A", textOfBook(b)}
		lists := [][]int{nil, {33, 34, 35}, {1}, {61}}
		for i, text := range texts {
			signals := lists[i%len(lists)]
			arguments := bookArguments{Book: b, Phrase: impl.Phrase{Text: text, Signals: signals}, Signals: signals, Text: text}
			for name, call := range calls {
				checkPure(t, name, arguments, call)
			}
		}
	}
}

// TestBookArgumentsInOneMemory gives books whose lists lie in one array, one behind the other.
func TestBookArgumentsInOneMemory(t *testing.T) {
	memory := []int{1, 2, 3, 4, 5, 6, 7}
	phrases := []impl.Phrase{{Text: "a", Signals: memory[:1]}, {Text: "b", Signals: memory[:2]}, {Text: "d", Signals: memory[1:4]}, {Text: "e", Signals: memory[4:6]}, {Text: "f", Signals: memory[6:]}}
	b := impl.Book{Phrases: phrases[:4]}
	added, ok := impl.AddPhrase(b, impl.Phrase{Text: "c", Signals: memory[:3]})
	if textOfBook(added) != "a 1\nb 1-2\nc 1-2-3\nd 2-3-4\ne 5-6\n" || !ok {
		t.Errorf("AddPhrase = %v, %v", added, ok)
	}
	dropped, ok := impl.DropPhrase(b, "b")
	if textOfBook(dropped) != "a 1\nd 2-3-4\ne 5-6\n" || !ok {
		t.Errorf("DropPhrase = %v, %v", dropped, ok)
	}
	if !slices.Equal(memory, []int{1, 2, 3, 4, 5, 6, 7}) || phrases[4].Text != "f" {
		t.Errorf("the arguments are %v, %v now", memory, phrases)
	}
	for _, x := range slices.Concat(added.Phrases, dropped.Phrases) {
		for i := range x.Signals[:cap(x.Signals)] {
			x.Signals[:cap(x.Signals)][i] = -1
		}
	}
	if !slices.Equal(memory, []int{1, 2, 3, 4, 5, 6, 7}) {
		t.Errorf("the results share memory with the arguments: %v", memory)
	}
}

func TestBookFunctionsAcceptAllArguments(t *testing.T) {
	calls := bookCalls()
	books := append(validBooks(), invalidBooks()...)
	for i, b := range books {
		texts := invalidPhraseTexts()
		lists := invalidPhraseSignals()
		text, signals := texts[i%len(texts)], lists[i%len(lists)]
		if i%3 == 0 {
			signals = []int{math.MaxInt, math.MinInt}[:i%2+1]
		}
		for name, call := range calls {
			results := call(bookArguments{Book: b, Phrase: impl.Phrase{Text: text, Signals: signals}, Signals: signals, Text: text})
			if name == "AddPhrase" && results[1] != false {
				t.Errorf("AddPhrase(%.200q, %q, %v) succeeded", textOfBook(b), text, signals)
			}
		}
	}
}
