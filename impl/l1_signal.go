package impl

import (
	"math/bits"
	"strconv"
	"strings"
)

const SgIdle = 0
const SgEnd = 61
const SgRepeat = 62
const SgError = 63
const MaxContent = 60
const MaxSignals = 100

const shutterCount = 6
const sideShutters = 3
const allShutters = 1<<shutterCount - 1

const closedShutter = '#'
const openShutter = '.'

// IsContent reports whether a number is content.
func IsContent(n int) bool { return n >= 1 && n <= MaxContent }

// ClosedShutters returns the closed shutters, strictly increasing.
func ClosedShutters(n int) ([]int, bool) {
	if !isSignal(n) {
		return nil, false
	}
	return shuttersIn(n), true
}

// SignalText returns the text of a signal.
func SignalText(n int) (string, bool) {
	if !isSignal(n) {
		return "", false
	}
	var text strings.Builder
	for i := range shutterCount {
		text.WriteRune(shutterRune(n, i))
	}
	return text.String(), true
}

// ReadSignal returns the signal with a text. It fails if there is none.
func ReadSignal(s string) (int, bool) {
	if len(s) != shutterCount {
		return 0, false
	}
	n := 0
	// The byte index i is the shutter, as a rune of more than one byte ends the loop.
	for i, r := range s {
		switch r {
		case closedShutter:
			n |= 1 << i
		case openShutter:
		default:
			return 0, false
		}
	}
	return n, true
}

// SignalDistance returns how many shutters differ in two signals.
func SignalDistance(a int, b int) (int, bool) {
	if !isSignal(a) || !isSignal(b) {
		return 0, false
	}
	return countChanged(a, b), true
}

// ChangedShutters returns the shutters that differ in two signals, strictly increasing.
func ChangedShutters(a int, b int) ([]int, bool) {
	if !isSignal(a) || !isSignal(b) {
		return nil, false
	}
	return shuttersIn(a ^ b), true
}

// MirrorSignal returns the signal as it is seen from behind: the shutters 0 and 3, 1 and 4, 2 and 5 are exchanged.
func MirrorSignal(n int) (int, bool) {
	if !isSignal(n) {
		return 0, false
	}
	return n>>sideShutters | n<<sideShutters&allShutters, true
}

// TurnSignal returns the signal in which each shutter is closed if and only if it was open.
func TurnSignal(n int) (int, bool) {
	if !isSignal(n) {
		return 0, false
	}
	return n ^ allShutters, true
}

// MovementsOf returns how many shutters must move to show a list of signals one after the other, from SgIdle on, and then SgIdle again.
func MovementsOf(l []int) (int, bool) {
	if !areSignals(l) {
		return 0, false
	}
	shown, moved := SgIdle, 0
	show := func(n int) {
		moved += countChanged(shown, n)
		shown = n
	}
	for _, n := range l {
		show(n)
	}
	show(SgIdle)
	return moved, true
}

// NearestSignals returns the indices of the elements of a list with the least distance from a signal, strictly increasing. It fails for an empty list.
func NearestSignals(n int, l []int) ([]int, bool) {
	if !isSignal(n) || !areSignals(l) || len(l) == 0 {
		return nil, false
	}
	least := shutterCount
	for _, x := range l {
		least = min(least, countChanged(n, x))
	}
	var nearest []int
	for i, x := range l {
		if countChanged(n, x) == least {
			nearest = append(nearest, i)
		}
	}
	return nearest, true
}

// SignalsText returns the signals in decimal, separated by single blanks.
func SignalsText(l []int) (string, bool) {
	if !areSignals(l) {
		return "", false
	}
	return writeNumbers(l, " "), true
}

// ReadSignals returns the list with a SignalsText. It fails if there is none.
func ReadSignals(s string) ([]int, bool) {
	l, ok := readNumbers(s, " ", MaxSignals)
	if !ok || !areSignals(l) {
		return nil, false
	}
	return l, true
}

func isSignal(n int) bool { return n >= 0 && n <= allShutters }

func areSignals(l []int) bool {
	if len(l) > MaxSignals {
		return false
	}
	for _, n := range l {
		if !isSignal(n) {
			return false
		}
	}
	return true
}

func isClosed(n int, shutter int) bool { return n>>shutter&1 == 1 }

func shutterRune(n int, shutter int) rune {
	if isClosed(n, shutter) {
		return closedShutter
	}
	return openShutter
}

func shuttersIn(n int) []int {
	var closed []int
	for i := range shutterCount {
		if isClosed(n, i) {
			closed = append(closed, i)
		}
	}
	return closed
}

func countChanged(a int, b int) int { return bits.OnesCount(uint(a ^ b)) }

// readNumber accepts a number only as strconv.Itoa writes it, so that no two texts are read as the same value.
func readNumber(word string) (int, bool) {
	n, err := strconv.Atoi(word)
	if err != nil || strconv.Itoa(n) != word {
		return 0, false
	}
	return n, true
}

func writeNumbers(l []int, separator string) string {
	words := make([]string, len(l))
	for i, n := range l {
		words[i] = strconv.Itoa(n)
	}
	return strings.Join(words, separator)
}

// readNumbers reads at most so many numbers as writeNumbers writes them.
func readNumbers(s string, separator string, most int) ([]int, bool) {
	// Splitting the empty text would give one empty word instead of none.
	if s == "" {
		return nil, true
	}
	words := strings.SplitN(s, separator, most+1)
	if len(words) > most {
		return nil, false
	}
	l := make([]int, len(words))
	for i, word := range words {
		n, ok := readNumber(word)
		if !ok {
			return nil, false
		}
		l[i] = n
	}
	return l, true
}
