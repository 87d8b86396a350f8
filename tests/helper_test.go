package tests

import (
	"math"
	"slices"
	"testing"
)

// sentinel fills the spare capacity of arguments; no signal or index has this value.
const sentinel = -987654321

// withSpare returns a copy of a list and the array behind it, which goes on with sentinels.
func withSpare(l []int) (list []int, backing []int) {
	backing = make([]int, len(l)+8)
	for i := range backing {
		backing[i] = sentinel
	}
	copy(backing, l)
	return backing[:len(l)], backing
}

// checkUntouched calls f with a list that has spare capacity, and fails if f changes anything of its memory.
func checkUntouched(t *testing.T, name string, l []int, f func(l []int)) {
	t.Helper()
	list, backing := withSpare(l)
	before := slices.Clone(backing)
	f(list)
	if !slices.Equal(backing, before) {
		t.Errorf("%s(%v) changed its argument's memory to %v", name, l, backing)
	}
}

// checkOwnMemory overwrites all that a result gives access to, and fails if the argument's memory or the result of another call of f changes, or if the result changes with the argument.
func checkOwnMemory(t *testing.T, name string, l []int, f func(l []int) []int) {
	t.Helper()
	list, backing := withSpare(l)
	before := slices.Clone(backing)
	first, second := f(list), f(list)
	want := slices.Clone(second)

	whole := first[:cap(first)]
	for i := range whole {
		whole[i] = -1
	}
	if !slices.Equal(backing, before) {
		t.Errorf("%s(%v): the result shares memory with the argument", name, l)
	}
	if !slices.Equal(second, want) {
		t.Errorf("%s(%v): the results of two calls share memory", name, l)
	}
	for i := range backing {
		backing[i] = -2
	}
	if !slices.Equal(second, want) {
		t.Errorf("%s(%v): the result changes with the argument", name, l)
	}
}

// oddInts are integers at the ends of all ranges that matter for shifts and conversions.
func oddInts() []int {
	return []int{
		math.MinInt, math.MinInt + 1, math.MinInt32, -65536, -256, -100, -65, -64, -63, -61, -60, -6, -2, -1,
		64, 65, 100, 127, 128, 255, 256, 319, 65536, 1 << 20, math.MaxInt32, math.MaxInt32 + 1, 1 << 40, math.MaxInt - 1, math.MaxInt,
	}
}

// repeated returns a list that has the value n so many times.
func repeated(n int, times int) []int { return slices.Repeat([]int{n}, times) }

// textsOver calls f with every string of at most so many letters of an alphabet.
func textsOver(alphabet string, most int, f func(s string)) {
	f("")
	if most == 0 {
		return
	}
	for i := range len(alphabet) {
		textsOver(alphabet, most-1, func(s string) { f(alphabet[i:i+1] + s) })
	}
}
