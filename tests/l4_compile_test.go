package tests

import (
	"fmt"
	"reflect"
	"slices"
	"testing"

	"loop.example/g00940/impl"
)

// listsOver calls f with every list of so many integers from least to greatest, in lexicographic order.
func listsOver(count int, least int, greatest int, f func(l []int)) {
	l := make([]int, count)
	var fill func(at int)
	fill = func(at int) {
		if at == count {
			f(l)
			return
		}
		for l[at] = least; l[at] <= greatest; l[at]++ {
			fill(at + 1)
		}
	}
	fill(0)
}

// risingLists calls f with every list of so many integers from 1 to greatest that never fall, in lexicographic order.
func risingLists(count int, greatest int, f func(l []int)) {
	l := make([]int, count)
	var fill func(at int, least int)
	fill = func(at int, least int) {
		if at == count {
			f(l)
			return
		}
		for n := least; n <= greatest; n++ {
			l[at] = n
			fill(at+1, n)
		}
	}
	fill(0, 1)
}

// haveRoom tells whether there is a code, by the places that are left at each length, without the program.
func haveRoom(lengths []int, r int) bool {
	left := 1
	for length := 1; length <= 6; length++ {
		left *= r
		for _, n := range lengths {
			if n == length {
				left--
			}
		}
		if left < 0 {
			return false
		}
	}
	return true
}

func firstDigitsAre(word []int, digits []int) bool {
	return len(word) <= len(digits) && slices.Equal(word, digits[:len(word)])
}

// areApart tells whether no word begins another one and no two are equal.
func areApart(code [][]int) bool {
	for i, a := range code {
		for k, b := range code {
			if i != k && firstDigitsAre(a, b) {
				return false
			}
		}
	}
	return true
}

// findsCode tells whether there is a code by trying all words.
func findsCode(code [][]int, lengths []int, r int) bool {
	if !areApart(code) {
		return false
	}
	if len(code) == len(lengths) {
		return true
	}
	found := false
	listsOver(lengths[len(code)], 0, r-1, func(word []int) {
		found = found || findsCode(append(slices.Clone(code), slices.Clone(word)), lengths, r)
	})
	return found
}

// fallingOrder returns the indices of weights in falling order, equal ones by their indices, by taking the greatest one that is left.
func fallingOrder(weights []int) []int {
	var order []int
	for range weights {
		next := -1
		for i, n := range weights {
			if !slices.Contains(order, i) && (next < 0 || n > weights[next]) {
				next = i
			}
		}
		order = append(order, next)
	}
	return order
}

// costOf returns the cost without the program.
func costOf(weights []int, lengths []int) int {
	cost := 0
	for i := range weights {
		cost += weights[i] * lengths[i]
	}
	return cost
}

// leastByTrying returns the first of the lists of lengths that have the least cost, by trying all those that never fall.
func leastByTrying(weights []int, r int, limit int) []int {
	order := fallingOrder(weights)
	falling := make([]int, len(weights))
	for at, i := range order {
		falling[at] = weights[i]
	}
	var best []int
	risingLists(len(weights), limit, func(l []int) {
		if (best == nil || costOf(falling, l) < costOf(falling, best)) && haveRoom(l, r) {
			best = slices.Clone(l)
		}
	})
	if best == nil {
		return nil
	}
	lengths := make([]int, len(weights))
	for at, i := range order {
		lengths[i] = best[at]
	}
	return lengths
}

// someWeights returns weights below a number that look mixed; the seed makes them others.
func someWeights(count int, below int, seed int) []int {
	l := make([]int, count)
	for i := range l {
		seed = (seed*1103515245 + 12345) & 0x7fffffff
		l[i] = (seed >> 8) % below
	}
	return l
}

// codeArguments are what the functions of chapter 4 get, so that checkPure sees all of it.
type codeArguments struct {
	Weights []int
	Lengths []int
	Base    int
	Limit   int
	Words   int
	Code    [][]int
	List    []int
	Digits  []int
}

// codeCalls calls all functions of chapter 4.
func codeCalls() map[string]func(a codeArguments) []any {
	return map[string]func(a codeArguments) []any{
		"LeastLengths": func(a codeArguments) []any {
			l, ok := impl.LeastLengths(a.Weights, a.Base, a.Limit)
			return []any{l, ok}
		},
		"LeastCost":     func(a codeArguments) []any { n, ok := impl.LeastCost(a.Weights, a.Base, a.Limit); return []any{n, ok} },
		"CostOf":        func(a codeArguments) []any { n, ok := impl.CostOf(a.Weights, a.Lengths); return []any{n, ok} },
		"KraftSum":      func(a codeArguments) []any { n, m, ok := impl.KraftSum(a.Lengths, a.Base); return []any{n, m, ok} },
		"HasCode":       func(a codeArguments) []any { is, ok := impl.HasCode(a.Lengths, a.Base); return []any{is, ok} },
		"CanonicalCode": func(a codeArguments) []any { c, ok := impl.CanonicalCode(a.Lengths, a.Base); return []any{c, ok} },
		"FlatLength":    func(a codeArguments) []any { n, ok := impl.FlatLength(a.Words, a.Base); return []any{n, ok} },
		"WriteWords":    func(a codeArguments) []any { l, ok := impl.WriteWords(a.Code, a.List); return []any{l, ok} },
		"ReadWords":     func(a codeArguments) []any { l, ok := impl.ReadWords(a.Code, a.Digits); return []any{l, ok} },
	}
}

// checkFails fails if one of the named functions gives any result that is not a zero one.
func checkFails(t *testing.T, a codeArguments, names ...string) {
	t.Helper()
	checkAllRefused(t, codeCalls(), a, names...)
}

// goodArguments returns arguments with which all functions of chapter 4 succeed.
func goodArguments() codeArguments {
	return codeArguments{
		Weights: []int{5, 0, 10000},
		Lengths: []int{2, 6, 1},
		Base:    2,
		Limit:   6,
		Words:   20,
		Code:    [][]int{{0}, {59, 0}, {59, 1, 2, 3, 4, 5}},
		List:    []int{2, 0, 1},
		Digits:  []int{59, 0, 0, 59, 1, 2, 3, 4, 5},
	}
}

func TestCompileExample(t *testing.T) {
	weights := []int{5, 1, 1}
	if l, ok := impl.LeastLengths(weights, 2, 6); !slices.Equal(l, []int{1, 2, 2}) || !ok {
		t.Errorf("LeastLengths = %v, %v", l, ok)
	}
	if n, ok := impl.LeastCost(weights, 2, 6); n != 9 || !ok {
		t.Errorf("LeastCost = %d, %v", n, ok)
	}
	if n, ok := impl.CostOf(weights, []int{2, 2, 2}); n != 14 || !ok {
		t.Errorf("CostOf = %d, %v", n, ok)
	}
	code, ok := impl.CanonicalCode([]int{1, 2, 2}, 2)
	if !reflect.DeepEqual(code, [][]int{{0}, {1, 0}, {1, 1}}) || !ok {
		t.Fatalf("CanonicalCode = %v, %v", code, ok)
	}
	if l, ok := impl.WriteWords(code, []int{2, 0}); !slices.Equal(l, []int{1, 1, 0}) || !ok {
		t.Errorf("WriteWords = %v, %v", l, ok)
	}
	if l, ok := impl.ReadWords(code, []int{1, 1, 0}); !slices.Equal(l, []int{2, 0}) || !ok {
		t.Errorf("ReadWords = %v, %v", l, ok)
	}
	if impl.MaxWeights != 20 || impl.MaxDepth != 6 {
		t.Errorf("MaxWeights = %d, MaxDepth = %d", impl.MaxWeights, impl.MaxDepth)
	}
	for name, call := range codeCalls() {
		for _, result := range call(goodArguments()) {
			if ok, is := result.(bool); is && !ok {
				t.Errorf("%s gives %v", name, call(goodArguments()))
			}
		}
	}
}

// checkLeast compares the least lengths and their cost with wanted ones; nil are lengths that do not exist.
func checkLeast(t *testing.T, weights []int, r int, limit int, want []int) {
	t.Helper()
	l, ok := impl.LeastLengths(weights, r, limit)
	if !slices.Equal(l, want) || ok != (want != nil) {
		t.Errorf("LeastLengths(%v, %d, %d) = %v, %v, want %v", weights, r, limit, l, ok, want)
		return
	}
	if !ok {
		checkFails(t, codeArguments{Weights: weights, Base: r, Limit: limit}, "LeastLengths", "LeastCost")
		return
	}
	if n, ok := impl.LeastCost(weights, r, limit); n != costOf(weights, want) || !ok {
		t.Errorf("LeastCost(%v, %d, %d) = %d, %v, want %d", weights, r, limit, n, ok, costOf(weights, want))
	}
	if is, ok := impl.HasCode(l, r); !is || !ok {
		t.Errorf("LeastLengths(%v, %d, %d) = %v has no code", weights, r, limit, l)
	}
	if code, ok := impl.CanonicalCode(l, r); len(code) != len(weights) || !ok {
		t.Errorf("LeastLengths(%v, %d, %d) = %v has no canonical code", weights, r, limit, l)
	}
}

func TestLeastLengthsOfFewWeights(t *testing.T) {
	some := []int{0, 1, 2, 5, 10000}
	for count := 1; count <= 4; count++ {
		listsOver(count, 0, len(some)-1, func(l []int) {
			weights := make([]int, count)
			for i, k := range l {
				weights[i] = some[k]
			}
			for r := 2; r <= 5; r++ {
				for limit := 1; limit <= 6; limit++ {
					checkLeast(t, weights, r, limit, leastByTrying(weights, r, limit))
				}
			}
		})
	}
}

// TestLeastCostIsLeast compares the least cost with that of all lengths that have a code, those that fall too.
func TestLeastCostIsLeast(t *testing.T) {
	for _, weights := range [][]int{{3}, {0}, {1, 2}, {0, 7, 7}, {9, 4, 1}, {1, 2, 3, 4}, {4, 4, 4, 4}, {10000, 1, 0, 1}, {5, 1, 1, 1, 1}, {1, 3, 9, 27, 81}} {
		for r := 2; r <= 4; r++ {
			for limit := 1; limit <= 5; limit++ {
				least, found := 0, false
				listsOver(len(weights), 1, limit, func(l []int) {
					if cost := costOf(weights, l); haveRoom(l, r) && (!found || cost < least) {
						least, found = cost, true
					}
				})
				if n, ok := impl.LeastCost(weights, r, limit); n != least || ok != found {
					t.Errorf("LeastCost(%v, %d, %d) = %d, %v, want %d, %v", weights, r, limit, n, ok, least, found)
				}
			}
		}
	}
}

func TestLeastLengthsOfManyWeights(t *testing.T) {
	for count := 5; count <= 9; count++ {
		for seed, below := range []int{2, 4, 10, 100, 10001} {
			weights := someWeights(count, below, 1000*count+seed)
			for _, r := range []int{2, 3, 4, 7, 60} {
				for limit := 1; limit <= 6; limit++ {
					checkLeast(t, weights, r, limit, leastByTrying(weights, r, limit))
				}
			}
		}
	}
	for seed, below := range []int{1, 3, 50, 10001} {
		weights := someWeights(20, below, seed)
		for _, r := range []int{2, 3, 5, 19, 20} {
			for _, limit := range []int{1, 3, 4, 5, 6} {
				checkLeast(t, weights, r, limit, leastByTrying(weights, r, limit))
			}
		}
	}
	// Weights that double need a word of each length, but for the limit.
	doubled := []int{1, 2, 4, 8, 16, 32, 64, 128, 256, 512, 1024, 2048, 4096, 8192}
	for limit := 1; limit <= 6; limit++ {
		checkLeast(t, doubled, 2, limit, leastByTrying(doubled, 2, limit))
	}
}

func TestLeastLengthsByWeights(t *testing.T) {
	for _, c := range []struct {
		weights []int
		r       int
		limit   int
		want    []int
	}{
		// One weight alone has a word of one digit.
		{[]int{0}, 2, 1, []int{1}},
		{[]int{10000}, 60, 6, []int{1}},
		{[]int{7}, 2, 6, []int{1}},
		// All weights equal, and weights of 0, which may have the longer words.
		{[]int{1, 1}, 2, 1, []int{1, 1}},
		{[]int{1, 1, 1}, 2, 6, []int{1, 2, 2}},
		{[]int{1, 1, 1, 1}, 2, 6, []int{2, 2, 2, 2}},
		{[]int{1, 1, 1, 1, 1}, 2, 6, []int{2, 2, 2, 3, 3}},
		{[]int{3, 3, 3, 3}, 3, 6, []int{1, 1, 2, 2}},
		{[]int{0, 0, 0}, 2, 6, []int{1, 2, 2}},
		{[]int{0, 0, 0, 0}, 2, 6, []int{1, 2, 3, 3}},
		{[]int{0, 0, 0, 0}, 2, 2, []int{2, 2, 2, 2}},
		{[]int{0, 0, 0, 0, 0, 0, 0}, 2, 6, []int{1, 2, 3, 4, 5, 6, 6}},
		{[]int{0, 0, 0, 0, 0, 0, 0}, 3, 6, []int{1, 1, 2, 2, 3, 3, 3}},
		{[]int{0, 1, 0, 1}, 3, 6, []int{2, 1, 2, 1}},
		{[]int{0, 9, 0, 0}, 2, 6, []int{2, 1, 3, 3}},
		// Of several lengths with the least cost the first ones in the falling order of the weights.
		{[]int{2, 2, 1, 1}, 2, 6, []int{1, 2, 3, 3}},
		{[]int{1, 1, 2, 2}, 2, 6, []int{3, 3, 1, 2}},
		{[]int{1, 2, 2, 1}, 2, 6, []int{3, 1, 2, 3}},
		{[]int{1, 2, 1, 2}, 2, 6, []int{3, 1, 3, 2}},
		{[]int{1, 2, 2, 1}, 2, 2, []int{2, 2, 2, 2}},
		{[]int{2, 1, 1}, 2, 6, []int{1, 2, 2}},
		{[]int{1, 1, 2}, 2, 6, []int{2, 2, 1}},
		{[]int{5, 7, 5, 7}, 3, 6, []int{2, 1, 2, 1}},
		// A limit that changes the lengths, one that just suffices, and one that does not.
		{[]int{8, 4, 2, 1, 1}, 2, 6, []int{1, 2, 3, 4, 4}},
		{[]int{8, 4, 2, 1, 1}, 2, 4, []int{1, 2, 3, 4, 4}},
		{[]int{8, 4, 2, 1, 1}, 2, 3, []int{1, 3, 3, 3, 3}},
		{[]int{8, 4, 2, 1, 1}, 2, 2, nil},
		{[]int{8, 4, 2, 1}, 2, 2, []int{2, 2, 2, 2}},
		{[]int{8, 4, 2, 1}, 2, 1, nil},
		{[]int{1, 2, 3}, 2, 1, nil},
		{[]int{1, 2, 3}, 3, 1, []int{1, 1, 1}},
		{repeated(1, 9), 3, 2, repeated(2, 9)},
		{repeated(1, 10), 3, 2, nil},
		{repeated(0, 16), 2, 4, repeated(4, 16)},
		{repeated(0, 17), 2, 4, nil},
		{repeated(10000, 20), 2, 5, append(repeated(4, 12), repeated(5, 8)...)},
		{repeated(10000, 20), 2, 4, nil},
		{repeated(10000, 20), 20, 1, repeated(1, 20)},
		{repeated(10000, 20), 19, 1, nil},
		{repeated(10000, 20), 19, 2, append(repeated(1, 18), 2, 2)},
		{repeated(0, 20), 60, 1, repeated(1, 20)},
		{repeated(0, 20), 60, 6, repeated(1, 20)},
		{repeated(0, 20), 2, 6, append([]int{1, 3, 4, 4}, repeated(6, 16)...)},
	} {
		checkLeast(t, c.weights, c.r, c.limit, c.want)
	}
	if n, ok := impl.LeastCost(repeated(10000, 20), 2, 5); n != 880000 || !ok {
		t.Errorf("LeastCost of 20 greatest weights = %d, %v", n, ok)
	}
	if n, ok := impl.LeastCost(repeated(0, 20), 2, 6); n != 0 || !ok {
		t.Errorf("LeastCost of 20 weights of 0 = %d, %v", n, ok)
	}
}

func TestCostOf(t *testing.T) {
	for _, c := range []struct {
		weights []int
		lengths []int
		want    int
	}{
		{[]int{5, 1, 1}, []int{1, 2, 2}, 9},
		{[]int{5, 1, 1}, []int{2, 2, 1}, 13},
		{[]int{0}, []int{6}, 0},
		{[]int{10000}, []int{6}, 60000},
		{[]int{0, 3, 0}, []int{6, 1, 6}, 3},
		// Lengths that have no code have a cost too.
		{[]int{1, 2, 3}, []int{1, 1, 1}, 6},
		{repeated(10000, 20), repeated(6, 20), 1200000},
		{repeated(0, 20), repeated(1, 20), 0},
		{repeated(1, 20), repeated(1, 20), 20},
	} {
		if n, ok := impl.CostOf(c.weights, c.lengths); n != c.want || !ok {
			t.Errorf("CostOf(%v, %v) = %d, %v, want %d", c.weights, c.lengths, n, ok, c.want)
		}
	}
	for count := 1; count <= 20; count++ {
		weights := someWeights(count, 10001, count)
		lengths := make([]int, count)
		for i := range lengths {
			lengths[i] = 1 + (i*i+count)%6
		}
		if n, ok := impl.CostOf(weights, lengths); n != costOf(weights, lengths) || !ok {
			t.Errorf("CostOf(%v, %v) = %d, %v, want %d", weights, lengths, n, ok, costOf(weights, lengths))
		}
		for other := 1; other <= 20; other++ {
			if other != count {
				checkFails(t, codeArguments{Weights: weights, Lengths: repeated(1, other)}, "CostOf")
			}
		}
	}
}

// checkLengths compares all that chapter 4 tells of lengths with the sum of Kraft.
func checkLengths(t *testing.T, lengths []int, r int, sum int, whole int) {
	t.Helper()
	if n, m, ok := impl.KraftSum(lengths, r); n != sum || m != whole || !ok {
		t.Errorf("KraftSum(%v, %d) = %d, %d, %v, want %d, %d", lengths, r, n, m, ok, sum, whole)
	}
	if is, ok := impl.HasCode(lengths, r); is != (sum <= whole) || !ok {
		t.Errorf("HasCode(%v, %d) = %v, %v, want %v", lengths, r, is, ok, sum <= whole)
	}
	if sum > whole {
		checkFails(t, codeArguments{Lengths: lengths, Base: r}, "CanonicalCode")
		return
	}
	code, ok := impl.CanonicalCode(lengths, r)
	if want := canonicalCode(lengths, r); !reflect.DeepEqual(code, want) || !ok {
		t.Errorf("CanonicalCode(%v, %d) = %v, %v, want %v", lengths, r, code, ok, want)
	}
}

// canonicalCode makes the words by counting, without the program.
func canonicalCode(lengths []int, r int) [][]int {
	code := make([][]int, len(lengths))
	number := 0
	for length := 1; length <= 6; length++ {
		number *= r
		for i, n := range lengths {
			if n != length {
				continue
			}
			rest := number
			for range length {
				code[i] = append([]int{rest % r}, code[i]...)
				rest /= r
			}
			number++
		}
	}
	return code
}

// kraftSum counts how many of the longest words each word begins, without powers.
func kraftSum(lengths []int, r int) (int, int) {
	sum, whole := 0, 1
	for range slices.Max(lengths) {
		whole *= r
	}
	for _, n := range lengths {
		part := whole
		for range n {
			part /= r
		}
		sum += part
	}
	return sum, whole
}

func TestKraftSums(t *testing.T) {
	for _, c := range []struct {
		lengths []int
		r       int
		sum     int
		whole   int
	}{
		{[]int{1}, 2, 1, 2},
		{[]int{6}, 2, 1, 64},
		{[]int{1, 2, 2}, 2, 4, 4},
		// Greater by 1 than the power, and less by 1.
		{[]int{1, 2, 2, 2}, 2, 5, 4},
		{[]int{1, 2}, 2, 3, 4},
		{[]int{1, 1, 2}, 2, 5, 4},
		{[]int{2, 1, 1}, 2, 5, 4},
		{[]int{1, 1}, 2, 2, 2},
		{[]int{1, 1, 1}, 2, 3, 2},
		{[]int{1, 2, 3, 4, 5, 6, 6}, 2, 64, 64},
		{[]int{1, 2, 3, 4, 5, 6, 6, 6}, 2, 65, 64},
		{[]int{1, 2, 3, 4, 5, 6}, 2, 63, 64},
		{repeated(2, 9), 3, 9, 9},
		{repeated(2, 10), 3, 10, 9},
		{repeated(1, 20), 20, 20, 20},
		{repeated(1, 20), 19, 20, 19},
		{repeated(1, 20), 21, 20, 21},
		{append(repeated(1, 18), 2, 2), 19, 344, 361},
		// Lengths that do not rise.
		{[]int{2, 1, 2}, 2, 4, 4},
		{[]int{6, 6, 5, 4, 3, 2, 1}, 2, 64, 64},
		{[]int{6, 1, 6, 1}, 3, 488, 729},
		// The least and the greatest number of digits.
		{repeated(6, 20), 2, 20, 64},
		{repeated(1, 20), 2, 20, 2},
		{repeated(1, 20), 60, 20, 60},
		{repeated(6, 20), 60, 20, 46656000000},
		{append(repeated(1, 19), 6), 60, 14774400001, 46656000000},
		{append([]int{6}, repeated(1, 19)...), 60, 14774400001, 46656000000},
		{append(repeated(1, 19), 6), 2, 609, 64},
	} {
		checkLengths(t, c.lengths, c.r, c.sum, c.whole)
	}
}

func TestLengthsOfCodes(t *testing.T) {
	counts := map[int]int{}
	for count := 1; count <= 4; count++ {
		listsOver(count, 1, 6, func(l []int) {
			for _, r := range []int{2, 3, 4, 60} {
				sum, whole := kraftSum(l, r)
				checkLengths(t, l, r, sum, whole)
				counts[min(max(sum-whole, -1), 2)]++
			}
		})
	}
	for count := 5; count <= 20; count++ {
		for seed := range 40 {
			l := someWeights(count, 6, count*100+seed)
			for i := range l {
				// Some lists have mostly long words, so that they have a code.
				l[i] = min(l[i]+1+seed%4, 6)
			}
			for _, r := range []int{2, 3, 5, 19, 60} {
				sum, whole := kraftSum(l, r)
				checkLengths(t, l, r, sum, whole)
				counts[min(max(sum-whole, -1), 2)]++
			}
		}
	}
	for difference := -1; difference <= 2; difference++ {
		if counts[difference] == 0 {
			t.Errorf("no sum of Kraft differs by %d: %v", difference, counts)
		}
	}
}

// TestHasCodeByTrying compares the sums of Kraft with codes that are found, or not, among all lists of words.
func TestHasCodeByTrying(t *testing.T) {
	for r := 2; r <= 3; r++ {
		for count := 1; count <= 4; count++ {
			listsOver(count, 1, 3, func(l []int) {
				want := findsCode(nil, l, r)
				if is, ok := impl.HasCode(l, r); is != want || !ok {
					t.Errorf("HasCode(%v, %d) = %v, %v, want %v", l, r, is, ok, want)
				}
				code, ok := impl.CanonicalCode(l, r)
				if ok != want || !areApart(code) {
					t.Errorf("CanonicalCode(%v, %d) = %v, %v", l, r, code, ok)
				}
			})
		}
	}
}

func TestCanonicalCodeByLengths(t *testing.T) {
	for _, c := range []struct {
		lengths []int
		r       int
		want    [][]int
	}{
		{[]int{1}, 2, [][]int{{0}}},
		{[]int{6}, 60, [][]int{{0, 0, 0, 0, 0, 0}}},
		{[]int{1, 1}, 2, [][]int{{0}, {1}}},
		{[]int{1, 2, 2}, 2, [][]int{{0}, {1, 0}, {1, 1}}},
		{[]int{2, 2, 1}, 2, [][]int{{1, 0}, {1, 1}, {0}}},
		{[]int{2, 1, 2}, 2, [][]int{{1, 0}, {0}, {1, 1}}},
		{[]int{3, 1, 3}, 2, [][]int{{1, 0, 0}, {0}, {1, 0, 1}}},
		{[]int{2, 2, 2, 2}, 2, [][]int{{0, 0}, {0, 1}, {1, 0}, {1, 1}}},
		{[]int{1, 3, 2}, 2, [][]int{{0}, {1, 1, 0}, {1, 0}}},
		{[]int{6, 1, 4}, 3, [][]int{{1, 0, 0, 1, 0, 0}, {0}, {1, 0, 0, 0}}},
		{[]int{2, 2, 2, 2, 1}, 3, [][]int{{1, 0}, {1, 1}, {1, 2}, {2, 0}, {0}}},
		{[]int{3, 1, 1}, 60, [][]int{{2, 0, 0}, {0}, {1}}},
		// A number that carries through all digits.
		{[]int{1, 3, 3, 3, 3, 2}, 3, [][]int{{0}, {1, 1, 0}, {1, 1, 1}, {1, 1, 2}, {1, 2, 0}, {1, 0}}},
		{[]int{3, 3, 3, 3, 1}, 2, [][]int{{1, 0, 0}, {1, 0, 1}, {1, 1, 0}, {1, 1, 1}, {0}}},
		// No code.
		{[]int{1, 1, 1}, 2, nil},
		{[]int{1, 1, 6}, 2, nil},
		{[]int{6, 1, 1}, 2, nil},
		{[]int{2, 2, 2, 2, 2}, 2, nil},
		{[]int{1, 2, 2, 6}, 2, nil},
		{[]int{1, 1, 1, 1}, 3, nil},
	} {
		code, ok := impl.CanonicalCode(c.lengths, c.r)
		if fmt.Sprint(code) != fmt.Sprint(c.want) || ok != (c.want != nil) {
			t.Errorf("CanonicalCode(%v, %d) = %v, %v, want %v", c.lengths, c.r, code, ok, c.want)
		}
	}
}

func TestFlatLength(t *testing.T) {
	for r := 2; r <= 60; r++ {
		for words := 1; words <= 20; words++ {
			want := 1
			for !haveRoom(repeated(want, words), r) {
				want++
			}
			if n, ok := impl.FlatLength(words, r); n != want || !ok {
				t.Errorf("FlatLength(%d, %d) = %d, %v, want %d", words, r, n, ok, want)
			}
		}
	}
	for _, c := range [][3]int{{1, 2, 1}, {1, 60, 1}, {2, 2, 1}, {3, 2, 2}, {4, 2, 2}, {5, 2, 3}, {8, 2, 3}, {9, 2, 4}, {16, 2, 4}, {17, 2, 5}, {20, 2, 5}, {3, 3, 1}, {4, 3, 2}, {9, 3, 2}, {10, 3, 3}, {20, 3, 3}, {16, 4, 2}, {17, 4, 3}, {20, 4, 3}, {20, 5, 2}, {20, 19, 2}, {20, 20, 1}, {20, 60, 1}} {
		if n, ok := impl.FlatLength(c[0], c[1]); n != c[2] || !ok {
			t.Errorf("FlatLength(%d, %d) = %d, %v, want %d", c[0], c[1], n, ok, c[2])
		}
	}
}

// validCodes returns codes of many kinds.
func validCodes() [][][]int {
	codes := [][][]int{
		{{0}, {1, 0}, {1, 1}},
		{{0}},
		{{59, 59, 59, 59, 59, 59}},
		{{1, 1}, {0}, {1, 0}},
		{{0, 0, 0, 0, 0, 0}, {0, 0, 0, 0, 0, 1}, {0, 0, 0, 0, 1}, {0, 0, 0, 1}, {0, 0, 1}, {0, 1}, {1}},
		{{7, 8}, {8, 7}, {7, 7, 8}, {59}},
		{{0, 1, 0}, {1, 0}, {0, 0}, {2}},
	}
	var ones, longs [][]int
	for i := range 20 {
		ones = append(ones, []int{59 - i})
		longs = append(longs, []int{59, 1, 2, 3, 4, 59 - i*3})
	}
	codes = append(codes, ones, longs)
	for _, lengths := range [][]int{{3, 1, 2, 3}, {1, 2, 2, 2, 2, 3, 3}, repeated(5, 20), {2, 6, 2, 6, 2, 6}} {
		codes = append(codes, canonicalCode(lengths, 3))
	}
	return codes
}

// listsReadFrom returns all lists of indices whose words are the digits, by trying every word at each place.
func listsReadFrom(code [][]int, digits []int) [][]int {
	if len(digits) == 0 {
		return [][]int{{}}
	}
	var lists [][]int
	for i, word := range code {
		if firstDigitsAre(word, digits) {
			for _, l := range listsReadFrom(code, digits[len(word):]) {
				lists = append(lists, append([]int{i}, l...))
			}
		}
	}
	return lists
}

// wordsIn joins the words without the program.
func wordsIn(code [][]int, list []int) []int {
	digits := []int{}
	for _, i := range list {
		digits = slices.Concat(digits, code[i])
	}
	return digits
}

func checkWritten(t *testing.T, code [][]int, list []int) {
	t.Helper()
	digits, ok := impl.WriteWords(code, list)
	if !slices.Equal(digits, wordsIn(code, list)) || !ok {
		t.Errorf("WriteWords(%v, %v) = %v, %v, want %v", code, list, digits, ok, wordsIn(code, list))
	}
	if l, ok := impl.ReadWords(code, digits); !slices.Equal(l, list) || !ok {
		t.Errorf("ReadWords(%v, %v) = %v, %v, want %v", code, digits, l, ok, list)
	}
}

func TestWrittenWordsAreReadBack(t *testing.T) {
	for _, code := range validCodes() {
		n := len(code)
		for length := range 31 {
			l := make([]int, length)
			for i := range l {
				l[i] = (i*i + 5*i + length) % n
			}
			checkWritten(t, code, l)
			checkWritten(t, code, repeated(n-1, length))
		}
		checkWritten(t, code, nil)
		for i := range code {
			checkWritten(t, code, []int{i})
			checkWritten(t, code, []int{i, n - 1 - i, i})
		}
		for _, bad := range append(oddInts(), n, n+1, -n) {
			for _, l := range [][]int{{bad}, {0, bad}, {bad, 0}, append(repeated(0, 29), bad)} {
				checkFails(t, codeArguments{Code: code, List: l}, "WriteWords")
			}
		}
		for _, l := range [][]int{repeated(0, 31), repeated(n-1, 31), repeated(0, 100000), repeated(-1, 31)} {
			checkFails(t, codeArguments{Code: code, List: l}, "WriteWords")
		}
	}
	// The most digits: 30 words of 6.
	long := [][]int{{1, 2, 3, 4, 5, 6}, {1, 2, 3, 4, 5, 7}}
	checkWritten(t, long, repeated(1, 30))
	if digits, ok := impl.WriteWords(long, repeated(1, 30)); len(digits) != 180 || !ok {
		t.Errorf("WriteWords of 30 words = %v, %v", digits, ok)
	}
}

func TestLeastCodesAreReadBack(t *testing.T) {
	for count := 1; count <= 20; count++ {
		weights := someWeights(count, 10001, count)
		for _, r := range []int{2, 3, 20, 60} {
			lengths, _ := impl.LeastLengths(weights, r, 6)
			code, ok := impl.CanonicalCode(lengths, r)
			if len(code) != count || !ok {
				t.Errorf("CanonicalCode(%v, %d) = %v, %v", lengths, r, code, ok)
				continue
			}
			l := make([]int, 30)
			for i := range l {
				l[i] = i * 7 % count
			}
			checkWritten(t, code, l)
		}
	}
}

func TestReadWords(t *testing.T) {
	read, unread := 0, 0
	for _, code := range validCodes() {
		for count := range 8 {
			listsOver(count, 0, 2, func(digits []int) {
				lists := listsReadFrom(code, digits)
				if len(lists) == 0 {
					unread++
					checkFails(t, codeArguments{Code: code, Digits: digits}, "ReadWords")
					return
				}
				read++
				if l, ok := impl.ReadWords(code, digits); !slices.Equal(l, lists[0]) || !ok || len(lists) > 1 {
					t.Errorf("ReadWords(%v, %v) = %v, %v, want %v", code, digits, l, ok, lists)
				}
			})
		}
	}
	if read < 100 || unread < 100 {
		t.Errorf("%d lists of digits are read and %d are not", read, unread)
	}
}

func TestReadWordsByCodes(t *testing.T) {
	code := [][]int{{0}, {1, 0}, {1, 2, 3, 4, 5, 6}}
	for _, c := range []struct {
		digits []int
		want   []int
		ok     bool
	}{
		{nil, nil, true},
		{[]int{}, nil, true},
		{[]int{0}, []int{0}, true},
		{[]int{1, 0}, []int{1}, true},
		{[]int{0, 1, 0, 1, 2, 3, 4, 5, 6, 0}, []int{0, 1, 2, 0}, true},
		// Digits that are no words: at the beginning, in the middle and at the end.
		{[]int{2}, nil, false},
		{[]int{59}, nil, false},
		{[]int{1}, nil, false},
		{[]int{1, 1}, nil, false},
		{[]int{1, 2, 3, 4, 5}, nil, false},
		{[]int{1, 2, 3, 4, 5, 5}, nil, false},
		{[]int{0, 0, 1}, nil, false},
		{[]int{2, 0, 1, 0}, nil, false},
		{[]int{0, 1, 0, 2, 0}, nil, false},
		{[]int{0, 1, 0, 0, 2}, nil, false},
	} {
		if l, ok := impl.ReadWords(code, c.digits); !slices.Equal(l, c.want) || ok != c.ok {
			t.Errorf("ReadWords(%v, %v) = %v, %v, want %v, %v", code, c.digits, l, ok, c.want, c.ok)
		}
	}
	// Exactly 180 digits may be more words than can be written at once.
	if l, ok := impl.ReadWords(code, repeated(0, 180)); !slices.Equal(l, repeated(0, 180)) || !ok {
		t.Errorf("ReadWords of 180 digits = %v, %v", l, ok)
	}
	if l, ok := impl.ReadWords([][]int{{59, 59, 59, 59, 59, 59}}, repeated(59, 180)); !slices.Equal(l, repeated(0, 30)) || !ok {
		t.Errorf("ReadWords of 180 digits = %v, %v", l, ok)
	}
	checkFails(t, codeArguments{Code: code, Digits: append(repeated(0, 179), 1)}, "ReadWords")
}

func TestNoIndicesAndNoDigits(t *testing.T) {
	for _, code := range validCodes() {
		for _, none := range [][]int{nil, {}} {
			if l, ok := impl.WriteWords(code, none); len(l) != 0 || !ok {
				t.Errorf("WriteWords of no indices = %v, %v", l, ok)
			}
			if l, ok := impl.ReadWords(code, none); len(l) != 0 || !ok {
				t.Errorf("ReadWords of no digits = %v, %v", l, ok)
			}
		}
	}
}

// withOne returns copies of a list that have another value at the first place, in the middle and at the last place.
func withOne(l []int, n int) [][]int {
	var lists [][]int
	for _, at := range []int{0, len(l) / 2, len(l) - 1} {
		x := slices.Clone(l)
		x[at] = n
		lists = append(lists, x)
	}
	return lists
}

// beyond returns integers below least or above greatest.
func beyond(least int, greatest int) []int {
	l := []int{least - 1, greatest + 1, least - 2, greatest + 2}
	for _, n := range oddInts() {
		if n < least || n > greatest {
			l = append(l, n)
		}
	}
	return l
}

func TestInvalidWeightsAndLengths(t *testing.T) {
	for _, count := range []int{1, 2, 3, 19, 20} {
		weights, lengths := someWeights(count, 10001, count), repeated(6, count)
		a := codeArguments{Weights: weights, Lengths: lengths, Base: 60, Limit: 6}
		for name, call := range codeCalls() {
			if results := call(a); name != "FlatLength" && name != "WriteWords" && name != "ReadWords" && results[len(results)-1] != true {
				t.Errorf("%s(%v) = %v", name, a, results)
			}
		}
		for _, n := range beyond(0, 10000) {
			for _, l := range withOne(weights, n) {
				checkFails(t, codeArguments{Weights: l, Lengths: lengths, Base: 60, Limit: 6}, "LeastLengths", "LeastCost", "CostOf")
			}
		}
		for _, n := range beyond(1, 6) {
			for _, l := range withOne(lengths, n) {
				checkFails(t, codeArguments{Weights: weights, Lengths: l, Base: 60}, "CostOf", "KraftSum", "HasCode", "CanonicalCode")
			}
		}
	}
	for _, l := range [][]int{nil, {}, repeated(1, 21), repeated(6, 21), repeated(6, 22), repeated(6, 64), repeated(6, 100000)} {
		a := codeArguments{Weights: l, Lengths: l, Base: 60, Limit: 6}
		checkFails(t, a, "LeastLengths", "LeastCost", "CostOf", "KraftSum", "HasCode", "CanonicalCode")
	}
	checkFails(t, codeArguments{Weights: repeated(1, 21), Lengths: repeated(1, 20)}, "CostOf")
	checkFails(t, codeArguments{Weights: repeated(1, 20), Lengths: repeated(1, 21)}, "CostOf")
	checkFails(t, codeArguments{Weights: []int{1}}, "CostOf")
	checkFails(t, codeArguments{Lengths: []int{1}}, "CostOf")
}

func TestInvalidNumbers(t *testing.T) {
	for _, r := range append(beyond(2, 60), 0, 1) {
		a := goodArguments()
		a.Base = r
		checkFails(t, a, "LeastLengths", "LeastCost", "KraftSum", "HasCode", "CanonicalCode", "FlatLength")
		a.Weights, a.Lengths, a.Words = []int{1}, []int{1}, 1
		checkFails(t, a, "LeastLengths", "LeastCost", "KraftSum", "HasCode", "CanonicalCode", "FlatLength")
	}
	for _, n := range beyond(1, 6) {
		a := goodArguments()
		a.Limit = n
		checkFails(t, a, "LeastLengths", "LeastCost")
		a.Weights, a.Base = []int{1}, 60
		checkFails(t, a, "LeastLengths", "LeastCost")
	}
	for _, n := range beyond(1, 20) {
		checkFails(t, codeArguments{Words: n, Base: 2}, "FlatLength")
		checkFails(t, codeArguments{Words: n, Base: 60}, "FlatLength")
	}
}

// invalidCodes returns codes that have one fault each.
func invalidCodes() [][][]int {
	var many [][]int
	for i := range 21 {
		many = append(many, []int{i})
	}
	codes := [][][]int{
		nil, {}, many, make([][]int, 1), make([][]int, 20), make([][]int, 100000),
		// An empty word, and one of 7 digits.
		{{}}, {nil}, {{0}, {}}, {{}, {0}}, {{0}, nil, {1}},
		{{0, 0, 0, 0, 0, 0, 0}}, {{1}, {0, 0, 0, 0, 0, 0, 0}}, {{0, 0, 0, 0, 0, 0, 0}, {1}}, {{1}, make([]int, 1000)},
		// Words that begin another one, before it and behind it, next to it and not.
		{{0}, {0, 1}}, {{0, 1}, {0}}, {{0}, {1}, {0, 1}}, {{0, 1}, {1}, {0}}, {{2}, {0}, {0, 1, 2, 3, 4, 5}}, {{2}, {0, 1, 2, 3, 4, 5}, {0, 1, 2, 3, 4}},
		{{1, 2, 3}, {5}, {1, 2}, {4}}, {{59}, {59, 0}},
		// Words that are equal.
		{{0}, {0}}, {{0}, {1}, {0}}, {{3, 4}, {3, 4}, {5}}, {{59, 59, 59, 59, 59, 59}, {0}, {59, 59, 59, 59, 59, 59}},
	}
	for _, n := range beyond(0, 59) {
		codes = append(codes, [][]int{{n}}, [][]int{{0}, {n}}, [][]int{{1, n}, {0}}, [][]int{{0}, {1, 2, 3, 4, 5, n}}, [][]int{{n, 0}, {1}})
	}
	return codes
}

func TestInvalidCodes(t *testing.T) {
	for _, code := range invalidCodes() {
		checkFails(t, codeArguments{Code: code}, "WriteWords", "ReadWords")
		checkFails(t, codeArguments{Code: code, List: []int{0}, Digits: []int{0}}, "WriteWords", "ReadWords")
		checkFails(t, codeArguments{Code: code, List: []int{1, 0}, Digits: []int{1, 1}}, "WriteWords", "ReadWords")
		if len(code) > 0 {
			checkFails(t, codeArguments{Code: code, List: []int{len(code) - 1}, Digits: code[len(code)-1]}, "WriteWords", "ReadWords")
			checkFails(t, codeArguments{Code: code, List: []int{0}, Digits: code[0]}, "WriteWords", "ReadWords")
		}
	}
}

func TestInvalidDigits(t *testing.T) {
	for _, code := range validCodes() {
		for _, n := range beyond(0, 59) {
			for _, digits := range [][]int{{n}, append(slices.Clone(code[0]), n), append([]int{n}, code[0]...), append(wordsIn(code, repeated(0, 29)), n)} {
				checkFails(t, codeArguments{Code: code, Digits: digits}, "ReadWords")
			}
		}
		for length := 1; length < len(code[0]); length++ {
			checkFails(t, codeArguments{Code: code, Digits: code[0][:length]}, "ReadWords")
		}
		for _, digits := range [][]int{repeated(code[0][0], 181), repeated(0, 181), repeated(59, 181), repeated(0, 100000)} {
			checkFails(t, codeArguments{Code: code, Digits: digits}, "ReadWords")
		}
		// Whole words that have more than 180 digits.
		for n := 30; n <= 181; n++ {
			if digits := wordsIn(code, repeated(0, n)); len(digits) > 180 {
				checkFails(t, codeArguments{Code: code, Digits: digits}, "ReadWords")
			}
		}
	}
}

// manyArguments returns arguments of many kinds, valid ones and invalid ones.
func manyArguments() []codeArguments {
	weights := [][]int{{5, 1, 1}, {7}, repeated(3, 20), repeated(0, 20), someWeights(13, 10001, 1), {1, 2, 2, 1}, nil, {}, {-1, 5}, {10001}, repeated(1, 21), oddInts()}
	lengths := [][]int{{1, 2, 2}, {6}, repeated(5, 20), {6, 1, 4}, {1, 1, 1}, {2, 2, 1, 3}, nil, {0, 1}, {7}, repeated(1, 21), oddInts()}
	lists := [][]int{{2, 0}, {0}, nil, repeated(0, 30), {1, 1, 0}, repeated(0, 31), {-1}, {59}, repeated(0, 180), repeated(0, 181), oddInts()}
	codes := append(validCodes(), invalidCodes()...)
	numbers := append([]int{2, 1, 6, 60, 3, 0, 61, 20, 21}, oddInts()...)
	var all []codeArguments
	for i, code := range codes {
		if len(code) > 100 {
			continue
		}
		for k := range 11 {
			a := codeArguments{Weights: weights[(i+k)%len(weights)], Lengths: lengths[k%len(lengths)], Base: numbers[i*k%len(numbers)], Limit: numbers[(i+k)%len(numbers)], Words: numbers[k], Code: code, List: lists[k], Digits: lists[(i+k)%len(lists)]}
			if k%2 == 0 {
				a.Base, a.Limit = 2+k, 6-k/2
			}
			if len(code) > 0 && k%3 == 0 {
				a.Digits = code[k%len(code)]
			}
			all = append(all, a)
		}
	}
	return append(all, goodArguments())
}

func TestCodeFunctionsArePure(t *testing.T) {
	calls := codeCalls()
	if len(calls) != 9 {
		t.Errorf("%d functions", len(calls))
	}
	checkAllPure(t, calls, manyArguments(), 5)
}

// TestCodeInOneMemory gives a code whose words lie in one array, one over another, with the indices behind them.
func TestCodeInOneMemory(t *testing.T) {
	memory := []int{0, 1, 1, 0, 1, 1, 0, 2, 1}
	before := slices.Clone(memory)
	code := [][]int{memory[:1], memory[1:3], memory[2:4]}
	checkWritten(t, code, memory[6:])
	// A list of one index must not be the word itself.
	written, ok := impl.WriteWords(code, memory[6:7])
	if !slices.Equal(written, []int{0}) || !ok {
		t.Errorf("WriteWords = %v, %v", written, ok)
	}
	read, ok := impl.ReadWords(code, memory[:6])
	if !slices.Equal(read, []int{0, 1, 0, 1}) || !ok {
		t.Errorf("ReadWords = %v, %v", read, ok)
	}
	lengths, ok := impl.LeastLengths(memory, 2, 6)
	if len(lengths) != len(memory) || !ok {
		t.Errorf("LeastLengths = %v, %v", lengths, ok)
	}
	canonical, ok := impl.CanonicalCode(memory[1:3], 2)
	if !reflect.DeepEqual(canonical, [][]int{{0}, {1}}) || !ok {
		t.Errorf("CanonicalCode = %v, %v", canonical, ok)
	}
	for _, l := range append([][]int{written, read, lengths}, canonical...) {
		for i := range l[:cap(l)] {
			l[:cap(l)][i] = -1
		}
	}
	if !slices.Equal(memory, before) {
		t.Errorf("the arguments are %v now", memory)
	}
}

func TestCodeFunctionsAcceptAllArguments(t *testing.T) {
	calls := codeCalls()
	numbers := append(oddInts(), 0, 1, 2, 6, 7, 20, 21, 60, 61)
	check := func(a codeArguments) { checkAccepted(t, calls, a) }
	check(codeArguments{})
	for _, n := range numbers {
		for _, m := range numbers {
			a := goodArguments()
			a.Base, a.Limit, a.Words = n, m, m
			check(a)
			check(codeArguments{Weights: []int{n, m}, Lengths: []int{m, n}, Base: n, Limit: m, Words: n, Code: [][]int{{n}, {m, n}}, List: []int{n, m}, Digits: []int{m, n}})
		}
	}
	for _, a := range manyArguments() {
		check(a)
	}
	for _, code := range invalidCodes() {
		check(codeArguments{Code: code, List: repeated(0, 30), Digits: repeated(0, 180)})
	}
}
