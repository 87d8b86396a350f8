package tests

import (
	"cmp"
	"fmt"
	"math"
	"reflect"
	"slices"
	"strings"
	"testing"
)

// sentinel fills the spare capacity of arguments; no signal or index has this value.
const sentinel = -987654321

// withSpare returns a copy of a list and the array behind it, which goes on with sentinels.
func withSpare(l []int) (list []int, backing []int) {
	backing = make([]int, len(l)+8)
	for i := range backing {
		backing[i] = sentinel
	}
	copy(backing, l)
	return backing[:len(l)], backing
}

// checkUntouched calls f with a list that has spare capacity, and fails if f changes anything of its memory.
func checkUntouched(t *testing.T, name string, l []int, f func(l []int)) {
	t.Helper()
	list, backing := withSpare(l)
	before := slices.Clone(backing)
	f(list)
	if !slices.Equal(backing, before) {
		t.Errorf("%s(%v) changed its argument's memory to %v", name, l, backing)
	}
}

// checkOwnMemory overwrites all that a result gives access to, and fails if the argument's memory or the result of another call of f changes, or if the result changes with the argument.
func checkOwnMemory(t *testing.T, name string, l []int, f func(l []int) []int) {
	t.Helper()
	list, backing := withSpare(l)
	before := slices.Clone(backing)
	first, second := f(list), f(list)
	want := slices.Clone(second)

	whole := first[:cap(first)]
	for i := range whole {
		whole[i] = -1
	}
	if !slices.Equal(backing, before) {
		t.Errorf("%s(%v): the result shares memory with the argument", name, l)
	}
	if !slices.Equal(second, want) {
		t.Errorf("%s(%v): the results of two calls share memory", name, l)
	}
	for i := range backing {
		backing[i] = -2
	}
	if !slices.Equal(second, want) {
		t.Errorf("%s(%v): the result changes with the argument", name, l)
	}
}

// oddInts are integers at the ends of all ranges that matter for shifts and conversions.
func oddInts() []int {
	return []int{
		math.MinInt, math.MinInt + 1, math.MinInt32, -65536, -256, -100, -65, -64, -63, -61, -60, -6, -2, -1,
		64, 65, 100, 127, 128, 255, 256, 319, 65536, 1 << 20, math.MaxInt32, math.MaxInt32 + 1, 1 << 40, math.MaxInt - 1, math.MaxInt,
	}
}

// repeated returns a list that has the value n so many times.
func repeated(n int, times int) []int { return slices.Repeat([]int{n}, times) }

// isZeroResult reports whether a result is the zero value of its type; a slice may be empty.
func isZeroResult(result any) bool {
	v := reflect.ValueOf(result)
	return v.Kind() == reflect.Slice && v.Len() == 0 || v.IsZero()
}

// textsOver calls f with every string of at most so many letters of an alphabet.
func textsOver(alphabet string, most int, f func(s string)) {
	f("")
	if most == 0 {
		return
	}
	for i := range len(alphabet) {
		textsOver(alphabet, most-1, func(s string) { f(alphabet[i:i+1] + s) })
	}
}

// spared returns a deep copy of a value in which every slice has spare capacity, filled with sentinels.
func spared[T any](v T) T {
	var c T
	copySpared(reflect.ValueOf(&c).Elem(), reflect.ValueOf(&v).Elem())
	return c
}

func copySpared(to reflect.Value, from reflect.Value) {
	switch from.Kind() {
	case reflect.Struct:
		for i := range from.NumField() {
			copySpared(to.Field(i), from.Field(i))
		}
	case reflect.Array:
		for i := range from.Len() {
			copySpared(to.Index(i), from.Index(i))
		}
	case reflect.Slice:
		whole := reflect.MakeSlice(from.Type(), from.Len()+8, from.Len()+8)
		for i := range whole.Len() {
			if i < from.Len() {
				copySpared(whole.Index(i), from.Index(i))
			} else {
				fillSentinel(whole.Index(i))
			}
		}
		to.Set(whole.Slice(0, from.Len()))
	default:
		to.Set(from)
	}
}

func fillSentinel(v reflect.Value) {
	switch v.Kind() {
	case reflect.Struct:
		for i := range v.NumField() {
			fillSentinel(v.Field(i))
		}
	case reflect.Slice:
		v.Set(reflect.MakeSlice(v.Type(), 2, 4))
		fillSentinel(v.Index(0))
		fillSentinel(v.Index(1))
	case reflect.Int:
		v.SetInt(sentinel)
	case reflect.String:
		v.SetString("spare")
	}
}

// memoryOf describes all that a value gives access to, the spare capacity of its slices included.
func memoryOf(v reflect.Value) string {
	var text strings.Builder
	switch v.Kind() {
	case reflect.Struct:
		for i := range v.NumField() {
			text.WriteString(memoryOf(v.Field(i)) + ";")
		}
		return "{" + text.String() + "}"
	case reflect.Array, reflect.Slice:
		whole := v
		if v.Kind() == reflect.Slice {
			whole = v.Slice(0, v.Cap())
		}
		for i := range whole.Len() {
			text.WriteString(memoryOf(whole.Index(i)) + ",")
		}
		return fmt.Sprintf("%d/%d[%s]", v.Len(), whole.Len(), text.String())
	}
	return fmt.Sprintf("%#v", v.Interface())
}

// span is the memory of a slice, to its capacity.
type span struct{ from, to uintptr }

// spansOf lists the memory of every slice that a value gives access to.
func spansOf(v reflect.Value) []span {
	var spans []span
	switch v.Kind() {
	case reflect.Interface:
		if !v.IsNil() {
			return spansOf(v.Elem())
		}
	case reflect.Struct:
		for i := range v.NumField() {
			spans = append(spans, spansOf(v.Field(i))...)
		}
	case reflect.Array, reflect.Slice:
		whole := v
		if v.Kind() == reflect.Slice {
			whole = v.Slice(0, v.Cap())
			if v.Cap() > 0 {
				spans = append(spans, span{v.Pointer(), v.Pointer() + uintptr(v.Cap())*v.Type().Elem().Size()})
			}
		}
		for i := range whole.Len() {
			spans = append(spans, spansOf(whole.Index(i))...)
		}
	}
	return spans
}

// checkPure calls f twice with an argument whose slices have spare capacity. It fails if the argument's memory changes, if the results differ, or if any two slices of the argument and of the two results share memory.
func checkPure[T any](t *testing.T, name string, argument T, f func(argument T) []any) {
	t.Helper()
	given := spared(argument)
	before := memoryOf(reflect.ValueOf(given))
	first, second := f(given), f(given)
	if memoryOf(reflect.ValueOf(given)) != before {
		t.Errorf("%s changed the memory of its argument %v", name, argument)
	}
	if fmt.Sprintf("%#v", first) != fmt.Sprintf("%#v", second) {
		t.Errorf("%s(%v) = %v, and called again %v", name, argument, first, second)
	}
	var spans []span
	for _, v := range []reflect.Value{reflect.ValueOf(given), reflect.ValueOf(first), reflect.ValueOf(second)} {
		spans = append(spans, spansOf(v)...)
	}
	slices.SortFunc(spans, func(a span, b span) int { return cmp.Compare(a.from, b.from) })
	for i := 1; i < len(spans); i++ {
		if spans[i].from < spans[i-1].to {
			t.Errorf("%s(%v): a result shares memory with the argument, another call's result or another part of itself", name, argument)
			return
		}
	}
}

// textOfResults shows results so that nil and empty slices look the same.
func textOfResults(results []any) string {
	var texts []string
	for _, result := range results {
		texts = append(texts, fmt.Sprint(result))
	}
	return strings.Join(texts, ", ")
}

// checkAllRefused fails if one of the named functions gives any result that is not a zero one.
func checkAllRefused[T any](t *testing.T, calls map[string]func(argument T) []any, argument T, names ...string) {
	t.Helper()
	for _, name := range names {
		for _, result := range calls[name](argument) {
			if !isZeroResult(result) {
				t.Errorf("%s(%.400s) gives %v", name, fmt.Sprintf("%v", argument), result)
			}
		}
	}
}

// checkAllPure fails if a function is not pure with one of the arguments, if it sees what stands behind their slices, or if it succeeds less often than so many times.
func checkAllPure[T any](t *testing.T, calls map[string]func(argument T) []any, arguments []T, least int) {
	t.Helper()
	done := map[string]int{}
	for _, argument := range arguments {
		for name, call := range calls {
			checkPure(t, name, argument, call)
			results := call(argument)
			if textOfResults(results) != textOfResults(call(spared(argument))) {
				t.Errorf("%s(%v) sees what stands behind its slices", name, argument)
			}
			if results[len(results)-1] == true {
				done[name]++
			}
		}
	}
	for name := range calls {
		if done[name] < least {
			t.Errorf("%s succeeds %d times only", name, done[name])
		}
	}
}

// checkAccepted calls all functions with an argument. It fails if one of them gives other results when called again, or results that are not zero ones without success.
func checkAccepted[T any](t *testing.T, calls map[string]func(argument T) []any, argument T) {
	t.Helper()
	for name, call := range calls {
		first, second := call(argument), call(argument)
		if !reflect.DeepEqual(first, second) {
			t.Errorf("%s gives %v, and called again %v", name, first, second)
		}
		if first[len(first)-1] != true {
			checkAllRefused(t, calls, argument, name)
		}
	}
}
