package tests

import (
	"slices"
	"strings"
	"testing"

	"loop.example/g01091/impl"
)

// A listFunction is a function of chapter 1 that gets lists and returns a list.
type listFunction struct {
	name  string
	lists int
	call  func(a, b []int64) ([]int64, int64)
}

func one(call func(a []int64) ([]int64, int64)) func(a, b []int64) ([]int64, int64) {
	return func(a, b []int64) ([]int64, int64) { return call(a) }
}

func listFunctions() []listFunction {
	return []listFunction{
		{"AddSeries", 2, impl.AddSeries},
		{"MulSeries", 2, impl.MulSeries},
		{"DivSeries", 2, impl.DivSeries},
		{"ComposeSeries", 2, impl.ComposeSeries},
		{"ReverseSeries", 1, one(impl.ReverseSeries)},
		{"DerivativeOf", 1, one(impl.DerivativeOf)},
		{"IntegralOf", 1, one(impl.IntegralOf)},
		{"ExpSeries", 1, one(impl.ExpSeries)},
		{"LogSeries", 1, one(impl.LogSeries)},
		{"Interpolate", 1, one(impl.Interpolate)},
		{"ValueAt", 1, func(a, b []int64) ([]int64, int64) {
			value, code := impl.ValueAt(a, -5)
			return []int64{value}, code
		}},
		{"SeriesText", 1, func(a, b []int64) ([]int64, int64) {
			return []int64{int64(len(impl.SeriesText(a)))}, impl.OK
		}},
		{"ValidSeries", 1, func(a, b []int64) ([]int64, int64) {
			if impl.ValidSeries(a) {
				return []int64{1}, impl.OK
			}
			return nil, impl.ErrInvalid
		}},
	}
}

// argumentLists are lists of all kinds: series of some orders, those that begin
// as the functions need it, and lists that are no series.
func argumentLists() [][]int64 {
	lists := noSeries()
	for _, order := range []int{0, 1, 2, 5, impl.MaxOrder} {
		for _, list := range someSeries(order)[:5] {
			lists = append(lists, list, beginning(list, 0), beginning(list, 1), beginning(list, 0, 1))
		}
	}
	return lists
}

const spare = 4242

// roomy is a copy of a list with unused capacity that holds a known number.
func roomy(list []int64) []int64 {
	whole := append(slices.Clone(list), spare, spare, spare, spare)
	return whole[:len(list)]
}

// untouched tells whether a roomy copy is still the same in all of its memory.
func untouched(copied, list []int64) bool {
	whole := copied[:len(list)+4]
	return slices.Equal(whole[:len(list)], list) && slices.Equal(whole[len(list):], []int64{spare, spare, spare, spare})
}

// overwrite changes all of the memory of a list, also its unused capacity.
func overwrite(list []int64) {
	list = list[:cap(list)]
	for k := range list {
		list[k] = -77
	}
}

func TestP1NoArgumentIsModifiedAndResultsAreNewMemory(t *testing.T) {
	lists := argumentLists()
	for _, f := range listFunctions() {
		for i, a := range lists {
			for k, b := range lists {
				if f.lists == 1 && k > 0 {
					break
				}
				if f.lists == 2 && len(a) != len(b) && (i+k)%7 != 0 {
					continue // pairs of different lengths: just some of them
				}
				checkPure(t, f, a, b)
			}
		}
	}
}

func checkPure(t *testing.T, f listFunction, a, b []int64) {
	t.Helper()
	first, second := roomy(a), roomy(b)
	have, code := f.call(first, second)
	if !untouched(first, a) || !untouched(second, b) {
		t.Fatalf("%s modifies an argument of %v and %v", f.name, a, b)
	}
	want := slices.Clone(have)
	again, code2 := f.call(first, second)
	if code != code2 || !slices.Equal(have, again) {
		t.Fatalf("%s of %v and %v: first %v, %d and then %v, %d", f.name, a, b, have, code, again, code2)
	}
	overwrite(again)
	if !untouched(first, a) || !untouched(second, b) || !slices.Equal(have, want) {
		t.Fatalf("the result of %s of %v and %v shares memory", f.name, a, b)
	}
	overwrite(first)
	overwrite(second)
	if !slices.Equal(have, want) {
		t.Fatalf("the result of %s of %v and %v shares memory with an argument", f.name, a, b)
	}
}

func TestP1OneListAsBothArguments(t *testing.T) {
	for _, f := range listFunctions() {
		for _, a := range argumentLists() {
			shared := roomy(a)
			have, code := f.call(shared, shared)
			want, code2 := f.call(slices.Clone(a), slices.Clone(a))
			if code != code2 || !slices.Equal(have, want) || !untouched(shared, a) {
				t.Errorf("%s of %v twice: %v, %d, of copies %v, %d", f.name, a, have, code, want, code2)
			}
		}
	}
}

func TestP1NilAndEmptyListsAreEquivalent(t *testing.T) {
	for _, f := range listFunctions() {
		have, code := f.call(nil, nil)
		want, code2 := f.call([]int64{}, []int64{})
		if code != code2 || !slices.Equal(have, want) {
			t.Errorf("%s: of nil %v, %d, of an empty list %v, %d", f.name, have, code, want, code2)
		}
	}
}

func TestP1ReadSeriesReturnsNewMemory(t *testing.T) {
	have, code := impl.ReadSeries("3 0 1000002")
	overwrite(have)
	again, code2 := impl.ReadSeries("3 0 1000002")
	if code != impl.OK || code2 != impl.OK {
		t.Fatalf("the codes are %d and %d", code, code2)
	}
	same(t, "read again", again, []int64{3, 0, 1000002})
}

func TestP1LongArgumentsAreAnswered(t *testing.T) {
	long := make([]int64, 1<<22)
	for _, f := range listFunctions() {
		if f.name == "SeriesText" {
			continue
		}
		_, code := f.call(long, long)
		if code != impl.ErrInvalid {
			t.Errorf("%s of a long list has the code %d", f.name, code)
		}
	}
	if text := impl.SeriesText(long); text != "" {
		t.Errorf("a long list has a text of %d bytes", len(text))
	}
	for _, part := range []string{"0", "7", " ", "0 ", "1 ", " 1", "x", "-", "\n", "\xff", "é"} {
		list, code := impl.ReadSeries(strings.Repeat(part, 1<<21))
		refused(t, "a long text of "+part, list, code, impl.ErrSyntax)
	}
}

func TestP1NumbersAreAnswered(t *testing.T) {
	for _, a := range extremes() {
		inverse, code := impl.Inverse(a)
		again, code2 := impl.Inverse(a)
		if inverse != again || code != code2 {
			t.Errorf("Inverse(%d) is %d, %d and then %d, %d", a, inverse, code, again, code2)
		}
		for _, b := range extremes() {
			for name, call := range map[string]func(a, b int64) int64{"Plus": impl.Plus, "Times": impl.Times, "Power": impl.Power} {
				number := call(a, b)
				if number < 0 || number >= impl.P || number != call(a, b) {
					t.Errorf("%s(%d, %d) is %d", name, a, b, number)
				}
			}
		}
	}
}
