// Package tests holds the tests of the project, by layer and promise.
package tests

import (
	"math"
	"math/rand"
	"slices"
	"testing"

	"loop.example/g01091/impl"
)

// extremes are numbers of the type int64 around 0, around multiples of P and at
// both ends, where a reduction or a product may go wrong.
func extremes() []int64 {
	return []int64{
		0, 1, 2, 3, 500002, impl.P - 2, impl.P - 1, impl.P, impl.P + 1,
		2*impl.P - 1, 2 * impl.P, 5 * impl.P, impl.P * impl.P, impl.P*impl.P - 1,
		3037000499, 3037000500, 1 << 32, 1 << 62, math.MaxInt64 - 1, math.MaxInt64,
		-1, -2, -impl.P + 1, -impl.P, -impl.P - 1, -2 * impl.P, -7 * impl.P,
		-3037000500, -1 << 32, -1 << 62, math.MinInt64 + 1, math.MinInt64,
	}
}

// noSeries are lists that are no series: empty, too long, or with a number that
// is not from 0 to P - 1 at any place.
func noSeries() [][]int64 {
	lists := [][]int64{
		nil, {}, make([]int64, impl.MaxOrder+2), make([]int64, 1000),
		{-1}, {impl.P}, {impl.P + 1}, {math.MaxInt64}, {math.MinInt64}, {-impl.P},
	}
	for _, bad := range []int64{-1, impl.P, math.MaxInt64, math.MinInt64} {
		for _, length := range []int{2, 3, impl.MaxOrder + 1} {
			for place := range length {
				list := make([]int64, length)
				list[place] = bad
				lists = append(lists, list)
			}
		}
	}
	return lists
}

// someSeries are series of one order: zeros, the units, the largest numbers,
// and some without any pattern, always the same ones.
func someSeries(order int) [][]int64 {
	source := rand.New(rand.NewSource(int64(order) + 1))
	lists := [][]int64{make([]int64, order+1), unit(order, 0), constant(order, impl.P-1)}
	if order > 0 {
		lists = append(lists, unit(order, 1), unit(order, order))
	}
	for range 6 {
		list := make([]int64, order+1)
		for k := range list {
			list[k] = source.Int63n(impl.P)
		}
		lists = append(lists, list)
	}
	return lists
}

// unit is the series t^k.
func unit(order, k int) []int64 {
	list := make([]int64, order+1)
	list[k] = 1
	return list
}

// constant is the list in which each of order + 1 numbers is the same.
func constant(order int, number int64) []int64 {
	return slices.Repeat([]int64{number}, order+1)
}

// beginning is a copy of a list that begins with other numbers.
func beginning(list []int64, first ...int64) []int64 {
	result := slices.Clone(list)
	copy(result, first)
	return result
}

// got fails the test unless the code is OK, and otherwise passes the list on.
func got(t *testing.T) func(list []int64, code int64) []int64 {
	return func(list []int64, code int64) []int64 {
		t.Helper()
		if code != impl.OK {
			t.Fatalf("code %d, want OK", code)
		}
		if !impl.ValidSeries(list) {
			t.Fatalf("the result %v is no series", list)
		}
		return list
	}
}

// same fails the test unless two lists are equal.
func same(t *testing.T, name string, have, want []int64) {
	t.Helper()
	if !slices.Equal(have, want) {
		t.Errorf("%s: have %v, want %v", name, have, want)
	}
}

// refused fails the test unless a result is the zero value with the code.
func refused(t *testing.T, name string, list []int64, code, want int64) {
	t.Helper()
	if code != want || len(list) != 0 {
		t.Errorf("%s: have %v and the code %d, want nothing and the code %d", name, list, code, want)
	}
}
