package tests

import (
	"math"
	"math/big"
	"slices"
	"testing"

	"loop.example/g01091/impl"
)

// orders are all orders that a series may have.
func orders() []int {
	var list []int
	for order := range impl.MaxOrder + 1 {
		list = append(list, order)
	}
	return list
}

// negative is the product of a series and -1.
func negative(a []int64) []int64 {
	b := make([]int64, len(a))
	for k := range a {
		b[k] = (impl.P - a[k]) % impl.P
	}
	return b
}

func TestP3Examples(t *testing.T) {
	ok := got(t)
	same(t, "product", ok(impl.MulSeries([]int64{1, 1, 0}, []int64{1, 1000002, 0})), []int64{1, 0, 1000002})
	same(t, "quotient", ok(impl.DivSeries([]int64{1, 0, 0}, []int64{1, 1000002, 0})), []int64{1, 1, 1})
	same(t, "reverse", ok(impl.ReverseSeries([]int64{0, 1, 1})), []int64{0, 1, 1000002})
	same(t, "exponential", ok(impl.ExpSeries([]int64{0, 1, 0})), []int64{1, 1, 500002})
	same(t, "interpolation", ok(impl.Interpolate([]int64{0, 1, 4})), []int64{0, 0, 1})
}

func TestP3Validity(t *testing.T) {
	for _, list := range noSeries() {
		if impl.ValidSeries(list) {
			t.Errorf("%v is taken for a series", list)
		}
	}
	for _, order := range orders() {
		for _, list := range someSeries(order) {
			if !impl.ValidSeries(list) {
				t.Errorf("%v is not taken for a series", list)
			}
		}
	}
}

func TestP3SumsAndProductsAreTheirDefinitions(t *testing.T) {
	ok := got(t)
	for _, order := range orders() {
		for _, a := range someSeries(order) {
			for _, b := range someSeries(order) {
				sum, product := make([]int64, order+1), make([]int64, order+1)
				for k := range sum {
					sum[k] = (a[k] + b[k]) % impl.P
					for i := range k + 1 {
						product[k] = (product[k] + a[i]*b[k-i]) % impl.P
					}
				}
				same(t, "sum", ok(impl.AddSeries(a, b)), sum)
				same(t, "product", ok(impl.MulSeries(a, b)), product)
			}
		}
	}
}

func TestP3SeriesAreARing(t *testing.T) {
	ok := got(t)
	for _, order := range []int{0, 1, 4, impl.MaxOrder} {
		zero, one := make([]int64, order+1), unit(order, 0)
		for _, a := range someSeries(order) {
			same(t, "a + 0", ok(impl.AddSeries(a, zero)), a)
			same(t, "a + -a", ok(impl.AddSeries(a, negative(a))), zero)
			same(t, "a * 1", ok(impl.MulSeries(a, one)), a)
			same(t, "a * 0", ok(impl.MulSeries(a, zero)), zero)
			for _, b := range someSeries(order) {
				same(t, "a + b", ok(impl.AddSeries(a, b)), ok(impl.AddSeries(b, a)))
				same(t, "a * b", ok(impl.MulSeries(a, b)), ok(impl.MulSeries(b, a)))
				for _, c := range someSeries(order) {
					same(t, "(a + b) + c", ok(impl.AddSeries(ok(impl.AddSeries(a, b)), c)), ok(impl.AddSeries(a, ok(impl.AddSeries(b, c)))))
					same(t, "(a * b) * c", ok(impl.MulSeries(ok(impl.MulSeries(a, b)), c)), ok(impl.MulSeries(a, ok(impl.MulSeries(b, c)))))
					same(t, "a * (b + c)", ok(impl.MulSeries(a, ok(impl.AddSeries(b, c)))), ok(impl.AddSeries(ok(impl.MulSeries(a, b)), ok(impl.MulSeries(a, c)))))
				}
			}
		}
	}
}

func TestP3Quotients(t *testing.T) {
	ok := got(t)
	for _, order := range orders() {
		for _, a := range someSeries(order) {
			for _, b := range someSeries(order) {
				quotient, code := impl.DivSeries(a, b)
				if b[0] == 0 {
					refused(t, "quotient", quotient, code, impl.ErrZero)
					continue
				}
				same(t, "(a / b) * b", ok(impl.MulSeries(ok(quotient, code), b)), a)
				same(t, "(a * b) / b", ok(impl.DivSeries(ok(impl.MulSeries(a, b)), b)), a)
			}
		}
	}
}

func TestP3QuotientsThatDoNotExist(t *testing.T) {
	for _, order := range orders() {
		for _, a := range someSeries(order) {
			for _, b := range someSeries(order) {
				divisor := beginning(b, 0)
				quotient, code := impl.DivSeries(a, divisor)
				refused(t, "a / b", quotient, code, impl.ErrZero)
				quotient, code = impl.DivSeries(divisor, divisor)
				refused(t, "b / b", quotient, code, impl.ErrZero)
			}
		}
	}
}

func TestP3CompositionIsItsDefinition(t *testing.T) {
	ok := got(t)
	for _, order := range orders() {
		for _, a := range someSeries(order) {
			for _, inner := range someSeries(order) {
				b := beginning(inner, 0)
				sum, power := make([]int64, order+1), unit(order, 0)
				for k := range a {
					sum = ok(impl.AddSeries(sum, ok(impl.MulSeries(beginning(make([]int64, order+1), a[k]), power))))
					power = ok(impl.MulSeries(power, b))
				}
				same(t, "a(b)", ok(impl.ComposeSeries(a, b)), sum)
			}
		}
	}
}

func TestP3CompositionObeysItsRules(t *testing.T) {
	ok := got(t)
	for _, order := range []int{0, 1, 5, impl.MaxOrder} {
		lists := someSeries(order)
		for k, a := range lists {
			b := lists[(k+1)%len(lists)]
			c, d := beginning(lists[(k+2)%len(lists)], 0), beginning(lists[(k+3)%len(lists)], 0)
			same(t, "(a + b)(c)", ok(impl.ComposeSeries(ok(impl.AddSeries(a, b)), c)), ok(impl.AddSeries(ok(impl.ComposeSeries(a, c)), ok(impl.ComposeSeries(b, c)))))
			same(t, "(a * b)(c)", ok(impl.ComposeSeries(ok(impl.MulSeries(a, b)), c)), ok(impl.MulSeries(ok(impl.ComposeSeries(a, c)), ok(impl.ComposeSeries(b, c)))))
			same(t, "a(c(d))", ok(impl.ComposeSeries(ok(impl.ComposeSeries(a, c)), d)), ok(impl.ComposeSeries(a, ok(impl.ComposeSeries(c, d)))))
			if order > 0 {
				same(t, "a(t)", ok(impl.ComposeSeries(a, unit(order, 1))), a)
				same(t, "t(c)", ok(impl.ComposeSeries(unit(order, 1), c)), c)
			}
		}
	}
}

func TestP3ReversesAreInverseToComposition(t *testing.T) {
	ok := got(t)
	for _, order := range orders()[1:] {
		for _, list := range someSeries(order) {
			for _, slope := range []int64{1, 2, 777, impl.P - 1} {
				a := beginning(list, 0, slope)
				b := ok(impl.ReverseSeries(a))
				same(t, "a(b)", ok(impl.ComposeSeries(a, b)), unit(order, 1))
				same(t, "b(a)", ok(impl.ComposeSeries(b, a)), unit(order, 1))
				same(t, "twice", ok(impl.ReverseSeries(b)), a)
				if b[0] != 0 {
					t.Errorf("the reverse of %v begins with %d", a, b[0])
				}
			}
		}
	}
}

func TestP3ReversesThatDoNotExist(t *testing.T) {
	for _, a := range []int64{0, 1, impl.P - 1} {
		list, code := impl.ReverseSeries([]int64{a})
		refused(t, "order 0", list, code, impl.ErrRange)
	}
	for _, order := range orders()[1:] {
		for _, a := range someSeries(order) {
			list, code := impl.ReverseSeries(beginning(a, 1, 0))
			refused(t, "beginning with 1 0", list, code, impl.ErrState)
			list, code = impl.ReverseSeries(beginning(a, impl.P-1, 1))
			refused(t, "beginning with -1 1", list, code, impl.ErrState)
			list, code = impl.ReverseSeries(beginning(a, 0, 0))
			refused(t, "beginning with 0 0", list, code, impl.ErrZero)
		}
	}
}

func TestP3DerivativesAndIntegrals(t *testing.T) {
	ok := got(t)
	for _, order := range orders() {
		for _, a := range someSeries(order) {
			derivative := ok(impl.DerivativeOf(a))
			for k := range a {
				want := int64(0)
				if k < order {
					want = int64(k+1) * a[k+1] % impl.P
				}
				if derivative[k] != want {
					t.Errorf("the derivative of %v is %v", a, derivative)
				}
			}
			same(t, "integral of the derivative", ok(impl.IntegralOf(derivative)), beginning(a, 0))
			back := ok(impl.DerivativeOf(ok(impl.IntegralOf(a))))
			same(t, "derivative of the integral", back, append(slices.Clone(a[:order]), 0))
		}
	}
}

func TestP3DerivativesObeyTheirRules(t *testing.T) {
	ok := got(t)
	for _, order := range orders()[1:] {
		lists := someSeries(order)
		for k, a := range lists {
			b := lists[(k+1)%len(lists)]
			left := ok(impl.DerivativeOf(ok(impl.MulSeries(a, b))))
			right := ok(impl.AddSeries(ok(impl.MulSeries(ok(impl.DerivativeOf(a)), b)), ok(impl.MulSeries(a, ok(impl.DerivativeOf(b))))))
			same(t, "(a * b)'", left[:order], right[:order])
			c := beginning(b, 0)
			left = ok(impl.DerivativeOf(ok(impl.ComposeSeries(a, c))))
			right = ok(impl.MulSeries(ok(impl.ComposeSeries(ok(impl.DerivativeOf(a)), c)), ok(impl.DerivativeOf(c))))
			same(t, "a(c)'", left[:order], right[:order])
		}
	}
}

func TestP3ExponentialsAndLogarithms(t *testing.T) {
	ok := got(t)
	for _, order := range orders() {
		lists := someSeries(order)
		for k := range lists {
			a, b := beginning(lists[k], 0), beginning(lists[(k+1)%len(lists)], 0)
			e := ok(impl.ExpSeries(a))
			if e[0] != 1 {
				t.Errorf("the exponential of %v begins with %d", a, e[0])
			}
			same(t, "e'", ok(impl.DerivativeOf(e))[:order], ok(impl.MulSeries(ok(impl.DerivativeOf(a)), e))[:order])
			same(t, "log exp", ok(impl.LogSeries(e)), a)
			same(t, "exp of a sum", ok(impl.ExpSeries(ok(impl.AddSeries(a, b)))), ok(impl.MulSeries(e, ok(impl.ExpSeries(b)))))
			c, d := beginning(lists[k], 1), beginning(lists[(k+1)%len(lists)], 1)
			l := ok(impl.LogSeries(c))
			if l[0] != 0 {
				t.Errorf("the logarithm of %v begins with %d", c, l[0])
			}
			same(t, "exp log", ok(impl.ExpSeries(l)), c)
			same(t, "log of a product", ok(impl.LogSeries(ok(impl.MulSeries(c, d)))), ok(impl.AddSeries(l, ok(impl.LogSeries(d)))))
		}
	}
}

func TestP3ExponentialOfTHasInverseFactorials(t *testing.T) {
	ok := got(t)
	want, factorial := make([]int64, impl.MaxOrder+1), int64(1)
	for k := range want {
		if k > 0 {
			factorial = factorial * int64(k) % impl.P
		}
		want[k] = new(big.Int).ModInverse(big.NewInt(factorial), big.NewInt(impl.P)).Int64()
	}
	same(t, "exp t", ok(impl.ExpSeries(unit(impl.MaxOrder, 1))), want)
}

func TestP3ExponentialsAndLogarithmsThatDoNotExist(t *testing.T) {
	for _, order := range orders() {
		for _, a := range someSeries(order) {
			for _, first := range []int64{1, 2, impl.P - 1} {
				list, code := impl.ExpSeries(beginning(a, first))
				refused(t, "exp", list, code, impl.ErrState)
			}
			for _, first := range []int64{0, 2, impl.P - 1} {
				list, code := impl.LogSeries(beginning(a, first))
				refused(t, "log", list, code, impl.ErrState)
			}
		}
	}
}

func TestP3ValuesAreTheirDefinition(t *testing.T) {
	for _, order := range orders() {
		for _, a := range someSeries(order) {
			for _, point := range extremes() {
				sum, power := new(big.Int), big.NewInt(1)
				for _, coefficient := range a {
					sum.Add(sum, new(big.Int).Mul(big.NewInt(coefficient), power))
					power.Mul(power, big.NewInt(point))
				}
				if value, code := impl.ValueAt(a, point); value != exact(sum) || code != impl.OK {
					t.Errorf("ValueAt(%v, %d) is %d with the code %d, want %d", a, point, value, code, exact(sum))
				}
			}
		}
	}
}

func TestP3ValuesAndSeriesDetermineEachOther(t *testing.T) {
	ok := got(t)
	for _, order := range orders() {
		for _, list := range someSeries(order) {
			same(t, "values of the interpolation", valuesOf(t, ok(impl.Interpolate(list))), list)
			same(t, "interpolation of the values", ok(impl.Interpolate(valuesOf(t, list))), list)
		}
	}
}

// valuesOf returns the values of a series of the order n at 0, 1, ..., n.
func valuesOf(t *testing.T, a []int64) []int64 {
	t.Helper()
	values := make([]int64, len(a))
	for k := range values {
		value, code := impl.ValueAt(a, int64(k))
		if code != impl.OK {
			t.Fatalf("ValueAt(%v, %d) has the code %d", a, k, code)
		}
		values[k] = value
	}
	return values
}

func TestP3ListsThatAreNoSeriesAreRefused(t *testing.T) {
	good := []int64{1, 2, 3}
	for _, bad := range noSeries() {
		for _, f := range listFunctions() {
			if f.name == "SeriesText" || f.name == "ValueAt" {
				continue
			}
			list, code := f.call(bad, good)
			refused(t, f.name+" with a bad first list", list, code, impl.ErrInvalid)
			if f.lists == 2 {
				list, code = f.call(good, bad)
				refused(t, f.name+" with a bad second list", list, code, impl.ErrInvalid)
				list, code = f.call(bad, bad)
				refused(t, f.name+" with two bad lists", list, code, impl.ErrInvalid)
			}
		}
		for _, point := range []int64{0, 1, -1, math.MinInt64} {
			if value, code := impl.ValueAt(bad, point); value != 0 || code != impl.ErrInvalid {
				t.Errorf("ValueAt(%v, %d) is %d with the code %d", bad, point, value, code)
			}
		}
	}
}

func TestP3SeriesOfDifferentOrdersAreRefused(t *testing.T) {
	for _, f := range listFunctions() {
		if f.lists != 2 {
			continue
		}
		for _, first := range orders() {
			for _, second := range orders() {
				if first == second {
					continue
				}
				// The second list begins so that DivSeries or ComposeSeries
				// would refuse it as well, but later.
				list, code := f.call(constant(first, 1), unit(second, second))
				refused(t, f.name+" of different orders", list, code, impl.ErrRange)
				list, code = f.call(constant(first, 1), constant(second, 1))
				refused(t, f.name+" of different orders", list, code, impl.ErrRange)
			}
		}
	}
}

func TestP3CompositionNeedsASecondListThatBeginsWithZero(t *testing.T) {
	for _, order := range orders() {
		for _, a := range someSeries(order) {
			for _, first := range []int64{1, 2, impl.P - 1} {
				list, code := impl.ComposeSeries(a, beginning(a, first))
				refused(t, "composition", list, code, impl.ErrState)
			}
		}
	}
}
