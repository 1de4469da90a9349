package tests

import (
	"fmt"
	"slices"
	"strings"
	"testing"

	"loop.example/g01091/impl"
)

func TestP22Example(t *testing.T) {
	p := reading(t, "f 1: (x0 * x0)\n")
	sameRows(t, "the flow", fineRows(t)(impl.FlowOf(p, 0, []int64{1}, 2)), [][]int64{{1, 1, 1}})
	sameRows(t, "the variation", fineRows(t)(impl.VariationOf(p, 0, []int64{1}, []int64{1}, 2)), [][]int64{{1, 2, 3}})
}

// quotientsOf are numbers divided by 0!, 1!, 2! and so on.
func quotientsOf(t *testing.T, numbers ...int64) []int64 {
	t.Helper()
	factorial := int64(1)
	for k := range numbers {
		factorial = impl.Times(factorial, max(1, int64(k)))
		inverse, _ := impl.Inverse(factorial)
		numbers[k] = impl.Times(numbers[k], inverse)
	}
	return numbers
}

func TestP22FlowsByHand(t *testing.T) {
	minus := int64(impl.P - 1)
	geometric := quotientsOf(t, 1, 1, 2, 6, 24, 120, 720, 5040, 40320, 362880, 3628800, 39916800, 479001600)
	for _, c := range []struct {
		text       string
		start, dir []int64
		y, z       [][]int64
	}{
		{"f 1: x0\n", []int64{1}, []int64{3}, [][]int64{quotientsOf(t, constant(12, 1)...)}, [][]int64{quotientsOf(t, constant(12, 3)...)}},
		{"f 1: (x0 * x0)\n", []int64{1}, []int64{1}, [][]int64{geometric}, [][]int64{{1, 2, 3, 4, 5, 6, 7, 8, 9, 10, 11, 12, 13}}},
		{"f 1: (x0 * x0)\n", []int64{0}, []int64{1}, [][]int64{constants([]int64{0}, 12)[0]}, [][]int64{unit(12, 0)}},
		{"f 1: 0\n", []int64{7}, []int64{2}, [][]int64{beginning(make([]int64, 13), 7)}, [][]int64{beginning(make([]int64, 13), 2)}},
		{"f 1: 5\n", []int64{7}, []int64{2}, [][]int64{beginning(make([]int64, 13), 7, 5)}, [][]int64{beginning(make([]int64, 13), 2)}},
		{"rot 2: x1 | neg(x0)\n", []int64{1, 0}, []int64{0, 1}, [][]int64{quotientsOf(t, 1, 0, minus, 0, 1, 0, minus, 0, 1), quotientsOf(t, 0, minus, 0, 1, 0, minus, 0, 1, 0)}, [][]int64{quotientsOf(t, 0, 1, 0, minus, 0, 1, 0, minus, 0), quotientsOf(t, 1, 0, minus, 0, 1, 0, minus, 0, 1)}},
		{"f 2: 1 | x0\n", []int64{0, 0}, []int64{1, 0}, [][]int64{{0, 1, 0, 0}, {0, 0, 500002, 0}}, [][]int64{{1, 0, 0, 0}, {0, 1, 0, 0}}},
		{"tan 1: (1 + (x0 * x0))\n", []int64{0}, []int64{0}, [][]int64{quotientsOf(t, 0, 1, 0, 2, 0, 16, 0, 272)}, [][]int64{make([]int64, 8)}},
		{"root 1: (1 / x0)\n", []int64{1}, []int64{1}, [][]int64{quotientsOf(t, 1, 1, minus, 3, impl.P-15, 105)}, [][]int64{quotientsOf(t, 1, minus, 3, impl.P-15, 105, impl.P-945)}},
		{"cond 1: if((x0 - 1); 2; (5 * x0))\n", []int64{1}, []int64{1}, [][]int64{{1, 2, 0, 0}}, [][]int64{{1, 0, 0, 0}}},
		{"cond 1: if((x0 - 1); (5 * x0); 2)\n", []int64{2}, []int64{1}, [][]int64{{2, 2, 0, 0}}, [][]int64{{1, 0, 0, 0}}},
		{"sq 1: (x0 * x0)\nf 1: let(2; sq.0^1((x0 * (x1 - 1))))\n", []int64{1}, []int64{1}, [][]int64{constant(5, 1)}, [][]int64{{1, 2, 3, 4, 5, 6}}},
	} {
		p := reading(t, c.text)
		f := int64(len(p.Funcs) - 1)
		for order := range int64(len(c.y[0])) {
			sameRows(t, fmt.Sprint("the flow of ", c.text, " from ", c.start), fineRows(t)(impl.FlowOf(p, f, c.start, order)), beginnings(c.y, order+1))
			sameRows(t, fmt.Sprint("the variation of ", c.text, " along ", c.dir), fineRows(t)(impl.VariationOf(p, f, c.start, c.dir, order)), beginnings(c.z, order+1))
			checkFlow(t, inventions(order), p, f, c.start, c.dir, order)
		}
	}
}

// flowSlowly is a flow and its variation, one coefficient after the other, with
// polynomials of t and of what is multiplied by the direction.
func flowSlowly(t *testing.T, p impl.Program, f int64, start, dir []int64, order int64) ([][]int64, [][]int64) {
	t.Helper()
	y, z := constants(start, order), constants(dir, order)
	for k := range order {
		values, slopes, code := slopesAlong(p, f, beginnings(y, k+1), beginnings(z, k+1))
		if code != impl.OK {
			t.Fatalf("the code %d of a flow", code)
		}
		share, _ := impl.Inverse(k + 1)
		for i := range y {
			y[i][k+1], z[i][k+1] = impl.Times(share, values[i][k]), impl.Times(share, slopes[i][k])
		}
	}
	return y, z
}

// checkFlow compares everything that there is for a field that has values at a start.
func checkFlow(t *testing.T, v *invention, p impl.Program, f int64, start, dir []int64, order int64) {
	t.Helper()
	name := fmt.Sprint("the flow of ", brief(textOfProgram(p)), " from ", start)
	y, z := fineRows(t)(impl.FlowOf(p, f, start, order)), fineRows(t)(impl.VariationOf(p, f, start, dir, order))
	slow, slope := flowSlowly(t, p, f, start, dir, order)
	sameRows(t, name, y, slow)
	sameRows(t, fmt.Sprint("the variation of ", name, " along ", dir), z, slope)
	outs := fineRows(t)(impl.EvaluateSeries(p, f, y))
	for k := range y {
		same(t, "the derivative of "+name, fine(t)(impl.DerivativeOf(y[k]))[:order], outs[k][:order])
	}
	sameRows(t, "the step from "+name, fineRows(t)(impl.PicardStep(p, f, y)), y)
	if !fineBool(t)(impl.CheckFlow(p, f, y)) {
		t.Errorf("%s is none", name)
	}
	lower := v.Int63n(order + 1)
	sameRows(t, "a lower order of "+name, fineRows(t)(impl.FlowOf(p, f, start, lower)), beginnings(y, lower+1))
	sameRows(t, "a lower order of a variation", fineRows(t)(impl.VariationOf(p, f, start, dir, lower)), beginnings(z, lower+1))
	for right := 1; right <= int(order); right++ {
		checkPicard(t, p, f, v.spoiled(y, right), y, right)
		other := changedAt(y, v.Intn(len(y)), right, 1+v.Int63n(impl.P-1))
		if fineBool(t)(impl.CheckFlow(p, f, other)) {
			t.Errorf("%v as well as %s", other, name)
		}
	}
}

// checkPicard does a step from series of which so many coefficients are those of the
// flow, by integrals of the outputs.
func checkPicard(t *testing.T, p impl.Program, f int64, from, y [][]int64, right int) {
	t.Helper()
	next := fineRows(t)(impl.PicardStep(p, f, from))
	first := int64(min(right+1, len(y[0])))
	sameRows(t, fmt.Sprint(right, " coefficients of ", y, " and one more"), beginnings(next, first), beginnings(y, first))
	for k, out := range fineRows(t)(impl.EvaluateSeries(p, f, from)) {
		same(t, "the integral", next[k], beginning(fine(t)(impl.IntegralOf(out)), from[k][0]))
	}
	yes := fineBool(t)(impl.CheckFlow(p, f, from))
	if yes != slices.EqualFunc(from, y, slices.Equal) {
		t.Errorf("%v in place of %v: %v", from, y, yes)
	}
}

func TestP22ManyFields(t *testing.T) {
	count, derived := 0, 0
	for seed := range int64(250) {
		v := inventions(seed)
		p, f := v.round(seed%2 == 0)
		params := p.Funcs[f].Params
		start, dir, order := v.numbers(params), v.numbers(params), v.Int63n([]int64{4, 4, 4, impl.MaxOrder + 1}[seed%4])
		if _, _, code := impl.Evaluate(p, f, start); code != impl.OK {
			y, first := impl.FlowOf(p, f, start, order)
			z, second := impl.VariationOf(p, f, start, dir, order)
			_, third := impl.CheckFlow(p, f, constants(start, order))
			if first != code || second != code || third != code || len(y)+len(z) > 0 {
				t.Errorf("%v and %v with the codes %d, %d and %d, want %d", y, z, first, second, third, code)
			}
			continue
		}
		count++
		checkFlow(t, v, p, f, start, dir, order)
		checkVariations(t, v, p, f, start, dir, order)
		if checkDerivedFlow(t, p, f, start, dir, order) {
			derived++
		}
	}
	if count < 150 || derived < 100 {
		t.Errorf("%d flows, and %d of derived functions", count, derived)
	}
}

// checkVariations has sums and multiples of directions, and the field itself as one:
// along it the variation is the derivative of the flow.
func checkVariations(t *testing.T, v *invention, p impl.Program, f int64, start, dir []int64, order int64) {
	t.Helper()
	other, times := v.numbers(int64(len(dir))), v.numbers(1)[0]
	first, second := fineRows(t)(impl.VariationOf(p, f, start, dir, order)), fineRows(t)(impl.VariationOf(p, f, start, other, order))
	both := fineRows(t)(impl.VariationOf(p, f, start, moved(dir, other, times), order))
	for k := range both {
		same(t, "the variation along a sum", both[k], moved(first[k], second[k], times))
	}
	values, _, _ := impl.Evaluate(p, f, start)
	y, along := fineRows(t)(impl.FlowOf(p, f, start, order)), fineRows(t)(impl.VariationOf(p, f, start, values, order))
	for k := range y {
		same(t, "the variation along the field", along[k][:order], fine(t)(impl.DerivativeOf(y[k]))[:order])
	}
}

// checkDerivedFlow compares the flow of the derived function, if there is one that has
// enough steps.
func checkDerivedFlow(t *testing.T, p impl.Program, f int64, start, dir []int64, order int64) bool {
	t.Helper()
	derived, code := impl.DerivedProgram(p)
	if code != impl.OK {
		return false
	}
	both, code := impl.FlowOf(derived, int64(len(p.Funcs))+f, slices.Concat(start, dir), order)
	if code != impl.OK {
		return false
	}
	y, z := fineRows(t)(impl.FlowOf(p, f, start, order)), fineRows(t)(impl.VariationOf(p, f, start, dir, order))
	sameRows(t, "the flow of the derived function", both, slices.Concat(y, z))
	return true
}

// TestP22StepsFromAnywhere has series that begin with any numbers, and of which one
// coefficient or none is right.
func TestP22StepsFromAnywhere(t *testing.T) {
	counts := map[bool]int{}
	for seed := range int64(400) {
		v := inventions(seed)
		p, f := v.round(seed%3 == 0)
		params, order := p.Funcs[f].Params, v.Int63n(3)
		y := v.series(params, order)
		outs, code := impl.EvaluateSeries(p, f, y)
		next, first := impl.PicardStep(p, f, y)
		yes, second := impl.CheckFlow(p, f, y)
		if first != code || second != code {
			t.Errorf("the codes %d and %d, want %d", first, second, code)
		}
		if code != impl.OK {
			continue
		}
		want := true
		for k, out := range outs {
			same(t, "the integral", next[k], beginning(fine(t)(impl.IntegralOf(out)), y[k][0]))
			want = want && slices.Equal(fine(t)(impl.DerivativeOf(y[k]))[:order], out[:order])
		}
		counts[yes]++
		if yes != want {
			t.Errorf("%v is a flow: %v", y, yes)
		}
	}
	if counts[true] < 50 || counts[false] < 50 {
		t.Errorf("so many series are flows: %v", counts)
	}
}

// TestP22FasterFields have the same flow in a shorter time.
func TestP22FasterFields(t *testing.T) {
	for seed := range int64(60) {
		v := inventions(seed)
		p, f := v.round(false)
		start, order, times := v.numbers(p.Funcs[f].Params), v.Int63n(impl.MaxOrder+1), v.numbers(1)[0]
		faster := copyOfProgram(p)
		for k, out := range p.Funcs[f].Outs {
			faster.Funcs[f].Outs[k] = tree(impl.KMul, num(times), out)
		}
		y, z := fineRows(t)(impl.FlowOf(p, f, start, order)), fineRows(t)(impl.FlowOf(faster, f, start, order))
		for k := range y {
			for power, number := range y[k] {
				sameNumber(t, "a coefficient", z[k][power], impl.Times(number, impl.Power(times, int64(power))))
			}
		}
	}
}

// TestP22MostParams has fields with as many params as possible, each of which leads to
// the next one.
func TestP22MostParams(t *testing.T) {
	text := "f 12: 1"
	for k := range impl.MaxParams - 1 {
		text += fmt.Sprintf(" | x%d", k)
	}
	p := reading(t, text+"\n")
	y := fineRows(t)(impl.FlowOf(p, 0, make([]int64, impl.MaxParams), impl.MaxOrder))
	for k := range y {
		want := make([]int64, impl.MaxOrder+1)
		want[k+1] = 1
		same(t, "a power of t", y[k], quotientsOf(t, want...))
	}
	z := fineRows(t)(impl.VariationOf(p, 0, make([]int64, impl.MaxParams), unit(impl.MaxParams-1, 0), impl.MaxOrder))
	for k := range z {
		want := make([]int64, impl.MaxOrder+1)
		want[k] = 1
		same(t, "a variation", z[k], quotientsOf(t, want...))
	}
}

func TestP22FlowsOfMatricesByHand(t *testing.T) {
	minus := int64(impl.P - 1)
	for _, c := range []struct {
		text  string
		start []int64
		y     [][]int64
	}{
		{"[]", nil, nil},
		{"[[0]]", []int64{5}, [][]int64{beginning(make([]int64, 13), 5)}},
		{"[[1]]", []int64{1}, [][]int64{quotientsOf(t, constant(12, 1)...)}},
		{"[[2]]", []int64{3}, [][]int64{quotientsOf(t, 3, 6, 12, 24, 48, 96, 192)}},
		{"[[0 1] [1000002 0]]", []int64{1, 0}, [][]int64{quotientsOf(t, 1, 0, minus, 0, 1, 0, minus), quotientsOf(t, 0, minus, 0, 1, 0, minus, 0)}},
		{"[[0 1] [0 0]]", []int64{2, 3}, [][]int64{{2, 3, 0, 0}, {3, 0, 0, 0}}},
		{"[[1 2] [3 4]]", []int64{1, 1}, [][]int64{quotientsOf(t, 1, 3, 17, 91), quotientsOf(t, 1, 7, 37, 199)}},
	} {
		for order := range int64(impl.MaxOrder + 1) {
			if len(c.y) == 0 || order < int64(len(c.y[0])) {
				sameRows(t, "the flow of "+c.text, fineRows(t)(impl.LinearFlow(matrixOf(t, c.text), c.start, order)), beginnings(c.y, order+1))
			}
		}
	}
}

// fieldOfRows is the field whose outputs are the products of the rows of a matrix and
// the arguments.
func fieldOfRows(t *testing.T, a [][]int64) impl.Program {
	t.Helper()
	var outs []string
	for _, row := range a {
		sum := "0"
		for k, number := range row {
			sum = fmt.Sprintf("(%s + (%d * x%d))", sum, number, k)
		}
		outs = append(outs, sum)
	}
	return reading(t, fmt.Sprintf("f %d: %s\n", len(a), strings.Join(outs, " | ")))
}

func TestP22ManyMatrices(t *testing.T) {
	for seed := range int64(200) {
		v := inventions(seed)
		side, order := 1+seed%impl.MaxSide, v.Int63n(impl.MaxOrder+1)
		a, start, dir := v.square(side), v.numbers(side), v.numbers(side)
		p := fieldOfRows(t, a)
		y := fineRows(t)(impl.LinearFlow(a, start, order))
		sameRows(t, fmt.Sprint("the field of the rows ", a), fineRows(t)(impl.FlowOf(p, 0, start, order)), y)
		sameRows(t, fmt.Sprint("the variation of ", a), fineRows(t)(impl.VariationOf(p, 0, start, dir, order)), fineRows(t)(impl.LinearFlow(a, dir, order)))
		power := start
		for k := range order + 1 {
			var numbers []int64
			for range k {
				numbers = append(numbers, 0)
			}
			for i, number := range power {
				sameNumber(t, fmt.Sprint("the power ", k, " of ", a), y[i][k], quotientsOf(t, append(slices.Clone(numbers), number)...)[k])
			}
			power = rowsTimes(a, power)
		}
		if side == 1 {
			e := fine(t)(impl.ExpSeries(moved(make([]int64, order+1), timeOf(order), a[0][0])))
			same(t, "the exponential series", y[0], moved(make([]int64, order+1), e, start[0]))
		}
	}
}
