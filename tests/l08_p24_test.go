package tests

import (
	"fmt"
	"slices"
	"testing"

	"loop.example/g01091/impl"
)

// total is a value with its derivatives, or the code in place of them.
type total struct {
	value int64
	grad  []int64
	code  int64
}

// totalOf are the results of TotalOf or SumOf.
func totalOf(value int64, grad []int64, code int64) total { return total{value, grad, code} }

// expectTotal fails the test unless a job has a total.
func expectTotal(t *testing.T, name string, j impl.Job, want total) {
	t.Helper()
	sameText(t, name, totalOf(impl.TotalOf(j)), want)
}

func TestP24Example(t *testing.T) {
	p := reading(t, "f 2: ((x0 * x1) + x1)\n")
	expectTotal(t, "the example", jobOn(p, 0, []int64{3}, []int64{2}, []int64{5}), total{28, []int64{7}, impl.OK})
}

// TestP24JobsByHand has jobs with the parts of their terms and their totals.
func TestP24JobsByHand(t *testing.T) {
	p := reading(t, serviceText)
	half, _ := impl.Inverse(2)
	zero := failing(impl.ErrZero)
	for _, c := range []struct {
		j     impl.Job
		parts []impl.Part
		total total
	}{
		{exampleJob(t), []impl.Part{partWith(8, 2), partWith(20, 5)}, total{28, []int64{7}, impl.OK}},
		{jobOn(p, 1, []int64{3}), nil, total{0, []int64{0}, impl.OK}},
		{jobOn(p, 1, nil), nil, total{0, nil, impl.OK}},
		{jobOn(p, 1, []int64{3, 2}), nil, total{0, []int64{0, 0}, impl.OK}},
		{jobOn(p, 1, nil, []int64{3, 2}, []int64{3, 5}), []impl.Part{partWith(8), partWith(20)}, total{28, nil, impl.OK}},
		{jobOn(p, 1, []int64{3, 2}, nil, nil, nil), []impl.Part{partWith(8, 2, 4), partWith(8, 2, 4), partWith(8, 2, 4)}, total{24, []int64{6, 12}, impl.OK}},
		{jobOn(p, 1, []int64{impl.P - 1}, []int64{impl.P - 1}, []int64{1}), []impl.Part{partWith(0, impl.P-1), partWith(0, 1)}, total{0, []int64{0}, impl.OK}},
		{jobOn(p, 2, []int64{3, 4}, []int64{2}), []impl.Part{partWith(6, 2, 0)}, total{6, []int64{2, 0}, impl.OK}},
		{jobOn(p, 2, []int64{3, 4}, []int64{2}, []int64{0}), []impl.Part{partWith(6, 2, 0), zero}, total{code: impl.ErrZero}},
		{jobOn(p, 0, []int64{3}, []int64{4, 2}, []int64{0, 1}), []impl.Part{partWith(6, 2), partWith(0, 0)}, total{6, []int64{2}, impl.OK}},
		{jobOn(p, 3, []int64{2}, []int64{1}, []int64{3}), []impl.Part{partWith(half, impl.Residue(-1*impl.Times(half, half))), partWith(impl.Times(3, half), impl.Residue(-3*impl.Times(half, half)))}, total{2, []int64{impl.P - 1}, impl.OK}},
		{jobOn(p, 3, []int64{0}, []int64{2}), []impl.Part{zero}, total{code: impl.ErrZero}},
		{jobOn(p, 4, []int64{3, 0}, []int64{8}, []int64{9}), []impl.Part{partWith(9, 6, 0), partWith(9, 6, 0)}, total{18, []int64{12, 0}, impl.OK}},
		{jobOn(p, 4, []int64{3, 1}, []int64{8}, []int64{9}), []impl.Part{partWith(8, 0, 0), partWith(9, 0, 0)}, total{17, []int64{0, 0}, impl.OK}},
		{jobOn(p, 5, []int64{9}, nil), []impl.Part{partWith(5, 0)}, total{5, []int64{0}, impl.OK}},
		{jobOn(p, 5, nil, []int64{9}), []impl.Part{partWith(5)}, total{5, nil, impl.OK}},
		{jobOn(p, 6, nil, slices.Repeat([][]int64{nil}, 10)...), slices.Repeat([]impl.Part{partWith(7)}, 10), total{70, nil, impl.OK}},
		{jobOn(p, 1, []int64{1}, slices.Repeat([][]int64{{500000}}, 10)...), slices.Repeat([]impl.Part{partWith(1000000, 500000)}, 10), total{impl.Residue(10000000), []int64{impl.Residue(5000000)}, impl.OK}},
	} {
		name := fmt.Sprint("the function ", c.j.Func, " at ", c.j.Point, c.j.Terms)
		if !impl.ValidJob(c.j) {
			t.Errorf("%s is not valid", name)
		}
		for k, want := range c.parts {
			part, code := impl.PartOf(c.j, int64(k))
			sameText(t, name, results(part, code), results(want, impl.OK))
		}
		_, code := impl.PartOf(c.j, int64(len(c.parts)))
		sameNumber(t, name, code, impl.ErrRange)
		expectTotal(t, name, c.j, c.total)
	}
}

// TestP24NumbersOfTerms has jobs with all numbers of terms, and more.
func TestP24NumbersOfTerms(t *testing.T) {
	for terms := range 14 {
		j := jobOn(reading(t, serviceText), 1, []int64{3})
		for k := range terms {
			j.Terms = append(j.Terms, []int64{int64(k)})
		}
		if impl.ValidJob(j) != (terms <= 10) {
			t.Errorf("%d terms", terms)
		}
		sum := int64(terms * (terms - 1) / 2)
		if terms <= 10 {
			expectTotal(t, fmt.Sprint(terms, " terms"), j, total{4 * sum, []int64{sum}, impl.OK})
		} else {
			expectTotal(t, fmt.Sprint(terms, " terms"), j, total{code: impl.ErrInvalid})
		}
	}
}

// TestP24SharedNumbers has all numbers of shared parameters of functions, with points
// and terms of all lengths, and without terms.
func TestP24SharedNumbers(t *testing.T) {
	p := program(function("f0", 0, num(1)))
	for params := int64(1); params <= impl.MaxParams; params++ {
		p.Funcs = append(p.Funcs, function(fmt.Sprint("f", params), params, variable(params-1)))
	}
	for params := range int64(impl.MaxParams + 1) {
		for shared := int64(-1); shared <= params+1; shared++ {
			for point := range params + 2 {
				if none := (impl.Job{Program: p, Func: params, Shared: shared, Point: make([]int64, point)}); impl.ValidJob(none) != (shared >= 0 && shared <= params && shared == point) {
					t.Errorf("%d of %d shared, a point of %d and no terms", shared, params, point)
				}
				for numbers := range params + 2 {
					j := impl.Job{Program: p, Func: params, Shared: shared, Point: make([]int64, point), Terms: [][]int64{make([]int64, numbers)}}
					if impl.ValidJob(j) != (shared >= 0 && shared == point && shared+numbers == params) {
						t.Errorf("%d of %d shared, a point of %d and a term of %d numbers", shared, params, point, numbers)
					}
				}
			}
		}
	}
}

// budgetJob is a job whose terms, but for those of the number 0, use up all steps; those
// of the number 2 divide by 0 behind many steps.
func budgetJob(t *testing.T, terms ...int64) impl.Job {
	t.Helper()
	body := textOf(impl.Program{}, flat(300))
	j := jobOn(reading(t, "h 1: ("+body+" * x0)\nf 2: if(x1; (x0 * x0); if((x1 - 2); (h.0(x0) / (x1 - 2)); h.0^8(h.0^8(x0))))\n"), 1, []int64{3})
	for _, number := range terms {
		j.Terms = append(j.Terms, []int64{number})
	}
	return j
}

// TestP24FailingTerms has terms that divide by 0 and others that use up all steps, in
// all orders: the first of their codes is told.
func TestP24FailingTerms(t *testing.T) {
	codes := []int64{impl.OK, impl.ErrBudget, impl.ErrZero}
	for a := range int64(3) {
		for b := range int64(3) {
			for c := range int64(3) {
				j := budgetJob(t, a, b, c)
				name := fmt.Sprint("the terms ", j.Terms)
				want := total{27, []int64{18}, impl.OK}
				for k, number := range []int64{c, b, a} {
					part, code := impl.PartOf(j, int64(2-k))
					if number > 0 {
						want = total{code: codes[number]}
						sameText(t, name, results(part, code), results(failing(codes[number]), impl.OK))
					} else {
						sameText(t, name, results(part, code), results(partWith(9, 6), impl.OK))
					}
				}
				expectTotal(t, name, j, want)
			}
		}
	}
}

// TestP24UntouchedByHand has points that change one input, on which a term depends in
// some way, or not at all.
func TestP24UntouchedByHand(t *testing.T) {
	p := reading(t, serviceText+"out 3: (x0 + x2) | (x1 * x1)\ndiv 3: (x0 + 0) | (x2 / (x1 + 1))\nguard 3: x0 | if((x1 - 9); 1; x2)\nsame 3: (x0 + (x1 - x1)) | 1\nlet 3: let(x1; x0)\nloop 2: x1 | x1\nl 3: loop.0^2(x0; x1)\nm 3: loop.0^0(x0; x1)\nquo 3: (x1 / 7) | ((x0 * 0) / x2)\n")
	named := func(name string) int64 { return fineNumber(t)(impl.FuncNamed(p, name)) }
	for _, c := range []struct {
		name        string
		term        int64 // the number of the only term
		first, next bool  // whether it stays if the input 0, or 1, is another one
	}{
		{"out", 5, false, true}, {"div", 5, false, false}, {"guard", 5, false, false}, {"same", 5, false, false}, {"let", 5, false, true}, {"l", 5, true, false}, {"m", 5, false, true}, {"quo", 5, true, false},
		{"g", 2, false, true}, {"q", 2, false, false}, {"if", 5, true, false},
		{"g", 0, false, false}, {"q", 0, false, false}, {"quo", 0, false, false},
	} {
		j := jobOn(p, named(c.name), []int64{3, 4}, []int64{c.term})
		part, _ := impl.PartOf(j, 0)
		fails := part.Code != impl.OK
		for _, to := range [][]int64{{3, 4}, {8, 4}, {0, 4}, {3, 0}, {3, 9}, {8, 9}, {impl.P - 1, 4}, {3, impl.P - 1}} {
			want := !fails && (to[0] == 3 || c.first) && (to[1] == 4 || c.next)
			if have := fineBool(t)(impl.Untouched(j, 0, to)); have != want {
				t.Errorf("%s of %d at %v: %v", c.name, c.term, to, have)
			}
		}
	}
	// The last two numbers of a term are not shared, and may be those of a guard.
	j := jobOn(p, named("if"), []int64{3}, []int64{0, 5}, []int64{1, 5})
	for k, want := range []bool{false, true} {
		if have := fineBool(t)(impl.Untouched(j, int64(k), []int64{4})); have != want {
			t.Errorf("the term %d: %v", k, have)
		}
	}
	if !fineBool(t)(impl.Untouched(jobOn(p, 1, nil, []int64{1, 2}), 0, nil)) || fineBool(t)(impl.Untouched(budgetJob(t, 1), 0, []int64{3})) {
		t.Error("a term without shared numbers is untouched, one that fails is not")
	}
}

// checkStays compares the parts of all terms at two points, and returns how many are
// untouched, and how many have other parts.
func checkStays(t *testing.T, j impl.Job, point []int64) (stay, differ int) {
	t.Helper()
	for k := range j.Terms {
		name := fmt.Sprintf("the term %d of %s from %v to %v", k, textOfProgram(j.Program), j.Point, point)
		have := fineBool(t)(impl.Untouched(j, int64(k), point))
		if have != staysSlowly(j, k, point) {
			t.Errorf("%s: %v", name, have)
		}
		before, _ := impl.PartOf(j, int64(k))
		other := j
		other.Point = point
		after, _ := impl.PartOf(other, int64(k))
		same := fmt.Sprint(before) == fmt.Sprint(after)
		if have && (!same || before.Code != impl.OK) {
			t.Errorf("%s: first %v and then %v", name, before, after)
		}
		if have && !slices.Equal(j.Point, point) {
			stay++
		}
		if !same {
			differ++
		}
	}
	return stay, differ
}

// TestP24ManyJobs compares parts with evaluations and gradients, and totals with the
// sums of parts, also without one of the terms.
func TestP24ManyJobs(t *testing.T) {
	stay, differ, codes := 0, 0, map[int64]int{}
	for seed := range int64(600) {
		v := inventions(seed)
		j := v.job()
		name := fmt.Sprint(textOfProgram(j.Program), j.Point, j.Terms)
		var parts []impl.Part
		for k := range j.Terms {
			part, code := impl.PartOf(j, int64(k))
			parts = append(parts, part)
			sameText(t, name, results(part, code), results(partSlowly(j, k), impl.OK))
		}
		want := sumSlowly(parts, j.Shared)
		codes[want.code]++
		expectTotal(t, name, j, want)
		for k := range j.Terms {
			fewer := j
			fewer.Terms = slices.Delete(slices.Clone(j.Terms), k, k+1)
			rest := slices.Delete(slices.Clone(parts), k, k+1)
			expectTotal(t, name, fewer, sumSlowly(rest, j.Shared))
			if want.code == impl.OK {
				value, grad, _ := impl.TotalOf(fewer)
				sameNumber(t, name, impl.Plus(value, parts[k].Value), want.value)
				same(t, name, moved(grad, parts[k].Grad, 1), want.grad)
			}
		}
		for range 6 {
			a, b := checkStays(t, j, v.nextPoint(j.Point))
			stay, differ = stay+a, differ+b
		}
	}
	if stay < 300 || differ < 300 || codes[impl.OK] < 200 || codes[impl.ErrZero] < 30 {
		t.Errorf("%d stay, %d differ, and the codes are %v", stay, differ, codes)
	}
}

// sumSlowly is the sum of parts with so many derivatives.
func sumSlowly(parts []impl.Part, shared int64) total {
	sum := total{grad: make([]int64, shared)}
	for _, part := range parts {
		if part.Code != impl.OK {
			return total{code: part.Code}
		}
		sum.value = (sum.value + part.Value) % impl.P
		for k := range sum.grad {
			sum.grad[k] = (sum.grad[k] + part.Grad[k]) % impl.P
		}
	}
	return sum
}
