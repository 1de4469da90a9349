package tests

import (
	"fmt"
	"slices"
	"testing"

	"loop.example/g01091/impl"
)

// served is the sum of a job that a net tells in the end, whose workers are lost and
// which crashes on the way. It begins at another point.
func (v *invention) served(t *testing.T, j impl.Job) total {
	t.Helper()
	workers := 1 + v.Int63n(impl.MaxWorkers)
	first := j
	first.Point = v.nextPoint(j.Point)
	n := fineNet(t)(impl.NewNet(first, workers))
	if v.Intn(2) == 0 {
		n, _, _ = impl.RunNet(n, v.troubles(j, workers))
	}
	n = fineNet(t)(impl.StepNet(n, impl.Act{Kind: impl.AcPoint, Numbers: j.Point}))
	n, made, code := impl.RunNet(n, v.troubles(j, workers))
	if code != impl.OK || made == 0 || !impl.IsTrue(n.Service) {
		t.Fatalf("%d acts are made with the code %d", made, code)
	}
	n = fineNet(t)(impl.FinishNet(n))
	sameText(t, "the job in the end", n.Service.Job, j)
	return totalOf(impl.SumOf(n.Service))
}

// troubles makes acts of a net that change no job.
func (v *invention) troubles(j impl.Job, workers int64) []impl.Act {
	var list []impl.Act
	for len(list) < 60 {
		a := v.act(j, workers)
		if a.Kind == impl.AcTerm || a.Kind == impl.AcPoint {
			a = impl.Act{Kind: impl.AcSync}
		}
		list = append(list, a)
	}
	return list
}

// checkServed compares the gradient of an output 0 with that of jobs, of which the first
// numbers are shared, and returns how many there are.
func checkServed(t *testing.T, v *invention, p impl.Program, f int64, args []int64) int {
	t.Helper()
	gradient := fine(t)(impl.GradientOf(p, f, 0, args))
	values, _, _ := impl.Evaluate(p, f, args)
	for shared := range len(args) + 1 {
		j := jobOn(p, f, slices.Clone(args[:shared]), slices.Clone(args[shared:]))
		want := total{values[0], gradient[:shared], impl.OK}
		expectTotal(t, "the total", j, want)
		sameText(t, fmt.Sprintf("%s at %v", textOfProgram(p), args), v.served(t, j), want)
		// More terms add their parts.
		for range 1 + v.Intn(4) {
			rest := v.numbers(int64(len(args) - shared))
			at := slices.Concat(args[:shared], rest)
			slopes, code := impl.GradientOf(p, f, 0, at)
			if code != impl.OK {
				continue
			}
			outs, _, _ := impl.Evaluate(p, f, at)
			j.Terms = append(j.Terms, rest)
			want = total{impl.Plus(want.value, outs[0]), moved(want.grad, slopes[:shared], 1), impl.OK}
		}
		sameText(t, fmt.Sprintf("%s at %v for %v", textOfProgram(p), j.Point, j.Terms), v.served(t, j), want)
	}
	return len(args) + 1
}

// checkPlanned compares the gradient of the output 0 of a loop with that of its rounds,
// which are reversed with few stored states.
func checkPlanned(t *testing.T, p impl.Program, f int64, args []int64, n int64, want []int64) {
	t.Helper()
	weights := unit(len(args)-1, 0)
	same(t, "RoundGradient", fine(t)(impl.RoundGradient(p, f, args, weights, n)), want)
	for slots := int64(1); slots <= 4; slots++ {
		plan := fineSchedule(t)(impl.BestSchedule(ones(n), slots))
		gradient, u, code := impl.ReverseRounds(p, f, args, weights, plan, slots)
		same(t, "ReverseRounds", fine(t)(gradient, code), want)
		sameNumber(t, "the cost", u.Cost, fineNumber(t)(impl.FormulaCost(n, slots)))
	}
}

// checkDerivedJob has the derivatives as values of a job of the derived program.
func checkDerivedJob(t *testing.T, v *invention, p impl.Program, f int64, args, want []int64) bool {
	t.Helper()
	derived, code := impl.DerivedProgram(p)
	if code != impl.OK {
		return false
	}
	params := int64(len(args))
	slope := function("slope", 2*params, calling(int64(len(p.Funcs))+f, int64(len(p.Funcs[f].Outs)), flatVariables(2*params)...))
	derived.Funcs = append(derived.Funcs, slope)
	if !impl.ValidProgram(derived) {
		return false
	}
	for k := range args {
		j := jobOn(derived, int64(len(derived.Funcs)-1), nil, slices.Concat(args, unit(len(args)-1, k)))
		sum := v.served(t, j)
		if sum.code == impl.ErrBudget {
			return false
		}
		sameText(t, fmt.Sprintf("the slope %d", k), sum, total{want[k], nil, impl.OK})
	}
	return true
}

// TestP28GradientsByHand has loops with gradients that are known, in all ways.
func TestP28GradientsByHand(t *testing.T) {
	for _, c := range []struct {
		text string
		args []int64
		n    int64
		want []int64
	}{
		{"sq 1: (x0 * x0)\n", []int64{3}, 3, []int64{17496}}, {"sq 1: (x0 * x0)\n", []int64{3}, 0, []int64{1}}, {"two 1: (x0 + x0)\n", []int64{7}, 8, []int64{256}}, {"fib 2: x1 | (x0 + x1)\n", []int64{0, 1}, 8, []int64{13, 21}},
		{"pow 2: (x0 * x1) | x1\n", []int64{1, 2}, 5, []int64{32, 80}}, {"if 2: if(x1; x0; (x0 * x0)) | if(x1; 0; (x1 - 1))\n", []int64{3, 2}, 6, []int64{108, 0}}, {"inv 1: (1 / x0)\n", []int64{2}, 2, []int64{1}}, {"neg 1: neg(x0)\n", []int64{5}, 3, []int64{impl.P - 1}},
	} {
		p := reading(t, c.text)
		q := fineProgram(t)(impl.WithLoop(p, 0, c.n))
		same(t, c.text, fine(t)(impl.GradientOf(q, 1, 0, c.args)), c.want)
		checkGradients(t, map[string]int{}, q, 1, c.args)
		checkPlanned(t, p, 0, c.args, c.n, c.want)
		v := inventions(c.n)
		checkServed(t, v, q, 1, c.args)
		if !checkDerivedJob(t, v, q, 1, c.args, c.want) {
			t.Errorf("%s has no derived program", c.text)
		}
	}
}

// TestP28ManyPrograms has loops of all kinds, and compares all ways to their gradients:
// the evaluation with pairs, the tape and its shorter one, the derived program, the
// polynomial, a planned schedule, and nets.
func TestP28ManyPrograms(t *testing.T) {
	counts, jobs, slopes := map[string]int{}, 0, 0
	for seed := range int64(90) {
		v := inventions(seed + 70000)
		p, f := v.round(seed%3 > 0)
		args, n := v.numbers(p.Funcs[f].Params), v.Int63n([]int64{3, 9}[seed%2])
		q := fineProgram(t)(impl.WithLoop(p, f, n))
		loop := int64(len(p.Funcs))
		want, code := impl.GradientOf(q, loop, 0, args)
		if code != impl.OK {
			sum := v.served(t, jobOn(q, loop, args, nil))
			sameText(t, "a sum that fails", sum, total{code: code})
			continue
		}
		checkGradients(t, counts, q, loop, args)
		checkPlanned(t, p, f, args, n, want)
		jobs += checkServed(t, v, q, loop, args)
		if checkDerivedJob(t, v, q, loop, args, want) {
			slopes++
		}
	}
	expectAllWays(t, counts, 30)
	if jobs < 120 || slopes < 30 {
		t.Errorf("%d jobs and %d derived ones", jobs, slopes)
	}
}
