package tests

import (
	"fmt"
	"slices"
	"testing"

	"loop.example/g01091/impl"
)

// gradientWay is a way to the gradient of an output, and whether there is one at
// the arguments.
type gradientWay struct {
	name string
	of   func(t *testing.T, p impl.Program, f, pick int64, args []int64) ([]int64, bool)
}

// gradientWays are all ways of the chapters 3 to 5, and the definition.
func gradientWays() []gradientWay {
	return []gradientWay{
		{"the definition", byDefinition},
		{"the gradient", func(t *testing.T, p impl.Program, f, pick int64, args []int64) ([]int64, bool) {
			list, code := impl.GradientOf(p, f, pick, args)
			return list, code == impl.OK
		}},
		{"derivatives along unit vectors", alongUnits},
		{"the reverse sweep of a tape", func(t *testing.T, p impl.Program, f, pick int64, args []int64) ([]int64, bool) {
			return bySweep(t, p, f, pick, args, func(tape impl.Tape) (impl.Tape, int64) { return tape, impl.OK })
		}},
		{"the reverse sweep of a shorter tape", func(t *testing.T, p impl.Program, f, pick int64, args []int64) ([]int64, bool) {
			return bySweep(t, p, f, pick, args, impl.OptimizeTape)
		}},
		{"the simplified program", func(t *testing.T, p impl.Program, f, pick int64, args []int64) ([]int64, bool) {
			list, code := impl.GradientOf(fineProgram(t)(impl.SimplifyProgram(p)), f, pick, args)
			return list, code == impl.OK
		}},
		{"the derived program", byDerivedProgram},
		{"the simplified derived program", func(t *testing.T, p impl.Program, f, pick int64, args []int64) ([]int64, bool) {
			q, code := impl.DerivedProgram(p)
			if code != impl.OK {
				return nil, false
			}
			return unitRuns(fineProgram(t)(impl.SimplifyProgram(q)), int64(len(p.Funcs))+f, pick+int64(len(p.Funcs[f].Outs)), args)
		}},
		{"the derived simplified program", func(t *testing.T, p impl.Program, f, pick int64, args []int64) ([]int64, bool) {
			return byDerivedProgram(t, fineProgram(t)(impl.SimplifyProgram(p)), f, pick, args)
		}},
		{"the polynomial", byPolynomial},
		{"the expression of the polynomial", func(t *testing.T, p impl.Program, f, pick int64, args []int64) ([]int64, bool) {
			a, code := impl.PolyOf(p, f, pick)
			e, late := impl.PolyExpr(a)
			if code != impl.OK || late != impl.OK {
				return nil, false
			}
			list, code := impl.GradientOf(withOut(impl.Program{}, e, int64(len(args))), 0, 0, args)
			return list, code == impl.OK
		}},
	}
}

// byDefinition has, for each parameter, the coefficient of t of the polynomial that
// the output is along its unit vector. It is known by its values, if its degree is
// at most MaxOrder, as the series is at the next point. All conditions have to select
// the same kids as at the arguments.
func byDefinition(t *testing.T, p impl.Program, f, pick int64, args []int64) ([]int64, bool) {
	gradient := []int64{}
	tape, _ := impl.Record(p, f, args)
	for k := range args {
		var values []int64
		at, dir := args, unit(len(args)-1, k)
		for range impl.MaxOrder + 2 {
			outs, _, ok := evaluated(p, f, at)
			if hold, code := impl.GuardsHold(tape, at); !ok || code != impl.OK || !hold {
				return nil, false
			}
			values, at = append(values, outs[pick]), moved(at, dir, 1)
		}
		line := fine(t)(impl.Interpolate(values[:impl.MaxOrder+1]))
		next := fineNumber(t)(impl.ValueAt(line, impl.MaxOrder+1))
		if next != values[impl.MaxOrder+1] {
			return nil, false
		}
		gradient = append(gradient, line[1])
	}
	return gradient, true
}

// alongUnits has the derivatives along the unit vectors.
func alongUnits(t *testing.T, p impl.Program, f, pick int64, args []int64) ([]int64, bool) {
	gradient := []int64{}
	for k := range args {
		_, slopes, code := impl.Directional(p, f, args, unit(len(args)-1, k))
		if code != impl.OK {
			return nil, false
		}
		gradient = append(gradient, slopes[pick])
	}
	return gradient, true
}

// bySweep records a tape, and sweeps what becomes of it backwards.
func bySweep(t *testing.T, p impl.Program, f, pick int64, args []int64, change func(tape impl.Tape) (impl.Tape, int64)) ([]int64, bool) {
	tape, code := impl.Record(p, f, args)
	if code != impl.OK {
		return nil, false
	}
	tape = fineTape(t)(change(tape))
	return fine(t)(impl.TapeReverse(tape, args, unit(len(tape.Outs)-1, int(pick)))), true
}

// byDerivedProgram evaluates the derived program.
func byDerivedProgram(t *testing.T, p impl.Program, f, pick int64, args []int64) ([]int64, bool) {
	q, code := impl.DerivedProgram(p)
	if code != impl.OK {
		return nil, false
	}
	return unitRuns(q, int64(len(p.Funcs))+f, pick+int64(len(p.Funcs[f].Outs)), args)
}

// unitRuns evaluates a derived function for some arguments and each unit vector.
func unitRuns(p impl.Program, f, pick int64, args []int64) ([]int64, bool) {
	gradient := []int64{}
	for k := range args {
		outs, _, ok := evaluated(p, f, slices.Concat(args, unit(len(args)-1, k)))
		if !ok {
			return nil, false
		}
		gradient = append(gradient, outs[pick])
	}
	return gradient, true
}

// byPolynomial derives the polynomial of the output.
func byPolynomial(t *testing.T, p impl.Program, f, pick int64, args []int64) ([]int64, bool) {
	a, code := impl.PolyOf(p, f, pick)
	if code != impl.OK {
		return nil, false
	}
	gradient := []int64{}
	for k := range a.Vars {
		gradient = append(gradient, fineNumber(t)(impl.PolyValue(finePoly(t)(impl.DerivePoly(a, k)), args)))
	}
	return gradient, true
}

// checkGradients compares all ways to the gradients of all outputs of a function.
func checkGradients(t *testing.T, counts map[string]int, p impl.Program, f int64, args []int64) {
	t.Helper()
	for pick := range p.Funcs[f].Outs {
		want, code := impl.GradientOf(p, f, int64(pick), args)
		if code != impl.OK {
			return
		}
		for _, way := range gradientWays() {
			if have, ok := way.of(t, p, f, int64(pick), args); ok {
				counts[way.name]++
				same(t, fmt.Sprint(way.name, " of ", textOfProgram(p), " at ", args), have, want)
			}
		}
	}
}

func expectAllWays(t *testing.T, counts map[string]int, least int) {
	t.Helper()
	for _, way := range gradientWays() {
		if counts[way.name] < least {
			t.Errorf("%s: so often there is one: %d", way.name, counts[way.name])
		}
	}
}

// TestP14OrdinaryPrograms has programs with gradients that are known.
func TestP14OrdinaryPrograms(t *testing.T) {
	for _, c := range []struct {
		text string
		args []int64
		want []int64
		ways int
	}{
		{exampleText, []int64{3, 2}, []int64{6, 1}, 11},
		{"f 3: ((x0 * x1) + (x1 * x2))\n", []int64{2, 3, 5}, []int64{3, 7, 3}, 11},
		{"f 1: 7\n", []int64{4}, []int64{0}, 11},
		{"f 0: (3 * 4)\n", nil, nil, 11},
		{"g 2: (x0 + x1) | (x0 * x1)\nf 2: g.0^3(x0; x1)\n", []int64{1, 2}, []int64{11, 7}, 11},
		{"f 2: let((x0 * x0); let((x2 * x1); (x3 * x3)))\n", []int64{2, 3}, []int64{288, 96}, 11},
		{"f 2: if(0; (x0 * x1); (1 / 0))\n", []int64{5, 6}, []int64{6, 5}, 11},
		{"f 2: ((x0 * 4) / 2) | (x1 / 0)\n", []int64{5, 6}, nil, 0},
		{"f 2: ((x0 * 4) / (x1 + 1))\n", []int64{1, 1}, []int64{2, impl.P - 1}, 8},
		{"f 2: if((x0 - x1); (x0 * x1); (x0 + x1))\n", []int64{3, 3}, []int64{3, 3}, 8},
		{"f 1: (x0 - x0)\n", []int64{9}, []int64{0}, 11},
		{"dup 1: x0 | x0\nf 1: (dup.0(x0) + dup.1((x0 * x0)))\n", []int64{4}, []int64{9}, 11},
	} {
		p, counts := reading(t, c.text), map[string]int{}
		f := int64(len(p.Funcs) - 1)
		if c.ways > 0 {
			same(t, c.text, fine(t)(impl.GradientOf(p, f, 0, c.args)), c.want)
		}
		checkGradients(t, counts, program(append(slices.Clone(p.Funcs[:f]), function("f", p.Funcs[f].Params, p.Funcs[f].Outs[0]))...), f, c.args)
		if c.ways > 0 && len(counts) != c.ways {
			t.Errorf("%s has so many ways: %v", c.text, counts)
		}
	}
}

// TestP14ManyPrograms has programs of all kinds.
func TestP14ManyPrograms(t *testing.T) {
	counts := map[string]int{}
	for seed := range int64(300) {
		v, p, args := differentiable(seed + 80000)
		for f := range p.Funcs {
			if p.Funcs[f].Params == int64(len(args)) {
				checkGradients(t, counts, p, int64(f), args)
			}
		}
		vars := 1 + v.Int63n(3)
		p = withOut(v.program(1), v.polynomial(vars, 6, 5), vars)
		checkGradients(t, counts, p, 1, v.numbers(vars))
	}
	redundantPrograms(100, func(v *invention, p impl.Program) {
		for f, function := range p.Funcs {
			checkGradients(t, counts, p, int64(f), v.numbers(function.Params))
		}
	})
	expectAllWays(t, counts, 300)
}
