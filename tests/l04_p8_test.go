package tests

import (
	"fmt"
	"slices"
	"strings"
	"testing"

	"loop.example/g01091/impl"
)

func TestP8Example(t *testing.T) {
	tape := recorded(t, reading(t, exampleText), 1, []int64{3, 2})
	same(t, "TapeReverse", fine(t)(impl.TapeReverse(tape, []int64{3, 2}, []int64{1, 1})), []int64{6, 33})
	same(t, "AdjointsOf", fine(t)(impl.AdjointsOf(tape, []int64{3, 2}, []int64{1, 1})), []int64{6, 33, 1, 1, 8, 1})
	same(t, "TapeHessian", fine(t)(impl.TapeHessian(tape, []int64{3, 2}, []int64{1, 1}, []int64{1, 1})), []int64{2, 48})
	same(t, "InputsOf", fine(t)(impl.InputsOf(tape, 3)), []int64{0, 1})
}

// TestP8AdjointsByHand has an instruction of each kind, with two registers and with
// one that is used twice, at the arguments 20 and 5.
func TestP8AdjointsByHand(t *testing.T) {
	const minus = impl.P - 1
	fifth, _ := impl.Inverse(5)
	twentieth, _ := impl.Inverse(20)
	for _, c := range []struct {
		code string
		want []int64 // the adjoints for the weight 1 of each out
	}{
		{"out 0", []int64{1, 0}}, {"out 1 0", []int64{1, 1}}, {"out 1 1 1", []int64{0, 3}}, {"num 9\nout 2 2", []int64{0, 0, 2}},
		{"add 0 1\nout 2", []int64{1, 1, 1}}, {"add 1 1\nout 2", []int64{0, 2, 1}}, {"add 0 1\nout 2 0", []int64{2, 1, 1}},
		{"sub 0 1\nout 2", []int64{1, minus, 1}}, {"sub 1 0\nout 2", []int64{minus, 1, 1}}, {"sub 0 0\nout 2", []int64{0, 0, 1}}, {"sub 0 0\nout 2 0", []int64{1, 0, 1}},
		{"mul 0 1\nout 2", []int64{5, 20, 1}}, {"mul 0 0\nout 2", []int64{40, 0, 1}}, {"mul 1 1\nout 2 2", []int64{0, 20, 2}}, {"mul 0 0\nmul 2 2\nout 3", []int64{32000, 0, 800, 1}}, {"mul 0 0\nmul 2 0\nout 3", []int64{1200, 0, 20, 1}},
		{"div 0 1\nout 2", []int64{fifth, impl.Residue(-4 * fifth), 1}}, {"div 0 0\nout 2", []int64{0, 0, 1}}, {"div 1 0\nout 2", []int64{impl.Times(-5, impl.Power(twentieth, 2)), twentieth, 1}},
		{"neg 0\nout 2", []int64{minus, 0, 1}}, {"neg 0\nneg 2\nout 3 2", []int64{0, 0, 0, 1}}, {"neg 1\nmul 2 2\nout 3", []int64{0, 10, minus - 9, 1}},
		{"in 0\nin 1\nmul 2 1\nout 4", []int64{0, 20, 5, 0, 1}}, {"in 0\nadd 0 2\nout 3", []int64{1, 0, 1, 1}}, {"mul 0 1\nout 0", []int64{1, 0, 0}}, {"mul 0 1\nmul 0 1\nout 2", []int64{5, 20, 1, 0}},
	} {
		tape := taped(t, "tape 2\nin 0\nin 1\n"+c.code+"\n")
		weights := constant(len(tape.Outs)-1, 1)
		adjoints := fine(t)(impl.AdjointsOf(tape, []int64{20, 5}, weights))
		same(t, c.code, adjoints, c.want)
		sums := make([]int64, 2)
		for k, instr := range tape.Code {
			if instr.Op == impl.OpIn {
				sums[instr.Num] = impl.Plus(sums[instr.Num], c.want[k])
			}
		}
		same(t, c.code, fine(t)(impl.TapeReverse(tape, []int64{20, 5}, weights)), sums)
	}
}

// TestP8WeightsByHand have other numbers than 1.
func TestP8WeightsByHand(t *testing.T) {
	tape := taped(t, "tape 3\nin 0\nin 2\nmul 0 1\nin 0\nsub 3 2\nother 4\nout 4 2 4 0\n")
	same(t, "AdjointsOf", fine(t)(impl.AdjointsOf(tape, []int64{3, 7, 11}, []int64{1, 20, 300, 4000})), []int64{4000 - 281*11, impl.Residue(-281 * 3), impl.Residue(-281), 301, 301})
	same(t, "TapeReverse", fine(t)(impl.TapeReverse(tape, []int64{3, 7, 11}, []int64{1, 20, 300, 4000})), []int64{4301 - 281*11, 0, impl.Residue(-281 * 3)})
	same(t, "no weights", fine(t)(impl.TapeReverse(tape, []int64{3, 7, 11}, []int64{0, 0, 0, 0})), []int64{0, 0, 0})
	same(t, "TapeHessian", fine(t)(impl.TapeHessian(tape, []int64{3, 7, 11}, []int64{1, 20, 300, 4000}, []int64{5, 9, 2})), []int64{impl.Residue(-281 * 2), 0, impl.Residue(-281 * 5)})
	square := taped(t, "tape 1\nin 0\nmul 0 0\nmul 1 0\ndiv 0 2\nout 2 3\n") // x^3 and x^-2
	sixth := func(x int64) int64 { y, _ := impl.Inverse(impl.Power(x, 4)); return impl.Times(6, y) }
	for _, x := range []int64{1, 2, 500000, impl.P - 1} {
		same(t, "the second derivative", fine(t)(impl.TapeHessian(square, []int64{x}, []int64{1, 1}, []int64{1})), []int64{impl.Plus(impl.Times(6, x), sixth(x))})
	}
}

// TestP8AdjointsOfManyTapes compares with polynomials: the adjoint of a register is
// the derivative for what is added to it.
func TestP8AdjointsOfManyTapes(t *testing.T) {
	fineTapes(t, 250, func(v *invention, tape impl.Tape, args []int64) {
		weights := v.numbers(int64(len(tape.Outs)))
		adjoints := fine(t)(impl.AdjointsOf(tape, args, weights))
		if len(adjoints) != len(tape.Code) {
			t.Fatalf("%d adjoints of %d registers", len(adjoints), len(tape.Code))
		}
		sums := make([]int64, tape.Inputs)
		for k, instr := range tape.Code {
			if k < 60 {
				registers, _ := jetsOfTape(tape, jetsAlong(args, args, -1), 1, int64(k))
				sameNumber(t, fmt.Sprint("the adjoint of the register ", k), adjoints[k], weighted(tape, registers, weights).derivative(2))
			}
			if instr.Op == impl.OpIn {
				sums[instr.Num] = impl.Plus(sums[instr.Num], adjoints[k])
			}
		}
		same(t, "TapeReverse", fine(t)(impl.TapeReverse(tape, args, weights)), sums)
	})
}

// TestP8SecondDerivativesOfManyTapes compares with polynomials of degree 2.
func TestP8SecondDerivativesOfManyTapes(t *testing.T) {
	fineTapes(t, 150, func(v *invention, tape impl.Tape, args []int64) {
		weights, dir := v.numbers(int64(len(tape.Outs))), v.numbers(tape.Inputs)
		var first, second []int64
		for k := range args {
			registers, _ := jetsOfTape(tape, jetsAlong(args, dir, k), 2, -1)
			sum := weighted(tape, registers, weights)
			first, second = append(first, sum.derivative(1)), append(second, sum.derivative(0, 1))
		}
		same(t, "TapeReverse", fine(t)(impl.TapeReverse(tape, args, weights)), first)
		same(t, "TapeHessian", fine(t)(impl.TapeHessian(tape, args, weights, dir)), second)
	})
}

// TestP8ReverseIsAdjointToForward has the two sums of a bilinear form, and sums
// and multiples of weights and directions.
func TestP8ReverseIsAdjointToForward(t *testing.T) {
	fineTapes(t, 300, func(v *invention, tape impl.Tape, args []int64) {
		outs := int64(len(tape.Outs))
		weights, more, dir, other, factor := v.numbers(outs), v.numbers(outs), v.numbers(tape.Inputs), v.numbers(tape.Inputs), v.numbers(1)[0]
		reverse := func(weights []int64) []int64 { return fine(t)(impl.TapeReverse(tape, args, weights)) }
		hessian := func(weights, dir []int64) []int64 {
			return fine(t)(impl.TapeHessian(tape, args, weights, dir))
		}
		_, slopes, _ := impl.TapeForward(tape, args, dir)
		sameNumber(t, "the weighted sum of the slopes", dot(weights, slopes), dot(reverse(weights), dir))
		sameNumber(t, "the second derivative along two directions", dot(hessian(weights, dir), other), dot(hessian(weights, other), dir))
		same(t, "a sum of weights", reverse(moved(weights, more, factor)), moved(reverse(weights), reverse(more), factor))
		same(t, "a sum of weights for second derivatives", hessian(moved(weights, more, factor), dir), moved(hessian(weights, dir), hessian(more, dir), factor))
		same(t, "a sum of directions", hessian(weights, moved(dir, other, factor)), moved(hessian(weights, dir), hessian(weights, other), factor))
		same(t, "no direction", hessian(weights, make([]int64, tape.Inputs)), make([]int64, tape.Inputs))
		if tape.Inputs > 0 {
			rows := fineRows(t)(impl.TapeSeries(tape, linesAlong(args, dir)))
			sameNumber(t, "the second derivative along one direction", dot(hessian(weights, dir), dir), impl.Times(2, dot(weights, column(rows, 2))))
		}
	})
}

// linesAlong are the series of order 2 of lines.
func linesAlong(args, dir []int64) [][]int64 {
	var lines [][]int64
	for k, arg := range args {
		lines = append(lines, []int64{arg, dir[k], 0})
	}
	return lines
}

// TestP8GradientsAreThoseOfChapter3 compares with directional derivatives of the
// function that is recorded.
func TestP8GradientsAreThoseOfChapter3(t *testing.T) {
	for seed := range int64(250) {
		v, p, args := differentiable(seed + 77000)
		f := int64(len(p.Funcs) - 1)
		tape := recorded(t, p, f, args)
		outs, dir := len(tape.Outs), v.numbers(int64(len(args)))
		for pick := range outs {
			weights := unit(outs-1, pick)
			same(t, "the gradient", fine(t)(impl.TapeReverse(tape, args, weights)), fine(t)(impl.GradientOf(p, f, int64(pick), args)))
			same(t, "the Hessian", fine(t)(impl.TapeHessian(tape, args, weights, dir)), fine(t)(impl.HessianTimes(p, f, int64(pick), args, dir)))
		}
	}
}

// TestP8InputsByHand has inputs that are read by several instructions, by one and
// by none.
func TestP8InputsByHand(t *testing.T) {
	tape := taped(t, "tape 12\nin 11\nin 3\nnum 5\nin 3\nsub 1 1\nmul 3 2\ndiv 2 2\nneg 0\nadd 7 4\nmul 5 8\nin 0\nneg 6\nadd 9 10\nzero 8\nout 2\n")
	for k, want := range [][]int64{{11}, {3}, {}, {3}, {3}, {3}, {}, {11}, {3, 11}, {3, 11}, {0}, {}, {0, 3, 11}} {
		same(t, fmt.Sprint("the register ", k), fine(t)(impl.InputsOf(tape, int64(k))), want)
	}
	var all []int64
	text := "tape 12\nnum 0\n"
	for k := range int64(impl.MaxParams) {
		text += fmt.Sprintf("in %d\nadd %d %d\n", impl.MaxParams-1-k, 2*k, 2*k+1)
		all = append(all, k)
	}
	full := taped(t, text+"out 0\n")
	for k := range int64(impl.MaxParams) {
		same(t, "a sum", fine(t)(impl.InputsOf(full, 2*k)), all[impl.MaxParams-k:])
		same(t, "an input", fine(t)(impl.InputsOf(full, 2*k+1)), all[impl.MaxParams-1-k:impl.MaxParams-k])
	}
}

// dependence is, for each register, whether it depends on an input.
func dependence(tape impl.Tape, input int64) []bool {
	var list []bool
	for _, instr := range tape.Code {
		depends := instr.Op == impl.OpIn && instr.Num == input
		list = append(list, depends || slices.Contains(picked(list, operandsOf(instr)), true))
	}
	return list
}

// TestP8InputsOfManyTapes also changes the inputs on which a register does not
// depend: its value and its derivatives stay the same.
func TestP8InputsOfManyTapes(t *testing.T) {
	changed := 0
	fineTapes(t, 200, func(v *invention, tape impl.Tape, args []int64) {
		var lists [][]bool
		for input := range tape.Inputs {
			lists = append(lists, dependence(tape, input))
		}
		values := fine(t)(impl.RegistersOf(tape, args))
		for k := range int64(len(tape.Code)) {
			var want []int64
			other := slices.Clone(args)
			for input := range tape.Inputs {
				if lists[input][k] {
					want = append(want, input)
				} else {
					other[input] = v.numbers(1)[0]
				}
			}
			same(t, "InputsOf", fine(t)(impl.InputsOf(tape, k)), want)
			single := copyOfTape(tape)
			single.Outs = []int64{k}
			gradient, code := impl.TapeReverse(single, other, []int64{1})
			if code != impl.OK {
				continue
			}
			changed++
			same(t, "the value of a register", fine(t)(impl.RunTape(single, other)), values[k:k+1])
			same(t, "the gradient of a register", gradient, fine(t)(impl.TapeReverse(single, args, []int64{1})))
			for input := range tape.Inputs {
				if !slices.Contains(want, input) {
					sameNumber(t, "the derivative for an input that is not needed", gradient[input], 0)
				}
			}
		}
	})
	if changed < 2000 {
		t.Errorf("%d registers", changed)
	}
}

func TestP8CountOpsOfManyTapes(t *testing.T) {
	fineTapes(t, 100, func(v *invention, tape impl.Tape, args []int64) {
		counts := make([]int64, 7)
		for _, instr := range tape.Code {
			counts[slices.Index(ops(), instr.Op)]++
		}
		same(t, "CountOps", fine(t)(impl.CountOps(tape)), counts)
	})
	same(t, "one of each", fine(t)(impl.CountOps(taped(t, "tape 1\nin 0\nnum 1\nadd 0 1\nsub 0 1\nmul 0 1\ndiv 0 1\nneg 0\nout 0\n"))), []int64{1, 1, 1, 1, 1, 1, 1})
	same(t, "numbers", fine(t)(impl.CountOps(taped(t, "tape 1\n"+strings.Repeat("num 1\n", impl.MaxTape)+"out 0\n"))), []int64{0, 3200, 0, 0, 0, 0, 0})
}
