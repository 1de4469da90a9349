package tests

import (
	"slices"
	"testing"

	"loop.example/g01091/impl"
)

// tapeFaults are copies of a question that are wrong in just one argument.
func tapeFaults(q tapeQuestion, argument string) []tapeQuestion {
	var list []tapeQuestion
	add := func(change func(q *tapeQuestion)) {
		other := q
		change(&other)
		list = append(list, other)
	}
	switch argument {
	case "args":
		for _, faulty := range faultyNumbers(q.t.Inputs) {
			add(func(q *tapeQuestion) { q.args = faulty })
		}
	case "dir":
		for _, faulty := range faultyNumbers(q.t.Inputs) {
			add(func(q *tapeQuestion) { q.dir = faulty })
		}
	case "weights":
		for _, faulty := range faultyNumbers(int64(len(q.t.Outs))) {
			add(func(q *tapeQuestion) { q.weights = faulty })
		}
	case "path":
		for _, faulty := range faultyPaths(q.t.Inputs) {
			add(func(q *tapeQuestion) { q.path = faulty })
		}
	case "reg":
		for _, faulty := range outside(int64(len(q.t.Code))) {
			add(func(q *tapeQuestion) { q.reg = faulty })
		}
	}
	return list
}

// TestP7P8P9RangeErrors come ahead of divisions by 0.
func TestP7P8P9RangeErrors(t *testing.T) {
	for _, c := range []struct {
		text string
		code int64
	}{
		{"tape 1\nin 0\nout 0\n", impl.OK}, {"tape 1\nin 0\ndiv 0 0\nout 0\n", impl.ErrZero}, {"tape 0\nnum 0\ndiv 0 0\nout 1 0\n", impl.ErrZero}, {"tape 0\nnum 1\nzero 0\nout 0 0\n", impl.OK},
		{"tape 3\nin 2\nnum 7\nsub 1 0\nother 0\nout 2 2\n", impl.OK}, {"tape 3\nin 2\nneg 0\nneg 1\ndiv 1 2\nout 0 1 2 3\n", impl.ErrZero}, {"tape 12\nnum 1\nout 0 0 0 0 0 0 0 0 0 0 0 0\n", impl.OK},
	} {
		tape := taped(t, c.text)
		q := tapeQuestionAt(tape, make([]int64, tape.Inputs)...)
		expectTapeCodes(t, q, c.code)
		for _, f := range append(runningFunctions(), tapeFunctionNamed("InputsOf")) {
			for _, argument := range f.uses {
				for _, faulty := range tapeFaults(q, argument) {
					expectTapeCode(t, f, faulty, impl.ErrRange)
				}
			}
		}
		for k := range tape.Code {
			q.reg = int64(k)
			expectTapeCode(t, tapeFunctionNamed("InputsOf"), q, impl.OK)
		}
	}
}

// TestP7P8P9InvalidTapesComeFirst, ahead of all that is wrong with the arguments.
func TestP7P8P9InvalidTapesComeFirst(t *testing.T) {
	withTape := slices.DeleteFunc(tapeFunctions(), func(f tapeFunction) bool {
		return !slices.Contains(f.uses, "t") || slices.Contains([]string{"ValidTape", "SameTape", "TapeText"}, f.name)
	})
	sameNumber(t, "the number of functions", int64(len(withTape)), 14)
	for _, tape := range invalidTapes() {
		q := tapeQuestionAt(tape, make([]int64, max(0, min(tape.Inputs, 13)))...)
		q.weights = make([]int64, len(tape.Outs))
		for _, f := range withTape {
			expectTapeCode(t, f, q, impl.ErrInvalid)
			expectTapeCode(t, f, tapeQuestion{t: tape, reg: -1, args: []int64{-1}, dir: []int64{-1}, weights: []int64{-1}, path: [][]int64{nil}}, impl.ErrInvalid)
		}
	}
	zero := taped(t, "tape 1\nin 0\nout 0\n")
	zero.Code = append(zero.Code, tapeOf(impl.OpDiv, 0, 0), tapeOf(impl.OpDiv, 2, 0))
	for _, f := range withTape {
		expectTapeCode(t, f, tapeQuestionAt(zero, 0), impl.ErrInvalid)
	}
}

// TestP7P8P9LimitsMayBeReached has most inputs, outs, instructions and guards, and
// one more of each.
func TestP7P8P9LimitsMayBeReached(t *testing.T) {
	single := []impl.Instr{tapeNum(1)}
	more := append(slices.Repeat(single, impl.MaxTape), single...)
	for _, tape := range append(largestTapes(), tapeWith(0, more[1:], nil, impl.MaxTape-1)) {
		if !impl.ValidTape(tape) {
			t.Errorf("%s is not valid", brief(tape))
		}
	}
	for _, tape := range []impl.Tape{
		tapeWith(impl.MaxParams+1, single, nil, 0), tapeWith(-1, single, nil, 0), tapeWith(0, more, nil, 0), tapeWith(0, single, make([]impl.Guard, impl.MaxTape+1), 0),
		tapeWith(0, single, nil), tapeWith(0, single, nil, make([]int64, impl.MaxParams+1)...), tapeWith(0, nil, nil, 0), tapeWith(0, nil, nil),
	} {
		if impl.ValidTape(tape) {
			t.Errorf("%s is valid", brief(tape))
		}
		expectTapeCodes(t, tapeQuestionAt(tape), impl.ErrInvalid)
	}
}

// TestP7P8P9GreatestNumbers run a tape with the numbers P - 1 everywhere.
func TestP7P8P9GreatestNumbers(t *testing.T) {
	tape := taped(t, "tape 2\nin 1\nnum 1000002\nmul 0 1\nadd 2 2\nsub 3 1\ndiv 4 0\nneg 5\nout 6 0\n")
	args := constant(1, impl.P-1)
	same(t, "RegistersOf", fine(t)(impl.RegistersOf(tape, args)), []int64{impl.P - 1, impl.P - 1, 1, 2, 3, impl.P - 3, 3})
	q := tapeQuestionAt(tape, args...)
	q.weights = args
	expectTapeCodes(t, q, impl.OK)
	// The first output is neg((2 * neg(x) + 1) / x), which is 2 - 1 / x.
	same(t, "TapeReverse", fine(t)(impl.TapeReverse(tape, args, args)), []int64{0, impl.P - 2})
	same(t, "TapeHessian", fine(t)(impl.TapeHessian(tape, args, args, args)), []int64{0, 2})
}
