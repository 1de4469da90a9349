package tests

import (
	"fmt"
	"slices"
	"testing"

	"loop.example/g01091/impl"
)

func (q *tapeQuestion) lists() []any {
	return []any{q.t, q.other, q.p, q.args, q.dir, q.weights, q.path}
}

// roomyTape is a copy in which all lists have unused capacity with known contents.
func roomyTape(tape impl.Tape) impl.Tape {
	code, guards := []impl.Instr{}, []impl.Guard{}
	code = append(append(code, tape.Code...), tapeNum(spare), tapeNum(spare))
	guards = append(append(guards, tape.Guards...), guard(spare, true), guard(spare, true))
	return tapeWith(tape.Inputs, code[:len(tape.Code)], guards[:len(tape.Guards)], roomy(tape.Outs)...)
}

func roomyTapeQuestion(q tapeQuestion) tapeQuestion {
	q.t, q.other, q.p = roomyTape(q.t), roomyTape(q.other), roomyProgram(q.p)
	q.args, q.dir, q.weights = roomy(q.args), roomy(q.dir), roomy(q.weights)
	q.path = roomyRows(q.path)
	return q
}

// emptyTapeQuestion is a copy with empty lists in place of all that are nil.
func emptyTapeQuestion(q tapeQuestion) tapeQuestion {
	q.t, q.other, q.p = emptyTape(q.t), emptyTape(q.other), emptyProgram(q.p)
	q.args, q.dir, q.weights = append([]int64{}, q.args...), append([]int64{}, q.dir...), append([]int64{}, q.weights...)
	q.path = emptyRows(q.path)
	return q
}

func emptyTape(tape impl.Tape) impl.Tape {
	return tapeWith(tape.Inputs, append([]impl.Instr{}, tape.Code...), append([]impl.Guard{}, tape.Guards...), append([]int64{}, tape.Outs...)...)
}

// tapeQuestions have valid and invalid arguments of all kinds. Many tapes return an
// argument or a number, and many become by no function shorter.
func tapeQuestions(t *testing.T) []tapeQuestion {
	p := reading(t, "id 2: x0 | x1\nf 2: id.0^2(x0; x1) | if(x0; x1; 7) | (x0 / (x1 + 1)) | x0\nnum 0: 5 | 5\n")
	var list []tapeQuestion
	add := func(tape impl.Tape, number int64) {
		q := tapeQuestionAt(tape, constant(int(tape.Inputs)-1, number)...)
		q.p, q.f, q.text = p, tape.Inputs%3, impl.TapeText(tape)
		list = append(list, q)
		q.args, q.dir, q.weights, q.path = constant(1, number), []int64{number, -1}, append(q.weights, 1), append(q.path, []int64{impl.P})
		q.other, q.reg, q.text, q.f = impl.Tape{Code: tape.Code}, int64(len(tape.Code)), q.text+"out 0\n", -1
		list = append(list, q)
		q.t = q.other
		list = append(list, q)
	}
	for _, number := range []int64{0, 1, impl.P - 1} {
		for _, text := range []string{
			exampleTape, "tape 0\nnum 5\nout 0\n", "tape 1\nin 0\nout 0\n", "tape 2\nin 0\nin 1\nout 1 0 1 1\n", "tape 2\nin 0\nin 0\nzero 0\nzero 1\nother 0\nout 0 0\n",
			"tape 1\nin 0\nnum 1\ndiv 1 0\nnum 2\nadd 1 3\nmul 4 0\nmul 0 4\nneg 5\nother 2\nother 2\nout 7 0 4\n", "tape 12\nin 11\nnum 0\nout 1 0\n",
		} {
			add(taped(t, text), number)
		}
	}
	for seed := range int64(20) {
		v := inventions(seed)
		add(v.tape(2, 1+v.Intn(20)), v.numbers(1)[0])
	}
	return list
}

func TestP1TapesAreNotModifiedAndResultsAreNewMemory(t *testing.T) {
	for _, plain := range tapeQuestions(t) {
		for _, f := range tapeFunctions() {
			q := roomyTapeQuestion(plain)
			checkPureCall(t, fmt.Sprintf("%s of %v", f.name, plain), q.lists(), func() []any { return f.call(q) })
		}
	}
}

func TestP1EqualTapesHaveEqualResults(t *testing.T) {
	for _, q := range tapeQuestions(t) {
		for _, f := range tapeFunctions() {
			have := fmt.Sprint(f.call(q)...)
			for _, other := range []tapeQuestion{roomyTapeQuestion(q), emptyTapeQuestion(q)} {
				if again := fmt.Sprint(f.call(other)...); again != have {
					t.Fatalf("%s of %v: %s, and of a copy %s", f.name, q, have, again)
				}
			}
		}
	}
}

// TestP1OneListAsAllPartsOfATape has one list as outs, arguments, direction,
// weights and all series of a path.
func TestP1OneListAsAllPartsOfATape(t *testing.T) {
	code := []impl.Instr{tapeIn(0), tapeIn(1), tapeIn(2), tapeOf(impl.OpMul, 0, 1)}
	for _, list := range [][]int64{{0, 1, 2}, {3, 1, 0}, {1, 1, 1}} {
		shared := roomy(list)
		tape := tapeWith(3, code, nil, shared...)
		q := tapeQuestion{t: tape, other: tape, args: shared, dir: shared, weights: shared, path: [][]int64{shared, shared, shared}}
		apart := tapeQuestionAt(copyOfTape(tape), slices.Clone(list)...)
		apart.weights, apart.path = slices.Clone(list), [][]int64{slices.Clone(list), slices.Clone(list), slices.Clone(list)}
		for _, f := range tapeFunctions() {
			have, want := fmt.Sprint(f.call(q)...), fmt.Sprint(f.call(apart)...)
			if have != want || !untouched(shared, list) {
				t.Errorf("%s of %v: %s, and of lists that are apart %s", f.name, list, have, want)
			}
		}
	}
}

func TestP1NothingIsBesideAnErrorOfATape(t *testing.T) {
	for _, q := range tapeQuestions(t) {
		for _, f := range tapeFunctions() {
			have := f.call(q)
			if len(have) == 1 || codeOf(have) == impl.OK {
				continue
			}
			if f.name == "ReadTape" && codeOf(have) == impl.ErrSyntax {
				have = have[1:]
			}
			if !nothingBeside(have) {
				t.Errorf("%s of %v returns %v", f.name, q, have)
			}
		}
	}
}

func TestP1HugeTapesAreAnswered(t *testing.T) {
	const many = 1 << 20
	code := slices.Repeat([]impl.Instr{tapeNum(1)}, many)
	for _, tape := range []impl.Tape{
		tapeWith(0, code, nil, 0), tapeWith(0, code[:1], make([]impl.Guard, many), 0), tapeWith(0, code[:1], nil, make([]int64, many)...), tapeWith(0, code, make([]impl.Guard, many), make([]int64, many)...), tapeWith(1<<62, code[:1], nil, 0),
	} {
		q := tapeQuestionAt(tape)
		q.args, q.dir, q.weights, q.path = make([]int64, many), make([]int64, many), make([]int64, many), make([][]int64, many)
		for _, f := range tapeFunctions() {
			have := f.call(q)
			switch f.name {
			case "ReadTape", "Record":
				continue
			case "SameTape":
				if have[0] != true {
					t.Error("a large tape is not what it is")
				}
			case "ValidTape", "TapeText":
				if have[0] != false && have[0] != "" {
					t.Errorf("%s of a huge tape is %s", f.name, brief(have))
				}
			default:
				expectTapeCode(t, f, q, impl.ErrInvalid)
			}
		}
	}
	for _, p := range []impl.Program{{Funcs: make([]impl.Func, many)}, program(function("f", 1, flatList(many)...))} {
		expectTapeCode(t, tapeFunctionNamed("Record"), tapeQuestion{p: p, args: []int64{1}}, impl.ErrInvalid)
	}
	for _, e := range hugeExprs() {
		expectTapeCode(t, tapeFunctionNamed("Record"), tapeQuestion{p: program(function("f", 1, e)), args: []int64{1}}, impl.ErrInvalid)
	}
}

// TestP1HugeArgumentsOfTapesAreAnswered has long lists in place of numbers.
func TestP1HugeArgumentsOfTapesAreAnswered(t *testing.T) {
	tape, long := taped(t, "tape 1\nin 0\nout 0\n"), make([]int64, 1<<20)
	for _, f := range runningFunctions() {
		for _, argument := range f.uses {
			q := tapeQuestionAt(tape, 1)
			switch argument {
			case "args":
				q.args = long
			case "dir":
				q.dir = long
			case "weights":
				q.weights = long
			case "path":
				q.path = make([][]int64, 1<<20)
				expectTapeCode(t, f, q, impl.ErrRange)
				q.path = [][]int64{long}
			default:
				continue
			}
			expectTapeCode(t, f, q, impl.ErrRange)
		}
	}
}

// TestP1LargestTapesAreAnswered runs tapes of most instructions.
func TestP1LargestTapesAreAnswered(t *testing.T) {
	for _, tape := range largestTapes() {
		q := tapeQuestionAt(tape, constant(int(tape.Inputs)-1, 7)...)
		q.path = slices.Repeat([][]int64{constant(impl.MaxOrder, impl.P-1)}, int(tape.Inputs))
		q.reg, q.text = int64(len(tape.Code))-1, impl.TapeText(tape)
		for _, f := range tapeFunctions() {
			have := f.call(q)
			if len(have) > 1 && f.name != "Record" && codeOf(have) != impl.OK && codeOf(have) != impl.ErrZero && (f.name != "ReadTape" || len(q.text) <= 50000) {
				t.Errorf("%s of a large tape: %s", f.name, brief(have))
			}
		}
	}
	divisions := impl.Tape{Inputs: 1, Code: []impl.Instr{tapeIn(0), tapeIn(0)}, Outs: []int64{impl.MaxTape - 1}}
	for k := int64(2); k < impl.MaxTape; k++ {
		divisions.Code = append(divisions.Code, tapeOf(impl.OpDiv, k-2, k-1))
	}
	q := tapeQuestionAt(divisions, 5)
	q.path = [][]int64{constant(impl.MaxOrder, 5)}
	expectTapeCodes(t, q, impl.OK)
}
