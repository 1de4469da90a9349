package tests

import (
	"fmt"
	"reflect"
	"slices"
	"testing"

	"loop.example/g01091/impl"
)

func (q *question) lists() []any { return []any{q.p, q.args, q.dir, q.params, q.path} }

// roomyQuestion is a copy in which all lists have unused capacity with known
// contents.
func roomyQuestion(q question) question {
	q.p, q.args, q.dir, q.params = roomyProgram(q.p), roomy(q.args), roomy(q.dir), roomy(q.params)
	q.path = roomyRows(q.path)
	return q
}

// roomyRows is a copy in which all lists have unused capacity with known contents.
func roomyRows(rows [][]int64) [][]int64 {
	var copies [][]int64
	for _, row := range rows {
		copies = append(copies, roomy(row))
	}
	return append(copies, roomy([]int64{spare}), roomy([]int64{spare}))[:len(rows)]
}

// emptyQuestion is a copy with empty lists in place of all that are nil.
func emptyQuestion(q question) question {
	q.p, q.args, q.dir, q.params = emptyProgram(q.p), append([]int64{}, q.args...), append([]int64{}, q.dir...), append([]int64{}, q.params...)
	q.path = emptyRows(q.path)
	return q
}

// emptyRows is a copy with empty lists in place of all that are nil.
func emptyRows(rows [][]int64) [][]int64 {
	copies := [][]int64{}
	for _, row := range rows {
		copies = append(copies, append([]int64{}, row...))
	}
	return copies
}

// questions have valid and invalid arguments of all kinds. Many functions return
// an argument, a number or one value several times.
func questions(t *testing.T) []question {
	text := "id 3: x0 | x0 | x2\nnum 0: 5 | 5\nlet 2: let(x0; x2) | let((x0 + x1); let(x2; x3)) | if(0; x1; x0)\ncall 2: id.0(x1; x0; x0) | id.1(x1; x1; x1) | id.2^3(x0; x1; x0)\nsame 1: id.0^0(x0; x0; x0)\n"
	text += "mix 2: ((x0 * x1) / (x0 + 7)) | neg(x0) | (x1 - x0)\nzero 2: x0 | (1 / x1)\n"
	p := reading(t, text)
	var list []question
	for f, function := range p.Funcs {
		for _, number := range []int64{0, 1, 4, impl.P - 1} {
			q := questionAt(p, int64(f), constant(int(function.Params)-1, number))
			for _, order := range []int64{0, 1, impl.MaxOrder} {
				q.order, q.count = order, order
				list = append(list, q)
			}
			q.pick, q.param, q.params = int64(len(function.Outs))-1, function.Params-1, constant(3, max(0, function.Params-1))
			list = append(list, q)
			q.pick, q.param, q.params, q.order, q.count = -1, 12, constant(4, 0), -1, 13
			list = append(list, q, question{p: p, f: int64(f)})
			q.f = 99
			list = append(list, q)
			q.p = program(function, function)
			list = append(list, q)
		}
	}
	for seed := range int64(40) {
		v, p, args := differentiable(seed)
		q := questionAt(p, int64(len(p.Funcs)-1), args)
		q.dir, q.path = v.numbers(int64(len(args))), v.series(int64(len(args)), seed%(impl.MaxOrder+1))
		list = append(list, q)
	}
	return list
}

func TestP1DerivativesModifyNothingAndAreNewMemory(t *testing.T) {
	for _, plain := range questions(t) {
		for _, f := range forwardFunctions() {
			q := roomyQuestion(plain)
			checkPureCall(t, fmt.Sprintf("%s of %v", f.name, plain), q.lists(), func() []any { return f.call(q) })
		}
	}
}

func TestP1EqualQuestionsHaveEqualAnswers(t *testing.T) {
	for _, q := range questions(t) {
		for _, f := range forwardFunctions() {
			have := fmt.Sprint(f.call(q)...)
			for _, other := range []question{roomyQuestion(q), emptyQuestion(q)} {
				if again := fmt.Sprint(f.call(other)...); again != have {
					t.Fatalf("%s of %v: %s, and of a copy %s", f.name, q, have, again)
				}
			}
		}
	}
}

// TestP1OneListAsSeveralArguments has one list as arguments, direction, and all
// series of a path.
func TestP1OneListAsSeveralArguments(t *testing.T) {
	p := reading(t, "f 3: (x0 * (x1 * x2)) | x0 | if(x1; x1; (1 / x2))\n")
	for _, list := range [][]int64{{0, 1, 2}, {2, 1, 0}, {1, 1, 1}} {
		shared := roomy(list)
		q := question{p: p, order: 3, count: 3, args: shared, dir: shared, params: shared, path: [][]int64{shared, shared, shared}}
		apart := question{p: p, order: 3, count: 3, args: slices.Clone(list), dir: slices.Clone(list), params: slices.Clone(list), path: [][]int64{slices.Clone(list), slices.Clone(list), slices.Clone(list)}}
		for _, f := range forwardFunctions() {
			have, want := fmt.Sprint(f.call(q)...), fmt.Sprint(f.call(apart)...)
			if have != want || !untouched(shared, list) {
				t.Errorf("%s of %v: %s, and of lists that are apart %s", f.name, list, have, want)
			}
		}
	}
}

func TestP1NothingIsBesideAnError(t *testing.T) {
	for _, q := range questions(t) {
		for _, f := range forwardFunctions() {
			have := f.call(q)
			if codeOf(have) == impl.OK {
				continue
			}
			for _, result := range have[:len(have)-1] {
				if v := reflect.ValueOf(result); !v.IsZero() && !(v.Kind() == reflect.Slice && v.Len() == 0) {
					t.Errorf("%s of %v returns %v", f.name, q, have)
				}
			}
		}
	}
}

func TestP1HugeArgumentsOfDerivativesAreAnswered(t *testing.T) {
	p, long := reading(t, "f 1: (1 / x0)\n"), make([]int64, 1<<20)
	faulty := questionAt(p, 0, []int64{1})
	for _, f := range forwardFunctions() {
		for _, argument := range f.uses {
			q := faulty
			switch argument {
			case "args":
				q.args = long
			case "dir":
				q.dir = long
			case "params":
				q.params = long
			case "path":
				q.path = make([][]int64, 1<<20)
				expectCode(t, f, q, impl.ErrRange)
				q.path = [][]int64{long}
			default:
				continue
			}
			expectCode(t, f, q, impl.ErrRange)
		}
	}
	for _, e := range hugeExprs() {
		expectHuge(t, program(function("f", 1, e)))
	}
	for _, p := range []impl.Program{{Funcs: make([]impl.Func, 1<<20)}, program(function("f", 1, flatList(1<<20)...))} {
		expectHuge(t, p)
	}
}

func expectHuge(t *testing.T, p impl.Program) {
	t.Helper()
	for _, f := range forwardFunctions() {
		if code := codeOf(f.call(questionAt(p, 0, []int64{1}))); code != impl.ErrInvalid {
			t.Errorf("%s of a huge program has the code %d", f.name, code)
		}
	}
}

// TestP1LargestProgramsAreAnswered differentiates functions of most params and
// steps, and loops of loops that do not come to an end.
func TestP1LargestProgramsAreAnswered(t *testing.T) {
	text := "a 12: (1 / x0)"
	for range impl.MaxParams - 1 {
		text += " | (x0 * (x1 / x2))"
	}
	vars := "x0; x1; x2; x3; x4; x5; x6; x7; x8; x9; x10; x11"
	text += "\nb 12: a.0^8(" + vars + ") | a.1^8(" + vars + ") | a.11^8(" + vars + ")\n"
	for k := range 10 {
		text += string([]byte{'c' + byte(k)}) + " 1: " + string([]byte{'b' + byte(k)})
		if k == 0 {
			text += ".0(x0; x0; x0; x0; x0; x0; x0; x0; x0; x0; x0; x0)\n"
		} else {
			text += ".0^8(x0)\n"
		}
	}
	p := reading(t, text)
	q := questionAt(p, 1, constant(impl.MaxParams-1, impl.P-1))
	q.order, q.count, q.params = impl.MaxOrder, impl.MaxOrder, []int64{0, 5, 11, 0}
	q.path = slices.Repeat([][]int64{constant(impl.MaxOrder, impl.P-1)}, impl.MaxParams)
	for _, f := range forwardFunctions() {
		if code := codeOf(f.call(q)); code != impl.OK && !(f.name == "SlopeAlong" && code == impl.ErrZero) {
			t.Errorf("%s of a large program has the code %d", f.name, code)
		}
	}
	for f := int64(4); f < 12; f++ {
		expectCodes(t, questionAt(p, f, []int64{1}), impl.ErrBudget)
	}
}
