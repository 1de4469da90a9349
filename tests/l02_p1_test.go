package tests

import (
	"fmt"
	"math"
	"reflect"
	"slices"
	"strings"
	"testing"

	"loop.example/g01091/impl"
)

// situation has arguments for all functions of chapter 2.
type situation struct {
	p, q           impl.Program
	e, d           impl.Expr
	text           string
	vars, funcs, f int64
	args           []int64
}

type programFunction struct {
	name string
	call func(s situation) []any
}

func results(list ...any) []any { return list }

func programFunctions() []programFunction {
	return []programFunction{
		{"IsName", func(s situation) []any { return results(impl.IsName(s.text)) }},
		{"ValidExpr", func(s situation) []any { return results(impl.ValidExpr(s.p, s.e, s.vars, s.funcs)) }},
		{"ValidProgram", func(s situation) []any { return results(impl.ValidProgram(s.p)) }},
		{"SameExpr", func(s situation) []any { return results(impl.SameExpr(s.e, s.d)) }},
		{"SameProgram", func(s situation) []any { return results(impl.SameProgram(s.p, s.q)) }},
		{"ExprSize", func(s situation) []any { return results(impl.ExprSize(s.e)) }},
		{"ExprDepth", func(s situation) []any { return results(impl.ExprDepth(s.e)) }},
		{"VariablesOf", func(s situation) []any { list, code := impl.VariablesOf(s.e, s.vars); return results(list, code) }},
		{"ExprText", func(s situation) []any { return results(impl.ExprText(s.p, s.e, s.vars, s.funcs)) }},
		{"ReadExpr", func(s situation) []any {
			e, code := impl.ReadExpr(s.p, s.text, s.vars, s.funcs)
			return results(e, code)
		}},
		{"ProgramText", func(s situation) []any { return results(impl.ProgramText(s.p)) }},
		{"ReadProgram", func(s situation) []any {
			p, line, code := impl.ReadProgram(s.text)
			return results(line, p, code)
		}},
		{"FuncNamed", func(s situation) []any { f, code := impl.FuncNamed(s.p, s.text); return results(f, code) }},
		{"CallsOf", func(s situation) []any { list, code := impl.CallsOf(s.p, s.f); return results(list, code) }},
		{"Evaluate", func(s situation) []any {
			outs, steps, code := impl.Evaluate(s.p, s.f, s.args)
			return results(outs, steps, code)
		}},
	}
}

// situations have valid and invalid arguments of all kinds.
func situations() []situation {
	valid := inventions(7)
	p := valid.program(4)
	q := valid.program(3)
	example := program(
		function("sq", 1, tree(impl.KMul, variable(0), variable(0))),
		function("f", 2, let(calling(0, 0, variable(0)), tree(impl.KAdd, variable(2), variable(1))), looping(0, 0, 2, variable(1))),
	)
	invalid := program(function("f", 1, variable(1)), function("f", 99))
	strange := impl.Expr{Kind: impl.KLet, Num: 3, Kids: []impl.Expr{{Kind: -9, Num: -1, Count: 5}, nested(70), flat(5)}}
	e := let(variable(0), tree(impl.KAdd, calling(0, 0, variable(1)), looping(0, 0, 3, variable(2))))
	var list []situation
	for _, program := range []impl.Program{example, p, q, invalid, {}} {
		for _, expr := range []impl.Expr{e, strange, tree(impl.KAdd, variable(1), num(3)), flat(401), {}} {
			for _, text := range []string{"(x0 + sq.0^2(let(1; x2)))", "sq", exampleText, exampleText + "f 0: 1\n", "", "sq.0(x0"} {
				s := situation{p: program, q: example, e: expr, d: e, text: text, vars: 2, funcs: min(1, int64(len(program.Funcs))), f: 1, args: []int64{3, 2}}
				list = append(list, s)
				s.vars, s.funcs, s.f, s.args = -1, 99, -1, []int64{impl.P}
				list = append(list, s)
				s.vars, s.funcs, s.f, s.args = 412, int64(len(program.Funcs)), 0, []int64{3}
				list = append(list, s)
			}
		}
	}
	return list
}

// roomyExprs is a copy of a list in which all lists have unused capacity with
// known contents.
func roomyExprs(list []impl.Expr) []impl.Expr {
	var copies []impl.Expr
	for _, e := range list {
		e.Kids = roomyExprs(e.Kids)
		copies = append(copies, e)
	}
	return append(copies, num(spare), num(spare))[:len(list)]
}

func roomyProgram(p impl.Program) impl.Program {
	var copies []impl.Func
	for _, f := range p.Funcs {
		f.Outs = roomyExprs(f.Outs)
		copies = append(copies, f)
	}
	return impl.Program{Funcs: append(copies, function("spare", spare), function("spare", spare))[:len(p.Funcs)]}
}

func roomySituation(s situation) situation {
	s.p, s.q, s.args = roomyProgram(s.p), roomyProgram(s.q), roomy(s.args)
	s.e.Kids, s.d.Kids = roomyExprs(s.e.Kids), roomyExprs(s.d.Kids)
	return s
}

// memory collects the lists that are reached from a value, with their unused
// capacity.
func memory(v reflect.Value, lists *[]reflect.Value) {
	switch v.Kind() {
	case reflect.Interface, reflect.Pointer:
		memory(v.Elem(), lists)
	case reflect.Struct:
		for k := range v.NumField() {
			memory(v.Field(k), lists)
		}
	case reflect.Slice:
		if v.Cap() == 0 {
			return
		}
		whole := v.Slice(0, v.Cap())
		*lists = append(*lists, whole)
		for k := range whole.Len() {
			memory(whole.Index(k), lists)
		}
	}
}

func memoryOf(values ...any) []reflect.Value {
	var lists []reflect.Value
	for _, value := range values {
		memory(reflect.ValueOf(value), &lists)
	}
	return lists
}

// contents is all that some values have in their memory, list by list.
func contents(values ...any) string {
	var text []byte
	for _, list := range memoryOf(values...) {
		for k := range list.Len() {
			switch element := list.Index(k).Interface().(type) {
			case impl.Expr:
				text = fmt.Append(text, element.Kind, element.Num, element.Pick, element.Count, len(element.Kids), " ")
			case impl.Func:
				text = fmt.Append(text, element.Name, element.Params, len(element.Outs), " ")
			default:
				text = fmt.Append(text, element, " ")
			}
		}
		text = append(text, '\n')
	}
	return string(text)
}

// overlap tells whether two lists among some have memory in common.
func overlap(lists []reflect.Value) bool {
	slices.SortFunc(lists, func(a, b reflect.Value) int { return int(a.Pointer()) - int(b.Pointer()) })
	for k := 1; k < len(lists); k++ {
		before := lists[k-1]
		if before.Pointer()+uintptr(before.Cap())*before.Type().Elem().Size() > lists[k].Pointer() {
			return true
		}
	}
	return false
}

// wipe changes all numbers of the memory of some values.
func wipe(values ...any) {
	for _, list := range memoryOf(values...) {
		for k := range list.Len() {
			list.Index(k).SetZero()
		}
	}
}

// checkPureCall makes a call with arguments that have some lists: the lists stay as
// they are, and the results are equal each time and are new memory.
func checkPureCall(t *testing.T, name string, lists []any, call func() []any) {
	t.Helper()
	before := contents(lists...)
	have, again := call(), call()
	told := fmt.Sprintf("%#v", have)
	if contents(lists...) != before {
		t.Fatalf("%s: an argument is modified", name)
	}
	if fmt.Sprintf("%#v", again) != told {
		t.Fatalf("%s: first %v and then %v", name, have, again)
	}
	if overlap(append(memoryOf(lists...), append(memoryOf(have...), memoryOf(again...)...)...)) {
		t.Fatalf("%s: a result shares memory", name)
	}
	wipe(again...)
	if contents(lists...) != before || fmt.Sprintf("%#v", have) != told {
		t.Fatalf("%s: the result is memory of something else", name)
	}
	wipe(lists...)
	if fmt.Sprintf("%#v", have) != told {
		t.Fatalf("%s: the result is memory of an argument", name)
	}
}

func (s *situation) lists() []any { return []any{s.p, s.q, s.e, s.d, s.args} }

func TestP1ProgramsAreNotModifiedAndResultsAreNewMemory(t *testing.T) {
	for _, plain := range situations() {
		for _, f := range programFunctions() {
			s := roomySituation(plain)
			checkPureCall(t, fmt.Sprintf("%s of %v", f.name, plain), s.lists(), func() []any { return f.call(s) })
		}
	}
}

func TestP1EqualProgramsHaveEqualResults(t *testing.T) {
	for _, s := range situations() {
		for _, f := range programFunctions() {
			have := fmt.Sprint(f.call(s)...)
			for _, other := range []situation{roomySituation(s), emptySituation(s)} {
				if again := fmt.Sprint(f.call(other)...); again != have {
					t.Fatalf("%s of %v: %s, and of a copy %s", f.name, s, have, again)
				}
			}
		}
	}
}

// emptySituation is a copy with empty lists in place of all that are nil.
func emptySituation(s situation) situation {
	s.p, s.q = emptyProgram(s.p), emptyProgram(s.q)
	s.e.Kids, s.d.Kids = emptyExprs(s.e.Kids), emptyExprs(s.d.Kids)
	s.args = append([]int64{}, s.args...)
	return s
}

func emptyProgram(p impl.Program) impl.Program {
	copies := []impl.Func{}
	for _, f := range p.Funcs {
		f.Outs = emptyExprs(f.Outs)
		copies = append(copies, f)
	}
	return impl.Program{Funcs: copies}
}

func emptyExprs(list []impl.Expr) []impl.Expr {
	copies := []impl.Expr{}
	for _, e := range list {
		e.Kids = emptyExprs(e.Kids)
		copies = append(copies, e)
	}
	return copies
}

// TestP1ErrorsHaveNoOtherResults checks that nothing is beside an error, but the
// line of ReadProgram.
func TestP1ErrorsHaveNoOtherResults(t *testing.T) {
	for _, s := range situations() {
		for _, f := range programFunctions() {
			have := f.call(s)
			code, ok := have[len(have)-1].(int64)
			if !ok || len(have) == 1 || code == impl.OK {
				continue
			}
			if f.name == "ReadProgram" {
				have = have[1:]
			}
			for _, result := range have[:len(have)-1] {
				if v := reflect.ValueOf(result); !v.IsZero() && !(v.Kind() == reflect.Slice && v.Len() == 0) {
					t.Errorf("%s of %v returns %v", f.name, s, have)
				}
			}
		}
	}
}

// TestP1InvalidComesFirst checks that an invalid program is told ahead of all
// that is wrong with other arguments.
func TestP1InvalidComesFirst(t *testing.T) {
	long := strings.Repeat("?", impl.MaxText+1)
	invalid := situation{p: program(function("f", 0)), e: num(-1), text: long, vars: -1, funcs: -1, f: -1, args: []int64{-1}}
	for _, f := range programFunctions() {
		have := f.call(invalid)
		code, ok := have[len(have)-1].(int64)
		if !ok || len(have) == 1 || f.name == "ReadProgram" {
			continue
		}
		if code != impl.ErrInvalid {
			t.Errorf("%s has the code %d", f.name, code)
		}
	}
}

// hugeExprs are expressions of many levels or nodes.
func hugeExprs() []impl.Expr {
	list := []impl.Expr{nested(10000), tree(impl.KNeg, flatList(1<<20)...), {Kind: impl.KCall, Kids: flatList(1 << 20)}}
	for _, kind := range append(kinds(), 0, 99) {
		deep := variable(0)
		for range 9999 {
			deep = tree(kind, num(1), deep)
		}
		list = append(list, deep, doubled(kind, 60), doubled(kind, 100), doubled(kind, 9999))
	}
	return list
}

func TestP1HugeExpressionsAreAnswered(t *testing.T) {
	p := program(function("f", 1, variable(0)), function("g", 2, variable(0), variable(1)))
	for k, e := range hugeExprs() {
		q := program(function("f", 1, e))
		for _, f := range programFunctions() {
			have := f.call(situation{p: q, q: copyOfHuge(q), e: e, d: e, text: "x0", vars: 1, funcs: 1, f: 0, args: []int64{1}})
			code, ok := have[len(have)-1].(int64)
			if ok && len(have) > 1 && code != impl.ErrInvalid && f.name != "VariablesOf" && f.name != "ReadProgram" {
				t.Errorf("%s of the expression %d has the code %d", f.name, k, code)
			}
		}
		if impl.ValidExpr(p, e, 1, 2) || impl.ExprText(p, e, 1, 2) != "" || impl.ProgramText(q) != "" {
			t.Errorf("the expression %d is taken for valid", k)
		}
		if !impl.SameExpr(e, e) || impl.SameExpr(e, tree(impl.KNeg, e)) || impl.SameProgram(q, p) || !impl.SameProgram(q, copyOfHuge(q)) {
			t.Errorf("the expression %d is not what it is", k)
		}
	}
}

// copyOfHuge is a copy of a program whose lists of outputs are new.
func copyOfHuge(p impl.Program) impl.Program {
	q := program(slices.Clone(p.Funcs)...)
	for k, f := range q.Funcs {
		q.Funcs[k].Outs = slices.Clone(f.Outs)
	}
	return q
}

func TestP1SharedListsOfKids(t *testing.T) {
	for levels := range 62 {
		e, other := doubled(impl.KAdd, levels), doubled(impl.KAdd, levels)
		if impl.ExprSize(e) != 1<<(levels+1)-1 || impl.ExprDepth(e) != int64(levels)+1 {
			t.Errorf("%d levels: the size %d and the depth %d", levels, impl.ExprSize(e), impl.ExprDepth(e))
		}
		if !impl.SameExpr(e, other) || impl.SameExpr(e, doubled(impl.KAdd, levels+1)) || levels > 0 && impl.SameExpr(e, doubled(impl.KSub, levels)) {
			t.Errorf("%d levels: copies are not the same", levels)
		}
		if impl.ValidExpr(impl.Program{}, e, 0, 0) != (levels < 8) {
			t.Errorf("%d levels: validity", levels)
		}
	}
	for _, levels := range []int{63, 64, 65, 1000, 9999} {
		e := doubled(impl.KMul, levels)
		if impl.ExprSize(e) != math.MaxInt64 || impl.ExprDepth(e) != int64(levels)+1 {
			t.Errorf("%d levels: the size %d and the depth %d", levels, impl.ExprSize(e), impl.ExprDepth(e))
		}
	}
	var e impl.Expr = variable(1)
	for range 9999 {
		e = let(tree(impl.KAdd, e, variable(2)), e)
	}
	expectVariables(t, e, 4, 1, 2)
	refuseVariables(t, e, 2)
}

func TestP1LongTextsAreAnswered(t *testing.T) {
	p := reading(t, exampleText)
	for _, part := range []string{"(", "neg(", "if(", "let(", "sq.0(", "sq.0^8(", "x", "x0", "1", "0", ")", " ", "\n", "; ", "(x0 + ", "if(x0; x0; ", "let(1; ", "neg(x0; ", "f.0(x0; ", "a", "\xff", ".", "f 0: 1\n", "f 0: (", " | ", "1 | "} {
		for _, length := range []int{impl.MaxText - 50, impl.MaxText, impl.MaxText + 1, 1 << 20} {
			text := strings.Repeat(part, length/len(part)+1)[:length]
			for _, text := range []string{text, text[:length-1] + "\n"} {
				want := int64(impl.ErrSyntax)
				if length > impl.MaxText {
					want = impl.ErrRange
				}
				if _, code := impl.ReadExpr(p, text, 2, 2); code != want {
					t.Errorf("%d bytes of %q are read with the code %d", length, part, code)
				}
				if _, line, code := impl.ReadProgram(text); code != want || (line == 0) != (code == impl.ErrRange) {
					t.Errorf("%d bytes of %q are read with the code %d", length, part, code)
				}
				if impl.IsName(text) {
					t.Errorf("%d bytes of %q are a name", length, part)
				}
			}
		}
	}
}

func TestP1ProgramsOfManyFunctionsAreAnswered(t *testing.T) {
	many := impl.Program{Funcs: make([]impl.Func, 1<<20)}
	wide := program(function("f", 0, flatList(1<<20)...))
	for _, p := range []impl.Program{many, wide, program(function(strings.Repeat("f", 1<<20), 0, num(1)))} {
		for _, f := range programFunctions() {
			have := f.call(situation{p: p, q: p, e: num(1), text: "f", f: 0})
			code, ok := have[len(have)-1].(int64)
			if ok && len(have) > 1 && code != impl.ErrInvalid && f.name != "VariablesOf" && f.name != "ReadProgram" {
				t.Errorf("%s has the code %d", f.name, code)
			}
		}
		if !impl.SameProgram(p, p) || impl.ValidProgram(p) || impl.SameProgram(p, impl.Program{}) {
			t.Error("a large program is not what it is")
		}
	}
	if !impl.ValidExpr(many, num(1), 0, 1<<20) || impl.ValidExpr(many, num(1), 0, 1<<20+1) {
		t.Error("the number of functions around an expression")
	}
}
