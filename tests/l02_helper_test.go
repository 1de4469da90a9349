package tests

import (
	"fmt"
	"math"
	"math/rand"
	"slices"
	"strings"
	"testing"

	"loop.example/g01091/impl"
)

// exampleText is the text of the example of chapter 2.
const exampleText = "sq 1: (x0 * x0)\nf 2: let(sq.0(x0); (x2 + x1)) | sq.0^2(x1)\n"

func num(n int64) impl.Expr { return impl.Expr{Kind: impl.KNum, Num: n} }

func variable(k int64) impl.Expr { return impl.Expr{Kind: impl.KVar, Num: k} }

func tree(kind int64, kids ...impl.Expr) impl.Expr { return impl.Expr{Kind: kind, Kids: kids} }

func let(value, body impl.Expr) impl.Expr { return tree(impl.KLet, value, body) }

func calling(f, pick int64, kids ...impl.Expr) impl.Expr {
	return impl.Expr{Kind: impl.KCall, Num: f, Pick: pick, Kids: kids}
}

func looping(f, pick, count int64, kids ...impl.Expr) impl.Expr {
	return impl.Expr{Kind: impl.KLoop, Num: f, Pick: pick, Count: count, Kids: kids}
}

func function(name string, params int64, outs ...impl.Expr) impl.Func {
	return impl.Func{Name: name, Params: params, Outs: outs}
}

func program(funcs ...impl.Func) impl.Program { return impl.Program{Funcs: funcs} }

// reading is the program with a text, which has to be one.
func reading(t *testing.T, text string) impl.Program {
	t.Helper()
	p, line, code := impl.ReadProgram(text)
	if code != impl.OK || line != 0 {
		t.Fatalf("%q: the line %d has the code %d", text, line, code)
	}
	return p
}

// kinds are all kinds of expressions.
func kinds() []int64 {
	return []int64{
		impl.KNum, impl.KVar, impl.KAdd, impl.KSub, impl.KMul, impl.KDiv,
		impl.KNeg, impl.KIf, impl.KLet, impl.KCall, impl.KLoop,
	}
}

// nested is a number below so many levels of KNeg that the depth is as given.
func nested(depth int) impl.Expr {
	e := num(1)
	for range depth - 1 {
		e = tree(impl.KNeg, e)
	}
	return e
}

// flat is an expression with so many nodes and as few levels as possible.
func flat(size int) impl.Expr {
	switch size {
	case 1:
		return num(1)
	case 2:
		return tree(impl.KNeg, num(2))
	}
	left := (size - 1) / 2
	return tree(impl.KAdd, flat(left), flat(size-1-left))
}

// doubled has twice the same list of kids below each of so many levels: there
// are more nodes than anything can go through one by one.
func doubled(kind int64, levels int) impl.Expr {
	e := num(1)
	for range levels {
		e = tree(kind, e, e)
	}
	return e
}

// copyOf is a copy of an expression that shares no memory with it.
func copyOf(e impl.Expr) impl.Expr {
	e.Kids = copiesOf(e.Kids)
	return e
}

func copiesOf(list []impl.Expr) []impl.Expr {
	var copies []impl.Expr
	for _, e := range list {
		copies = append(copies, copyOf(e))
	}
	return copies
}

func copyOfProgram(p impl.Program) impl.Program {
	q := program(slices.Clone(p.Funcs)...)
	for k, f := range q.Funcs {
		q.Funcs[k].Outs = copiesOf(f.Outs)
	}
	return q
}

// textOf is the text of a valid expression, after the table of the document.
func textOf(p impl.Program, e impl.Expr) string {
	var kids []string
	for _, kid := range e.Kids {
		kids = append(kids, textOf(p, kid))
	}
	return nodeText(p, e, kids)
}

// nodeText is the text of a node above the texts of its kids.
func nodeText(p impl.Program, e impl.Expr, kids []string) string {
	all := strings.Join(kids, "; ")
	switch e.Kind {
	case impl.KNum:
		return fmt.Sprint(e.Num)
	case impl.KVar:
		return fmt.Sprintf("x%d", e.Num)
	case impl.KAdd, impl.KSub, impl.KMul, impl.KDiv:
		sign := map[int64]string{impl.KAdd: "+", impl.KSub: "-", impl.KMul: "*", impl.KDiv: "/"}[e.Kind]
		return fmt.Sprintf("(%s %s %s)", kids[0], sign, kids[1])
	case impl.KNeg:
		return fmt.Sprintf("neg(%s)", all)
	case impl.KIf:
		return fmt.Sprintf("if(%s)", all)
	case impl.KLet:
		return fmt.Sprintf("let(%s)", all)
	case impl.KCall:
		return fmt.Sprintf("%s.%d(%s)", p.Funcs[e.Num].Name, e.Pick, all)
	}
	return fmt.Sprintf("%s.%d^%d(%s)", p.Funcs[e.Num].Name, e.Pick, e.Count, all)
}

func textOfProgram(p impl.Program) string {
	text := ""
	for _, f := range p.Funcs {
		var outs []string
		for _, out := range f.Outs {
			outs = append(outs, textOf(p, out))
		}
		text += fmt.Sprintf("%s %d: %s\n", f.Name, f.Params, strings.Join(outs, " | "))
	}
	return text
}

// invention makes valid expressions and programs without any pattern, always the
// same ones for the same seed.
type invention struct {
	*rand.Rand
	p     impl.Program
	nodes int
}

func inventions(seed int64) *invention {
	return &invention{Rand: rand.New(rand.NewSource(seed))}
}

// names are names of functions, also those that look like something else.
func names() []string {
	return []string{"x", "x0", "x12", "if", "neg", "let", "a", "z9", "d1", "xx", "abcdefghijkl", "x00000000000", "k", "f", "g", "h2"}
}

// program makes a valid program with so many functions.
func (v *invention) program(funcs int) impl.Program {
	v.p = impl.Program{}
	order := v.Perm(len(names()))
	for k := range funcs {
		params := int64(v.Intn(4))
		outs := 1 + v.Intn(3)
		if v.Intn(2) == 0 && params > 0 {
			outs = int(params)
		}
		f := function(names()[order[k]], params)
		v.nodes = 60
		for range outs {
			f.Outs = append(f.Outs, v.expr(params, 5))
		}
		v.p.Funcs = append(v.p.Funcs, f)
	}
	return v.p
}

// expr makes a valid expression of at most so many levels.
func (v *invention) expr(vars int64, depth int) impl.Expr {
	v.nodes--
	kind := kinds()[v.Intn(len(kinds()))]
	if depth == 1 || v.nodes < 0 {
		kind = kinds()[v.Intn(2)]
	}
	switch kind {
	case impl.KVar:
		if vars > 0 {
			return variable(v.Int63n(vars))
		}
	case impl.KAdd, impl.KSub, impl.KMul, impl.KDiv:
		return tree(kind, v.expr(vars, depth-1), v.expr(vars, depth-1))
	case impl.KNeg:
		return tree(kind, v.expr(vars, depth-1))
	case impl.KIf:
		return tree(kind, v.expr(vars, depth-1), v.expr(vars, depth-1), v.expr(vars, depth-1))
	case impl.KLet:
		return let(v.expr(vars, depth-1), v.expr(vars+1, depth-1))
	case impl.KCall, impl.KLoop:
		if len(v.p.Funcs) > 0 {
			return v.calling(kind, vars, depth)
		}
	}
	if v.Intn(3) == 0 {
		return num(v.Int63n(impl.P))
	}
	return num(v.Int63n(3))
}

func (v *invention) calling(kind, vars int64, depth int) impl.Expr {
	function := v.Int63n(int64(len(v.p.Funcs)))
	f := v.p.Funcs[function]
	e := calling(function, v.Int63n(int64(len(f.Outs))))
	if kind == impl.KLoop && f.Params > 0 && int64(len(f.Outs)) == f.Params {
		e.Kind, e.Count = kind, v.Int63n(impl.MaxCount+1)
	}
	for range f.Params {
		e.Kids = append(e.Kids, v.expr(vars, depth-1))
	}
	return e
}

// numbers makes so many numbers, many of which are small.
func (v *invention) numbers(count int64) []int64 {
	list := make([]int64, count)
	for k := range list {
		list[k] = v.Int63n([]int64{3, impl.P}[v.Intn(2)])
	}
	return list
}

// outside are numbers that are not from 0 to count - 1.
func outside(count int64) []int64 {
	return []int64{-1, -2, count, count + 1, 1 << 32, math.MaxInt64, math.MinInt64}
}
