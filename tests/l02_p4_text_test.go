package tests

import (
	"math"
	"strings"
	"testing"

	"loop.example/g01091/impl"
)

// oddNames is a program whose names look like something else.
func oddNames() impl.Program {
	return program(
		function("x0", 0, num(1), num(2)),
		function("neg", 1, variable(0)),
		function("let", 2, variable(0), variable(1)),
		function("if", 1, variable(0)),
		function("abcdefghijkl", 2, variable(1), variable(0)),
	)
}

// textsOfExpressions are expressions with two variables and the functions of
// oddNames.
func textsOfExpressions() map[string]impl.Expr {
	x, y := variable(0), variable(1)
	return map[string]impl.Expr{
		"0": num(0), "7": num(7), "10": num(10), "1000002": num(impl.P - 1),
		"x0": x, "x1": y, "(x0 + 1)": tree(impl.KAdd, x, num(1)), "(1 - x1)": tree(impl.KSub, num(1), y),
		"(x0 * x0)": tree(impl.KMul, x, x), "(x0 / 0)": tree(impl.KDiv, x, num(0)), "neg(x0)": tree(impl.KNeg, x),
		"neg(neg(3))": tree(impl.KNeg, tree(impl.KNeg, num(3))), "if(x0; 1; x1)": tree(impl.KIf, x, num(1), y),
		"let(x1; x2)": let(y, variable(2)), "let(let(x0; x2); (x2 - x0))": let(let(x, variable(2)), tree(impl.KSub, variable(2), x)),
		"x0.0()": calling(0, 0), "x0.1()": calling(0, 1), "neg.0(x0)": calling(1, 0, x), "neg.0^8(x0)": looping(1, 0, 8, x),
		"let.1(x0; 4)": calling(2, 1, x, num(4)), "let.1^0(x0; 4)": looping(2, 1, 0, x, num(4)), "if.0(x0)": calling(3, 0, x),
		"abcdefghijkl.0^3(neg(1); if(0; 1; 2))": looping(4, 0, 3, tree(impl.KNeg, num(1)), tree(impl.KIf, num(0), num(1), num(2))),
		"((x0 + x1) / (2 - (3 * 4)))":           tree(impl.KDiv, tree(impl.KAdd, x, y), tree(impl.KSub, num(2), tree(impl.KMul, num(3), num(4)))),
		"neg.0(let(x0; neg.0(x2)))":             calling(1, 0, let(x, calling(1, 0, variable(2)))),
		"let(x0.1(); let((x2 * x2); (x3 - x2)))": let(calling(0, 1), let(tree(impl.KMul, variable(2), variable(2)),
			tree(impl.KSub, variable(3), variable(2)))),
	}
}

func TestP4TextsOfExpressions(t *testing.T) {
	p := oddNames()
	for text, e := range textsOfExpressions() {
		if have := impl.ExprText(p, e, 2, 5); have != text {
			t.Errorf("the text of %v is %q, want %q", e, have, text)
		}
		have, code := impl.ReadExpr(p, text, 2, 5)
		if code != impl.OK || !impl.SameExpr(have, e) {
			t.Errorf("%q is read as %v with the code %d", text, have, code)
		}
	}
}

// noSyntax fails the test unless a text is that of no expression.
func noSyntax(t *testing.T, p impl.Program, text string, vars, funcs int64) {
	t.Helper()
	e, code := impl.ReadExpr(p, text, vars, funcs)
	if code != impl.ErrSyntax || !impl.SameExpr(e, impl.Expr{}) {
		t.Errorf("%q is read as %v with the code %d", text, e, code)
	}
}

func TestP4TextsThatAreOfNoExpression(t *testing.T) {
	texts := []string{
		"", " ", "\n", "x", "y0", "x-1", "x+1", "x00", "x01", "x2", "x12", "x1000002", "x1000003", "x99999999999999999999", "X0", "x 0", "x0 ", " x0", "x0\n", "\nx0", "x0x1", "x0 x1", "x0a", "xx0",
		"00", "01", "007", "-1", "+1", "1000003", "1000004", "9223372036854775808", "18446744073709551617", "1 ", " 1", "1.0", "1e3", "0x1", "1a", "\u0661",
		"(x0)", "()", "(x0 + )", "( + x0)", "(x0 +x1)", "(x0+ x1)", "(x0+x1)", "(x0  + x1)", "(x0 +  x1)", "( x0 + x1)", "(x0 + x1 )", "(x0 + x1", "x0 + x1", "x0 + x1)", "(x0 + x1))", "((x0 + x1)", "(x0 % x1)", "(x0 ++ x1)", "(x0 + x1 + x1)", "(x0; x1)", "(x0 x1)", "(x0 + x1);",
		"neg", "neg()", "neg(x0; x1)", "neg(x0", "neg x0", "neg (x0)", "neg( x0)", "neg(x0 )", "neg(x0;)", "neg(x0; )", "neg(; x0)", "Neg(x0)", "-x0", "(-x0)", "nega(x0)", "neg.(x0)", "neg0(x0)",
		"if()", "if(x0)", "if(x0; x0)", "if(x0; x0; x0; x0)", "if(x0;x0; x0)", "if(x0, x0, x0)", "if(x0; x0 ; x0)", "if(x0;  x0; x0)", "if(x0; x0; x0", "if(x0; x0; x0;",
		"let()", "let(x0)", "let(x0; x0; x0)", "let(x0; x3)", "let(x2; x0)", "let(x0, x2)", "let(x0; x02)", "let(let(x0; x3); x2)", "(let(x0; x2) + x2)",
		"abs(x0)", "x0(x0)", "x0()", "abcdefghijkl(x0; x1)", "abcdefghijkl", "(neg.0)", "neg.0", "neg.0^1", "neg.0^", "neg.", ".0(x0)", "(.0(x0))",
		"x0.0(x0)", "x0.2()", "x0.00()", "x0.01()", "x0.-1()", "x0.()", "x0. 0()", "x0 .0()", "x0.0 ()", "x0.0( )", "x0.0^1()", "x0.0^0()", "x0.1000003()",
		"neg.0()", "neg.1(x0)", "neg.0(x0; x0)", "neg.0^9(x0)", "neg.0^08(x0)", "neg.0^00(x0)", "neg.0^-1(x0)", "neg.0^+1(x0)", "neg.0^^1(x0)", "neg.0^1^1(x0)", "neg.0^x(x0)", "neg^1.0(x0)", "neg.0 ^1(x0)", "neg.0^ 1(x0)", "neg.0^1 (x0)", "neg.0^(x0)", "neg.0^10(x0)",
		"let.2(x0; x1)", "let.0(x0)", "let.0(x0; x1; x1)", "let.0^1(x0)", "if.1(x0)", "if.0(x0; x1; x1)", "nof.0(x0)", "abcdefghijklm.0(x0; x1)", "abcdefghijk.0(x0; x1)", "Neg.0(x0)", "1.0(x0)", "..0(x0)", "neg..0(x0)", "neg.0.0(x0)",
		"\x00", "x0\x00", "\xff", "x\xff", "(x0 \u2212 x1)", "(x0\u00a0+ x1)", "(x0\t+ x1)", "neg(x0)\r",
	}
	for _, text := range texts {
		noSyntax(t, oddNames(), text, 2, 5)
	}
	noSyntax(t, oddNames(), "if.0(x0)", 2, 3)
	noSyntax(t, oddNames(), "neg.0(x0)", 2, 0)
	noSyntax(t, oddNames(), "x0", 0, 5)
}

func TestP4ReadExprErrors(t *testing.T) {
	valid, invalid := oddNames(), program(function("f", 0))
	long := strings.Repeat(" ", impl.MaxText+1)
	for _, c := range []struct {
		p           impl.Program
		text        string
		vars, funcs int64
		want        int64
	}{
		{invalid, long, -1, -1, impl.ErrInvalid}, {invalid, "0", 0, 0, impl.ErrInvalid}, {invalid, "?", 0, 0, impl.ErrInvalid},
		{valid, long, 0, 0, impl.ErrRange}, {valid, strings.Repeat("1", impl.MaxText+1), 0, 0, impl.ErrRange}, {valid, long[1:], 0, 0, impl.ErrSyntax},
		{valid, "?", -1, 0, impl.ErrRange}, {valid, "0", 413, 0, impl.ErrRange}, {valid, "0", math.MinInt64, 0, impl.ErrRange}, {valid, "0", math.MaxInt64, 0, impl.ErrRange},
		{valid, "0", 0, -1, impl.ErrRange}, {valid, "0", 0, 6, impl.ErrRange}, {valid, "0", 0, math.MaxInt64, impl.ErrRange}, {valid, "0", 0, math.MinInt64, impl.ErrRange},
		{valid, "?", 0, 0, impl.ErrSyntax}, {valid, "0", 412, 5, impl.OK}, {valid, "x411", 412, 5, impl.OK}, {valid, "let(x411; x412)", 412, 5, impl.OK}, {valid, "x412", 412, 5, impl.ErrSyntax},
		{impl.Program{}, "0", 0, 0, impl.OK}, {impl.Program{}, "0", 0, 1, impl.ErrRange}, {impl.Program{}, "f.0()", 0, 0, impl.ErrSyntax},
	} {
		if e, code := impl.ReadExpr(c.p, c.text, c.vars, c.funcs); code != c.want || code != impl.OK && !impl.SameExpr(e, impl.Expr{}) {
			t.Errorf("%.20q with %d variables and %d functions: %v with the code %d, want %d", c.text, c.vars, c.funcs, e, code, c.want)
		}
	}
}

func TestP4ExprTextOfInvalid(t *testing.T) {
	p := oddNames()
	for _, c := range []struct {
		p           impl.Program
		e           impl.Expr
		vars, funcs int64
		want        string
	}{
		{p, variable(1), 2, 5, "x1"}, {p, variable(2), 2, 5, ""}, {p, variable(0), -1, 5, ""}, {p, variable(0), 413, 5, ""},
		{p, calling(3, 0, num(1)), 0, 4, "if.0(1)"}, {p, calling(3, 0, num(1)), 0, 3, ""}, {p, num(1), 0, 6, ""}, {p, num(1), 0, -1, ""},
		{p, num(-1), 0, 0, ""}, {p, impl.Expr{}, 0, 0, ""}, {p, flat(401), 0, 0, ""}, {p, nested(61), 0, 0, ""},
		{program(function("f", 0)), num(1), 0, 0, ""}, {program(function("F", 0, num(1))), num(1), 0, 1, ""},
		{impl.Program{}, num(1), 0, 0, "1"},
	} {
		if have := impl.ExprText(c.p, c.e, c.vars, c.funcs); have != c.want {
			t.Errorf("ExprText of %v is %q, want %q", c.e, have, c.want)
		}
	}
}

func TestP4SizesAndDepthsInTexts(t *testing.T) {
	for _, e := range []impl.Expr{flat(impl.MaxNodes), nested(impl.MaxDepth)} {
		have, code := impl.ReadExpr(impl.Program{}, textOf(impl.Program{}, e), 0, 0)
		if code != impl.OK || !impl.SameExpr(have, e) {
			t.Errorf("%v with the code %d", have, code)
		}
	}
	noSyntax(t, impl.Program{}, textOf(impl.Program{}, flat(impl.MaxNodes+1)), 0, 0)
	noSyntax(t, impl.Program{}, textOf(impl.Program{}, nested(impl.MaxDepth+1)), 0, 0)
}

func TestP4ReadExprTakesJustTheTextsOfExpressions(t *testing.T) {
	p := program(function("x", 0, num(1)), function("f", 1, variable(0)))
	const length = 7
	texts := shortTexts(length)
	taken := 0
	var each func(text string)
	each = func(text string) {
		e, code := impl.ReadExpr(p, text, 1, 2)
		if texts[text] != (code == impl.OK) || code == impl.OK && impl.ExprText(p, e, 1, 2) != text {
			t.Fatalf("%q is read as %v with the code %d", text, e, code)
		}
		if code == impl.OK {
			taken++
		}
		for _, next := range "x0f.^(+ )" {
			if len(text) < length {
				each(text + string(next))
			}
		}
	}
	each("")
	if taken != len(texts) {
		t.Errorf("%d texts are taken, want %d", taken, len(texts))
	}
}

// shortTexts are all texts of expressions of some bytes that have no other bytes
// than those of "x0f.^(+ )", with the variable 0 and the functions x and f.
func shortTexts(length int) map[string]bool {
	texts := map[string]bool{"0": true, "x0": true, "x.0()": true}
	for range length {
		for a := range texts {
			for _, longer := range []string{"f.0(" + a + ")", "f.0^0(" + a + ")"} {
				if len(longer) <= length {
					texts[longer] = true
				}
			}
			for b := range texts {
				if sum := "(" + a + " + " + b + ")"; len(sum) <= length {
					texts[sum] = true
				}
			}
		}
	}
	return texts
}

func TestP4TextsOfManyPrograms(t *testing.T) {
	for seed := range int64(200) {
		v := inventions(seed)
		p := v.program(int(seed) % (impl.MaxFuncs + 1))
		text := textOfProgram(p)
		if have := impl.ProgramText(p); have != text {
			t.Fatalf("the text of a program is %q, want %q", have, text)
		}
		if len(text) <= impl.MaxText && !impl.SameProgram(reading(t, text), p) {
			t.Fatalf("%q is another program", text)
		}
		v.nodes = 100
		e := v.expr(5, 7)
		funcs := int64(len(p.Funcs))
		have, code := impl.ReadExpr(p, textOf(p, e), 5, funcs)
		if code != impl.OK || !impl.SameExpr(have, e) || impl.ExprText(p, e, 5, funcs) != textOf(p, e) {
			t.Fatalf("%q is read as %v with the code %d", textOf(p, e), have, code)
		}
	}
}

// expectLine fails the test unless a text has a fault in a line.
func expectLine(t *testing.T, text string, line int64) {
	t.Helper()
	p, have, code := impl.ReadProgram(text)
	if have != line || code != impl.ErrSyntax || len(p.Funcs) != 0 {
		t.Errorf("%q: %v with the line %d and the code %d, want the line %d", text, p, have, code, line)
	}
}

func TestP4ProgramExample(t *testing.T) {
	p := reading(t, exampleText)
	want := program(
		function("sq", 1, tree(impl.KMul, variable(0), variable(0))),
		function("f", 2, let(calling(0, 0, variable(0)), tree(impl.KAdd, variable(2), variable(1))), looping(0, 0, 2, variable(1))),
	)
	if !impl.SameProgram(p, want) || impl.ProgramText(want) != exampleText {
		t.Errorf("the example is %v", p)
	}
}

func TestP4ProgramsWithoutFunctions(t *testing.T) {
	if p := reading(t, ""); len(p.Funcs) != 0 || !impl.ValidProgram(p) {
		t.Errorf("the empty text is that of %v", p)
	}
	if text := impl.ProgramText(impl.Program{}); text != "" {
		t.Errorf("the text %q", text)
	}
	for _, text := range []string{"\n", "\n\n", "\nf 0: 1\n", " \n", " ", "f", "?"} {
		expectLine(t, text, 1)
	}
}

func TestP4LinesThatAreOfNoFunction(t *testing.T) {
	lines := []string{
		"", " ", "f", "f ", "f 1", "f 1:", "f 1: ", "f: 1", " 1: 1", "f 0:1", "f 0 : 1", "f  0: 1", "f 0:  1", " f 0: 1", "f 0: 1 ", "f 0: 1\r", "f\t0: 1", "f 0; 1",
		"f 00: 1", "f 01: 1", "f -1: 1", "f +1: 1", "f 13: 1", "f 1000003: 1", "f 99999999999999999999: 1", "f x: 1", "f : 1", "f 1.: 1",
		"F 0: 1", "1 0: 1", "1f 0: 1", "f_ 0: 1", "fF 0: 1", "abcdefghijklm 0: 1", "f.0 0: 1", "\xff 0: 1", "\u00e9 0: 1",
		"f 0: 1 |", "f 0: 1 | ", "f 0: | 1", "f 0:  | 1", "f 0: 1|1", "f 0: 1| 1", "f 0: 1 |1", "f 0: 1 || 1", "f 0: 1 | | 1", "f 0: 1  | 1", "f 0: 1; 1", "f 0: 1 1", "f 0: 1 | 1 |",
		"f 0: x0", "f 1: x1", "f 2: x0 | x2", "f 1: f.0(x0)", "f 1: f.0^1(x0)", "f 1: h.0(x0)", "f 0: 01", "f 0: 1000003", "f 0: (1 +1)", "f 0: neg(1", "f 0: let(1; x1)",
		"f 0: " + textOf(impl.Program{}, flat(401)), "f 0: 1 | " + textOf(impl.Program{}, flat(400)), "f 0: " + textOf(impl.Program{}, nested(61)),
		"f 0: " + strings.TrimSuffix(strings.Repeat("1 | ", impl.MaxParams+1), " | "),
		"g 0: 1", "g 1: x0", "f 1: g.0()", "f 1: g.0^9(x0)", "f 0: g.1(1)",
	}
	const before = "g 1: (x0 + 1)\n"
	for _, line := range lines {
		expectLine(t, before+line+"\n", 2)
		expectLine(t, before+line+"\nk 0: 1\n", 2)
		expectLine(t, before+"k 0: 2\n"+line+"\n?\n", 3)
		expectLine(t, before+line+"\n?", 2)
		if line != "" {
			expectLine(t, before+line, 2)
		}
		if !strings.Contains(line, "g") {
			expectLine(t, line+"\n"+before, 1)
		}
	}
	for _, line := range []string{"f 0: 1", "f 12: x11", "f 1: g.0(x0)", "f 0: " + textOf(impl.Program{}, flat(400)), "f 0: 1 | " + textOf(impl.Program{}, flat(399)), "f 0: " + textOf(impl.Program{}, nested(60)), "abcdefghijkl 0: 1 | 1"} {
		reading(t, before+line+"\n")
		expectLine(t, before+line, 2)
		expectLine(t, before+line+"\n"+line+"\n", 3)
		expectLine(t, before+line+"\n"+line, 3)
		expectLine(t, before+line+"\n\n", 3)
		expectLine(t, "\n"+before+line+"\n", 1)
	}
}

func TestP4LinesOfTooManyFunctions(t *testing.T) {
	text := ""
	for k := range impl.MaxFuncs {
		text += string([]byte{'a', byte('a' + k)}) + " 0: 1\n"
	}
	if len(reading(t, text).Funcs) != impl.MaxFuncs {
		t.Error("functions are missing")
	}
	expectLine(t, text+"b 0: 1\n", impl.MaxFuncs+1)
	expectLine(t, text+"b 0: 1\n?\n", impl.MaxFuncs+1)
	expectLine(t, text+"b 0: 1", impl.MaxFuncs+1)
	expectLine(t, text+"aa 0: 1\n", impl.MaxFuncs+1)
}

// textOfBytes is the text of a valid program with so many bytes, which are not
// by far fewer than MaxText.
func textOfBytes(count int) string {
	text := ""
	for k := range impl.MaxFuncs {
		sum := "1"
		for range 38 {
			sum = "(" + sum + " + ((222222 * 333333) - 444444))"
		}
		text += string([]byte{'a', byte('a' + k)}) + " 0: " + sum + "\n"
	}
	for len(text) > count {
		extra := min(len(text)-count, 5)
		text = strings.Replace(text, "222222", strings.Repeat("2", 6-extra), 1)
	}
	return text
}

func TestP4TextsOfMaxTextBytes(t *testing.T) {
	for _, count := range []int{impl.MaxText - 1, impl.MaxText} {
		text := textOfBytes(count)
		if len(text) != count {
			t.Fatalf("the text has %d bytes", len(text))
		}
		if p := reading(t, text); impl.ProgramText(p) != text {
			t.Error("the text is that of another program")
		}
	}
	for _, text := range []string{textOfBytes(impl.MaxText + 1), strings.Repeat("\n", impl.MaxText+1), strings.Repeat("a", impl.MaxText+1)} {
		p, line, code := impl.ReadProgram(text)
		if len(text) != impl.MaxText+1 || line != 0 || code != impl.ErrRange || len(p.Funcs) != 0 {
			t.Errorf("a text of %d bytes: the line %d has the code %d", len(text), line, code)
		}
	}
	expectLine(t, strings.Repeat("\n", impl.MaxText), 1)
	expectLine(t, strings.Repeat("a", impl.MaxText), 1)
	expectLine(t, strings.Repeat("f 0: 1\n", impl.MaxText/7), 2)
}

func TestP4TextsOfLongPrograms(t *testing.T) {
	text := textOfBytes(impl.MaxText)
	p := reading(t, text)
	p.Funcs[0].Outs = append(p.Funcs[0].Outs, num(1))
	if have := impl.ProgramText(p); have != textOfProgram(p) || len(have) <= impl.MaxText {
		t.Errorf("the text of a program with %d bytes", len(have))
	}
}

func TestP4TextsOfInvalidPrograms(t *testing.T) {
	for _, p := range []impl.Program{
		program(function("f", 0)), program(function("f", 0, num(1)), function("f", 0, num(1))), program(function("", 0, num(1))),
		program(function("f", 0, variable(0))), program(function("f", 13, num(1))), program(function("f", 0, flat(401))),
	} {
		if text := impl.ProgramText(p); text != "" {
			t.Errorf("the text %q", text)
		}
	}
}

// TestP4ChangedTexts changes each byte of some texts. What is taken then is the
// text of a program, and a fault is where the text stops to be the beginning of
// one.
func TestP4ChangedTexts(t *testing.T) {
	const text = "x1 1: (x0 * 10)\nneg 2: x1 | x0\nf 2: let(x1.0(x0); (x2 + neg.1^2(x1; if(x0; 2; x1))))\n"
	for k := range text {
		checkChanged(t, text[:k]+text[k+1:])
		checkChanged(t, text[:k])
		checkChanged(t, text[:k]+text[k:k+1]+text[k:])
		for _, other := range "0129 x.^()|;:+-*/\nnegifltA\x00" {
			checkChanged(t, text[:k]+string(other)+text[k+1:])
			checkChanged(t, text[:k]+string(other)+text[k:])
		}
	}
}

func checkChanged(t *testing.T, text string) {
	t.Helper()
	p, line, code := impl.ReadProgram(text)
	if code == impl.OK {
		if line != 0 || !impl.ValidProgram(p) || textOfProgram(p) != text {
			t.Errorf("%q is read as %v", text, p)
		}
		return
	}
	lines := strings.SplitAfter(text, "\n")
	if code != impl.ErrSyntax || line < 1 || line > int64(len(lines)) || len(p.Funcs) != 0 {
		t.Fatalf("%q: the line %d has the code %d", text, line, code)
	}
	good := strings.Join(lines[:line-1], "")
	if q, _, code := impl.ReadProgram(good); code != impl.OK || textOfProgram(q) != good {
		t.Errorf("%q: the fault is ahead of the line %d", text, line)
	}
	if _, at, code := impl.ReadProgram(good + lines[line-1]); code != impl.ErrSyntax || at != line {
		t.Errorf("%q: the fault is behind the line %d", text, line)
	}
}
