package tests

import (
	"fmt"
	"slices"
	"strings"
	"testing"

	"loop.example/g01091/impl"
)

// standardTexts are the texts of StandardRules, after the table of the document.
func standardTexts() []string {
	return []string{
		"1: (x0 + 0) = x0", "1: (0 + x0) = x0", "1: (x0 - 0) = x0", "1: (0 - x0) = neg(x0)", "1: (x0 * 1) = x0", "1: (1 * x0) = x0", "1: (x0 * 0) = 0", "1: (0 * x0) = 0",
		"1: neg(neg(x0)) = x0", "2: (x0 + neg(x1)) = (x0 - x1)", "2: (x0 - neg(x1)) = (x0 + x1)", "2: (neg(x0) * neg(x1)) = (x0 * x1)", "1: (x0 - x0) = 0",
		"3: ((x0 * x1) + (x0 * x2)) = (x0 * (x1 + x2))", "3: ((x0 * x2) + (x1 * x2)) = ((x0 + x1) * x2)", "3: ((x0 * x1) - (x0 * x2)) = (x0 * (x1 - x2))",
	}
}

func TestP11StandardRules(t *testing.T) {
	var texts []string
	for _, r := range impl.StandardRules() {
		texts = append(texts, ruleText(r))
		expectSound(t, r)
		for vars := range r.Vars {
			if less := (impl.Rule{Vars: vars, Left: r.Left, Right: r.Right}); impl.ValidRule(less) {
				t.Errorf("%s needs fewer variables", ruleText(r))
			}
		}
	}
	if !slices.Equal(texts, standardTexts()) {
		t.Errorf("have %q", texts)
	}
}

func expectSound(t *testing.T, r impl.Rule) {
	t.Helper()
	sound, point, code := impl.CheckRule(r)
	if !impl.ValidRule(r) || !sound || len(point) > 0 || code != impl.OK {
		t.Errorf("%s is sound: %v with the point %v and the code %d", ruleText(r), sound, point, code)
	}
}

// expectUnsound fails the test unless a rule is refuted at a point.
func expectUnsound(t *testing.T, r impl.Rule, want []int64) {
	t.Helper()
	sound, point, code := impl.CheckRule(r)
	if sound || code != impl.OK || !slices.Equal(point, want) {
		t.Errorf("%s is sound: %v with the point %v and the code %d, want %v", ruleText(r), sound, point, code, want)
	}
}

func TestP11TotalExpressions(t *testing.T) {
	p := reading(t, "g 1: x0\n")
	for text, want := range map[string]bool{
		"x0": true, "5": true, "(x0 + 1)": true, "(x0 - 1)": true, "(x0 * 1)": true, "neg(x0)": true, "if(x0; 1; 2)": true, "let(1; (x1 * x0))": true,
		"(x0 / 1)": false, "g.0(x0)": false, "g.0^0(x0)": false, "g.0^3(1)": false, "(1 + (1 / x0))": false, "((1 / x0) + 1)": false, "neg(g.0(1))": false, "if((1 / 1); 1; 2)": false, "if(1; g.0(1); 2)": false, "if(1; 2; g.0^0(1))": false, "let((1 / 1); 2)": false, "let(2; (1 / 1))": false, "let(2; let(3; neg((x0 - (x1 + (x2 / 2))))))": false,
	} {
		if impl.IsTotal(expression(t, p, text, 1)) != want {
			t.Errorf("%s is not total: %v", text, want)
		}
	}
	for _, kind := range append(kinds(), 0, -1, 12, 99) {
		total := kind != impl.KDiv && kind != impl.KCall && kind != impl.KLoop
		for _, e := range []impl.Expr{{Kind: kind}, tree(kind, num(1)), tree(99, num(1), num(2), num(3), num(4), tree(kind)), tree(impl.KNum, tree(kind)), doubled(kind, 100)} {
			if impl.IsTotal(e) != total {
				t.Errorf("%s is not total: %v", brief(e), total)
			}
		}
	}
	if !impl.IsTotal(nested(10000)) || impl.IsTotal(tree(impl.KAdd, nested(9999), tree(impl.KDiv))) {
		t.Error("deep expressions")
	}
}

// sided is the text of an expression with so many nodes, which has the value of
// x0.
func sided(size int) string {
	text := "x0"
	for ; size > 2; size -= 2 {
		text = "(" + text + " + 0)"
	}
	if size == 2 {
		text = "neg(" + text + ")"
	}
	return text
}

func TestP11ValidRules(t *testing.T) {
	for _, c := range []struct {
		vars        int64
		left, right string
		want        bool
	}{
		{0, "1", "1", true}, {0, "(1 + 1)", "2", true}, {3, "1", "2", true}, {1, "(x0 + 0)", "x0", true}, {2, "(x0 + 0)", "x0", true}, {3, "(x0 + 0)", "x0", true}, {3, "neg(x2)", "(0 - x2)", true},
		{1, "x0", "x0", false}, {1, "x0", "(x0 + 0)", false}, {0, "5", "(2 + 3)", true}, {1, "neg(x0)", "x0", true}, {2, "(x0 - x1)", "0", true}, {2, "neg(x0)", "x1", false}, {2, "(x0 * 0)", "(x1 * 0)", false}, {2, "(x1 * 0)", "x1", true}, {3, "(x0 * x2)", "((x0 + x1) * x2)", false}, {3, "(x0 * neg(x2))", "(x2 - (x0 + x0))", true}, {1, "neg(1)", "x0", false},
		{1, "(x0 / 1)", "x0", false}, {1, "neg(x0)", "(x0 / 1)", false}, {1, "if(x0; 1; 2)", "1", false}, {1, "neg(x0)", "if(x0; 1; 2)", false}, {1, "let(1; x0)", "x0", false}, {1, "neg(x0)", "let(1; x0)", false}, {1, "neg(neg((1 / 2)))", "x0", false}, {1, "(x0 + neg(if(1; 2; 3)))", "x0", false}, {1, "(x0 + 0)", "neg(neg(let(2; x1)))", false},
		{1, sided(39), "x0", true}, {1, sided(40), "x0", true}, {1, sided(41), "x0", false}, {1, "neg(x0)", sided(39), true}, {1, "neg(x0)", sided(40), true}, {1, "neg(x0)", sided(41), false}, {1, sided(40), sided(40), true}, {1, sided(42), sided(40), false},
	} {
		r := rule(t, 3, c.left, c.right)
		r.Vars = c.vars
		expectRule(t, r, c.want)
	}
	for _, vars := range outside(4) {
		expectRule(t, impl.Rule{Vars: vars, Left: num(1), Right: num(1)}, false)
	}
	for vars := range int64(4) {
		for variableOf := range int64(5) {
			for _, r := range []impl.Rule{{Vars: vars, Left: tree(impl.KNeg, variable(variableOf)), Right: num(1)}, {Vars: vars, Left: tree(impl.KNeg, variable(variableOf)), Right: variable(variableOf)}} {
				expectRule(t, r, variableOf < vars)
			}
		}
	}
	p := program(function("g", 1, variable(0), variable(0)))
	for _, e := range []impl.Expr{calling(0, 0, num(1)), looping(0, 0, 1, num(1)), num(impl.P), num(-1), {}, tree(99), tree(impl.KAdd, num(1)), tree(impl.KNeg, num(1), num(2)), {Kind: impl.KNum, Pick: 1}, {Kind: impl.KNum, Count: 1}, {Kind: impl.KNeg, Num: 1, Kids: []impl.Expr{num(1)}}, doubled(impl.KAdd, 60), nested(61)} {
		expectRule(t, impl.Rule{Vars: 1, Left: e, Right: num(1)}, false)
		expectRule(t, impl.Rule{Vars: 1, Left: num(1), Right: e}, false)
		expectRule(t, impl.Rule{Vars: 1, Left: tree(impl.KNeg, e), Right: num(1)}, false)
		expectSymbolicCode(t, "RewriteAt", symbolicQuestion{p: p, e: num(1), funcs: 1, r: impl.Rule{Left: e, Right: num(1)}}, impl.ErrInvalid)
	}
	expectRule(t, impl.Rule{}, false)
}

// expectRule fails the test unless a rule is valid or not, and refused then.
func expectRule(t *testing.T, r impl.Rule, want bool) {
	t.Helper()
	if impl.ValidRule(r) != want {
		t.Errorf("%s: the validity is not %v", brief(r), want)
	}
	if !want {
		q := symbolicQuestion{e: num(1), r: r, rules: []impl.Rule{r}, path: []int64{7}, steps: make([]impl.Step, 401)}
		expectSymbolicCode(t, "CheckRule", q, impl.ErrInvalid)
		expectSymbolicCode(t, "RewriteAt", q, impl.ErrInvalid)
		expectSymbolicCode(t, "CheckSteps", q, impl.ErrInvalid)
		q.rules = append(impl.StandardRules(), r)
		expectSymbolicCode(t, "CheckSteps", q, impl.ErrInvalid)
	}
}

// productText is the text of a product.
func productText(factors ...string) string {
	text := factors[0]
	for _, factor := range factors[1:] {
		text = "(" + text + " * " + factor + ")"
	}
	return text
}

// roots is the text of a product that is 0 for x0 from 0 to one less than a number.
func roots(count int) string {
	factors := []string{"x0"}
	for k := 1; k < count; k++ {
		factors = append(factors, fmt.Sprintf("(x0 - %d)", k))
	}
	return productText(factors...)
}

func TestP11SoundRules(t *testing.T) {
	power := func(exp int) string { return productText(slices.Repeat([]string{"x0"}, exp)...) }
	for _, c := range []struct {
		vars        int64
		left, right string
	}{
		{0, "(2 + 3)", "5"}, {0, "neg(1)", "1000002"}, {1, "(x0 + x0)", "(2 * x0)"}, {2, "(x0 + x1)", "(x1 + x0)"}, {2, "((x0 + x1) * (x0 - x1))", "((x0 * x0) - (x1 * x1))"}, {3, "(x0 * (x1 + x2))", "((x0 * x1) + (x0 * x2))"}, {3, "(x2 - x2)", "0"}, {2, "((x0 - x1) * 0)", "0"}, {1, power(12), productText(power(6), power(6))}, {1, "(x0 * " + power(11) + ")", power(12)},
		{1, "((1000002 * x0) + x0)", "0"}, {1, "(500002 * (x0 + x0))", "x0"}, {3, "neg((x0 - (x1 - x2)))", "((x1 - x2) - x0)"}, {1, "(x0 + 0)", "(x0 + 0)"}, {1, sided(39), sided(39)},
	} {
		expectSound(t, rule(t, c.vars, c.left, c.right))
	}
}

// TestP11RefutedAtTheFirstPoint has rules whose sides are equal at the first lists.
func TestP11RefutedAtTheFirstPoint(t *testing.T) {
	for _, c := range []struct {
		vars        int64
		left, right string
		want        []int64
	}{
		{0, "(1 + 1)", "1", nil}, {0, "5", "0", nil}, {1, "(x0 + 1)", "x0", []int64{0}}, {1, "(x0 * x0)", "x0", []int64{2}}, {1, "(x0 + x0)", "x0", []int64{1}}, {1, "neg(x0)", "x0", []int64{1}}, {3, "neg(x0)", "x0", []int64{1, 0, 0}}, {3, "neg(x1)", "x1", []int64{0, 1, 0}}, {3, "neg(x2)", "x2", []int64{0, 0, 1}},
		{2, "(x0 * x1)", "0", []int64{1, 1}}, {2, "(x0 - x1)", "0", []int64{0, 1}}, {2, "(x0 * (x0 - x1))", "0", []int64{1, 0}}, {2, "((x1 * x1) * x0)", "(x1 * x0)", []int64{1, 2}}, {2, "((x0 * x0) * x1)", "(x1 * x0)", []int64{2, 1}}, {3, "((x0 * x1) * x2)", "0", []int64{1, 1, 1}}, {3, "((x0 * (x0 - 1)) * ((x1 * (x1 - 1)) * ((x1 - 2) * x2)))", "0", []int64{2, 3, 1}}, {3, "(x0 * ((x0 - x1) * (x2 - x1)))", "0", []int64{1, 0, 1}},
		{1, roots(5), "0", []int64{5}}, {1, roots(10), "0", []int64{10}}, {2, "(" + roots(3) + " * x1)", "0", []int64{3, 1}}, {1, "(x0 * 1000002)", "x0", []int64{1}}, {2, "(" + strings.ReplaceAll(roots(8), "x0", "x1") + " * x0)", "0", []int64{1, 8}},
	} {
		expectUnsound(t, rule(t, c.vars, c.left, c.right), c.want)
		other := rule(t, c.vars, c.left, c.right)
		if other.Right.Kind != impl.KVar && len(c.want) == 0 {
			expectUnsound(t, impl.Rule{Vars: c.vars, Left: other.Right, Right: other.Left}, c.want)
		}
	}
	// The product of x0 - k for k up to 11 is 0 at 0, 1, ..., 11. Its terms of a degree
	// from 6 on are on the left, and the other ones, subtracted, on the right.
	all := numberPoly(1, 1)
	for k := range int64(impl.MaxDegree) {
		all = timesSlowly(all, plusSlowly(variablePoly(1, 0), impl.P-k, numberPoly(1, 1)))
	}
	var low, high []int64
	for exp := range int64(6) {
		low = append(low, impl.Residue(-coefficient(all, exp)))
		high = append(high, coefficient(all, exp+6))
	}
	left := productText(append([]string{horner(append(high, 1))}, slices.Repeat([]string{"x0"}, 6)...)...)
	expectUnsound(t, rule(t, 1, left, horner(low)), []int64{12})
}

// coefficient is that of a power of x0.
func coefficient(a impl.Poly, exp int64) int64 {
	for _, term := range a.Terms {
		if term.Exps[0] == exp {
			return term.Coef
		}
	}
	return 0
}

// horner is the text of a polynomial of x0 with some coefficients.
func horner(coefficients []int64) string {
	last := len(coefficients) - 1
	text := fmt.Sprint(coefficients[last])
	for _, number := range slices.Backward(coefficients[:last]) {
		text = fmt.Sprintf("((%s * x0) + %d)", text, number)
	}
	return text
}

// TestP11LimitsOfRules has nodes whose polynomials have the degree 12 or 13, and 120
// terms or more.
func TestP11LimitsOfRules(t *testing.T) {
	power := func(exp int) string { return productText(slices.Repeat([]string{"x0"}, exp)...) }
	full := productText("(x2 + 1)", "(x1 + x2)", "(x1 + 1)", "(x0 + 1)", "(x1 + x2)", "(x0 + x2)", "(x0 - x1)", "(x0 + x2)", "(x1 - 2)", "(x0 + 2)")
	beyond := productText("(x0 + x1)", "(x0 + x1)", "(x2 - 2)", "(x2 - x0)", "(x0 - 1)", "(x1 - x2)", "(x1 - x2)", "(x1 + 2)", "(x2 - 1)", "(x0 + 2)")
	for _, c := range []struct {
		left, right string
		want        int64
	}{
		{power(12), power(12), impl.OK}, {power(13), power(13), impl.ErrLimit}, {power(12), power(13), impl.ErrLimit}, {power(13), "x0", impl.ErrLimit}, {"(0 * " + power(13) + ")", "0", impl.ErrLimit}, {"(0 * " + power(12) + ")", "0", impl.OK}, {"(" + power(12) + " * 0)", "(0 * " + power(13) + ")", impl.ErrLimit}, {"neg(x0)", power(13), impl.ErrLimit}, {"neg(x0)", power(12), impl.OK}, {"(" + power(6) + " * " + power(7) + ")", "0", impl.ErrLimit}, {"(" + power(6) + " * " + power(6) + ")", "0", impl.OK}, {"(" + power(9) + " * (x1 * (x2 * x1)))", "0", impl.OK}, {"(" + power(9) + " * (x1 * (x2 * (x1 * x1))))", "0", impl.ErrLimit},
		{full, "0", impl.OK}, {full, full, impl.OK}, {"neg(" + full + ")", full, impl.OK}, {beyond, "0", impl.ErrLimit}, {"(x0 + (x1 + x2))", beyond, impl.ErrLimit}, {"(x0 + (x1 + x2))", full, impl.OK},
	} {
		r := rule(t, 3, c.left, c.right)
		expectSymbolicCode(t, "CheckRule", symbolicQuestion{r: r}, c.want)
		sound, point, code := slowCheck(r)
		if have, at, _ := impl.CheckRule(r); code != c.want || have != sound || !slices.Equal(at, point) {
			t.Errorf("%s: %v at %v, by another way %v at %v with the code %d", ruleText(r), have, at, sound, point, code)
		}
	}
	if outs, _ := polysOf(withOut(impl.Program{}, expression(t, impl.Program{}, full, 3), 3), 0); len(outs[0].Terms) != impl.MaxTerms {
		t.Errorf("%d terms", len(outs[0].Terms))
	}
}

// slowCheck is what CheckRule has to return.
func slowCheck(r impl.Rule) (bool, []int64, int64) {
	p := program(function("f", r.Vars, r.Left, r.Right))
	sides, code := polysOf(p, 0)
	if code != impl.OK {
		return false, nil, code
	}
	if polyText(sides[0]) == polyText(sides[1]) {
		return true, nil, impl.OK
	}
	count := impl.Power(impl.MaxDegree+1, r.Vars)
	for k := range count {
		point := make([]int64, r.Vars)
		for rest, i := k, r.Vars-1; i >= 0; i-- {
			point[i], rest = rest%(impl.MaxDegree+1), rest/(impl.MaxDegree+1)
		}
		if outs, _, _ := reckoned(p, 0, point); outs[0] != outs[1] {
			return false, point, impl.OK
		}
	}
	panic("there is no point")
}

// rule makes valid rules of all kinds, many of which are sound.
func (v *invention) rule() impl.Rule {
	for {
		r := impl.Rule{Vars: v.Int63n(4)}
		r.Left = v.plain(r.Vars, 2+v.Intn(4))
		r.Right = v.plain(r.Vars, 1+v.Intn(4))
		a, code := impl.PolyOf(withOut(impl.Program{}, r.Left, r.Vars), 0, 0)
		if e, late := impl.PolyExpr(a); code == impl.OK && late == impl.OK && v.Intn(3) > 0 {
			r.Right = e
			if v.Intn(3) == 0 {
				r.Right, _, _ = impl.SimplifyExpr(impl.Program{}, r.Left, r.Vars, 0)
			}
		}
		if impl.ValidRule(r) {
			return r
		}
	}
}

// TestP11ManyRules compares with another way to the same.
func TestP11ManyRules(t *testing.T) {
	counts := map[string]int{}
	for seed := range int64(1500) {
		r := inventions(seed + 700).rule()
		sound, point, code := slowCheck(r)
		have, at, error := impl.CheckRule(r)
		if have != sound || !slices.Equal(at, point) || error != code {
			t.Errorf("%s is %v at %v with the code %d, want %v at %v with the code %d", ruleText(r), have, at, error, sound, point, code)
		}
		counts[fmt.Sprint(sound, code)]++
		if slices.Max(append(point, 0)) > 1 {
			counts["late"]++
		}
	}
	if counts["true 0"] < 300 || counts["false 0"] < 300 || counts["late"] < 5 {
		t.Errorf("so many rules: %v", counts)
	}
}

func TestP11RewriteByHand(t *testing.T) {
	p := reading(t, "g 1: x0\nh 1: x0 | x0\n")
	for _, c := range []struct {
		text, left, right, path, want string
		code                          int64
	}{
		{"(x1 + 0)", "(x0 + 0)", "x0", "", "x1", 0}, {"(0 + x1)", "(x0 + 0)", "x0", "", "", impl.ErrNotFound}, {"(x1 + 1)", "(x0 + 0)", "x0", "", "", impl.ErrNotFound}, {"(x1 - 0)", "(x0 + 0)", "x0", "", "", impl.ErrNotFound}, {"((x1 + 0) * 2)", "(x0 + 0)", "x0", "0", "(x1 * 2)", 0}, {"((x1 + 0) * 2)", "(x0 + 0)", "x0", "", "", impl.ErrNotFound}, {"(2 * (x1 + 0))", "(x0 + 0)", "x0", "1", "(2 * x1)", 0}, {"(2 * (x1 + 0))", "(x0 + 0)", "x0", "0", "", impl.ErrNotFound},
		{"(x1 - x1)", "(x0 - x0)", "0", "", "0", 0}, {"(x1 - x0)", "(x0 - x0)", "0", "", "", impl.ErrNotFound}, {"(h.0(x1) - h.1(x1))", "(x0 - x0)", "0", "", "", impl.ErrNotFound}, {"(g.0(x1) - g.0(x1))", "(x0 - x0)", "0", "", "", impl.ErrState}, {"(g.0^2(x1) - g.0^3(x1))", "(x0 - x0)", "0", "", "", impl.ErrNotFound}, {"((x1 + 3) - (x1 + 3))", "(x0 - x0)", "0", "", "0", 0}, {"((x1 + 3) - (x1 + 4))", "(x0 - x0)", "0", "", "", impl.ErrNotFound},
		{"(g.0(x1) + (1 / 0))", "(x0 + x1)", "(x1 + x0)", "", "((1 / 0) + g.0(x1))", 0}, {"((1 / 0) * 0)", "(x0 * 0)", "0", "", "", impl.ErrState}, {"(if(x0; 1; (1 / x0)) * 0)", "(x0 * 0)", "0", "", "", impl.ErrState}, {"(if(x0; 1; (1 + x0)) * 0)", "(x0 * 0)", "0", "", "0", 0}, {"(let(x0; (x2 * x1)) * 0)", "(x0 * 0)", "0", "", "0", 0}, {"((1 / 0) * x0)", "(x0 * x1)", "(x1 * x0)", "", "(x0 * (1 / 0))", 0}, {"((x0 - x0) + (1 / 0))", "((x0 - x0) + x1)", "x1", "", "(1 / 0)", 0}, {"(((1 / 0) - (1 / 0)) + x0)", "((x0 - x0) + x1)", "x1", "", "", impl.ErrState},
		{"(x0 * x0)", "(x0 * x1)", "(x1 * x0)", "", "(x0 * x0)", 0}, {"((x0 * 5) + (x0 * x1))", "((x0 * x1) + (x0 * x2))", "(x0 * (x1 + x2))", "", "(x0 * (5 + x1))", 0}, {"((x0 * 5) + (x1 * x0))", "((x0 * x1) + (x0 * x2))", "(x0 * (x1 + x2))", "", "", impl.ErrNotFound}, {"(x1 * 2)", "(x0 * 2)", "(x0 + x0)", "", "(x1 + x1)", 0}, {"((1 / x0) * 2)", "(x0 * 2)", "(x0 + x0)", "", "((1 / x0) + (1 / x0))", 0}, {"(x1 * 3)", "(x0 * 2)", "(x0 + x0)", "", "", impl.ErrNotFound},
		{"neg(neg(neg(x0)))", "neg(neg(x0))", "x0", "", "neg(x0)", 0}, {"neg(neg(neg(x0)))", "neg(neg(x0))", "x0", "0", "neg(x0)", 0}, {"neg(neg(neg(x0)))", "neg(neg(x0))", "x0", "0 0", "", impl.ErrNotFound}, {"neg(neg(neg(x0)))", "neg(neg(x0))", "x0", "0 0 0 0", "", impl.ErrRange}, {"7", "7", "(3 + 4)", "", "(3 + 4)", 0}, {"8", "7", "(3 + 4)", "", "", impl.ErrNotFound}, {"x0", "7", "(3 + 4)", "", "", impl.ErrNotFound}, {"x1", "neg(x0)", "(0 - x0)", "", "", impl.ErrNotFound}, {"1", "neg(x0)", "(0 - x0)", "0", "", impl.ErrRange},
		{"let(x0; (x2 + 0))", "(x0 + 0)", "x0", "1", "let(x0; x2)", 0}, {"let((x0 + 0); x2)", "(x0 + 0)", "x0", "0", "let(x0; x2)", 0}, {"let(x0; let(x2; ((x3 * x2) + (x3 * 1))))", "((x0 * x1) + (x0 * x2))", "(x0 * (x1 + x2))", "1 1", "let(x0; let(x2; (x3 * (x2 + 1))))", 0}, {"if((x0 + 0); (x1 + 0); (2 + 0))", "(x0 + 0)", "x0", "0", "if(x0; (x1 + 0); (2 + 0))", 0}, {"if((x0 + 0); (x1 + 0); (2 + 0))", "(x0 + 0)", "x0", "1", "if((x0 + 0); x1; (2 + 0))", 0}, {"if((x0 + 0); (x1 + 0); (2 + 0))", "(x0 + 0)", "x0", "2", "if((x0 + 0); (x1 + 0); 2)", 0}, {"h.1(g.0^3((x0 + 0)))", "(x0 + 0)", "x0", "0 0", "h.1(g.0^3(x0))", 0}, {"(if(x0; 1; 2) + 0)", "(x0 + 0)", "x0", "", "if(x0; 1; 2)", 0}, {"(let(1; x2) + let(1; x2))", "(x0 + x0)", "(2 * x0)", "", "(2 * let(1; x2))", 0},
		{"(x1 + 0)", "(x0 + 0)", "x0", "2", "", impl.ErrRange}, {"(x1 + 0)", "(x0 + 0)", "x0", "-1", "", impl.ErrRange}, {"(x1 + 0)", "(x0 + 0)", "x0", "9223372036854775807", "", impl.ErrRange}, {"(x1 + 0)", "(x0 + 0)", "x0", "-9223372036854775808", "", impl.ErrRange}, {"(x1 + 0)", "(x0 + 0)", "x0", "0 0", "", impl.ErrRange}, {"(x1 + 0)", "(x0 + 0)", "x0", "1 0", "", impl.ErrRange}, {"(x1 + neg(5))", "(x0 + 0)", "x0", "1 -1", "", impl.ErrRange}, {"(x1 + neg(5))", "(x0 + 0)", "x0", "1 0 0", "", impl.ErrRange}, {"(x1 + neg(5))", "(x0 + 0)", "x0", "1 0", "", impl.ErrNotFound},
		{"(x1 + 1)", "(x0 + 1)", "x0", "", "", impl.ErrProof}, {"(x1 + 1)", "(x0 + 2)", "x0", "", "", impl.ErrProof}, {"(x1 + 1)", "(x0 + 1)", "x0", "7", "", impl.ErrRange}, {"((1 / 0) * 1)", "(x0 * 1)", "1", "", "", impl.ErrProof},
	} {
		q := symbolicQuestion{p: p, e: expression(t, p, c.text, 2), vars: 2, funcs: 2, r: rule(t, 3, c.left, c.right), path: pathOf(c.path)}
		expectSymbolicCode(t, "RewriteAt", q, c.code)
		e, code := impl.RewriteAt(q.p, q.e, q.vars, q.funcs, q.r, q.path)
		if code == impl.OK && impl.ExprText(p, e, 2, 2) != c.want {
			t.Errorf("%s becomes %s, want %s", c.text, impl.ExprText(p, e, 2, 2), c.want)
		}
	}
}

// pathOf is the path with a text.
func pathOf(text string) []int64 {
	var path []int64
	for _, word := range strings.Fields(text) {
		var k int64
		fmt.Sscan(word, &k)
		path = append(path, k)
	}
	return path
}

// TestP11RewriteErrors has the order of the errors: each question has all faults
// behind the one that is told.
func TestP11RewriteErrors(t *testing.T) {
	p, invalid := reading(t, "g 1: (1 / x0)\n"), program(function("g", 1))
	// The expression has 399 nodes. Both rules would make it too large, if they
	// fit and were sound.
	more := "(" + sided(19) + " - " + sided(19) + ")"
	e := tree(impl.KAdd, tree(impl.KMul, calling(0, 0, num(1)), num(0)), flat(394))
	wrong, none := rule(t, 1, "(x0 * 0)", "1"), rule(t, 1, "(x0 * 1)", "x0")
	state := rule(t, 1, "(x0 * 0)", strings.ReplaceAll(more, "x0", "1"))
	large := rule(t, 1, "(x0 * 0)", more)
	fine := rule(t, 1, "(x0 * 0)", "(x0 - x0)")
	power := productText(slices.Repeat([]string{"x0"}, 13)...)
	beyond := rule(t, 1, power, power)
	for _, c := range []struct {
		p           impl.Program
		e           impl.Expr
		vars, funcs int64
		r           impl.Rule
		path        string
		want        int64
	}{
		{p, e, 0, 1, fine, "0", impl.OK}, {p, e, 412, 1, fine, "0", impl.OK}, {p, e, 0, 1, large, "0", impl.ErrLimit}, {p, e, 0, 1, state, "0", impl.ErrState}, {p, e, 0, 1, none, "0", impl.ErrNotFound}, {p, e, 0, 1, none, "1", impl.ErrNotFound},
		{p, e, 0, 1, wrong, "0", impl.ErrProof}, {p, e, 0, 1, wrong, "1", impl.ErrProof}, {p, e, 0, 1, beyond, "0", impl.ErrProof}, {p, e, 0, 1, beyond, "0 0 0", impl.ErrProof}, {p, e, 0, 1, wrong, "2", impl.ErrRange}, {p, e, 0, 1, beyond, "0 0 0 0", impl.ErrRange}, {p, e, 0, 1, none, "0 2", impl.ErrRange},
		{invalid, e, 0, 1, fine, "0", impl.ErrInvalid}, {invalid, e, 0, 1, wrong, "5", impl.ErrInvalid}, {p, e, 0, 0, fine, "0", impl.ErrInvalid}, {p, e, 0, 2, fine, "0", impl.ErrInvalid}, {p, e, -1, 1, fine, "0", impl.ErrInvalid}, {p, e, 413, 1, wrong, "7", impl.ErrInvalid}, {p, variable(0), 0, 1, fine, "0", impl.ErrInvalid}, {p, impl.Expr{}, 0, 1, wrong, "7", impl.ErrInvalid}, {p, tree(impl.KAdd, e, num(1)), 0, 1, fine, "0 0", impl.ErrInvalid}, {p, e, 0, 1, impl.Rule{}, "7", impl.ErrInvalid}, {impl.Program{}, num(1), 0, 0, none, "", impl.ErrNotFound},
	} {
		q := symbolicQuestion{p: c.p, e: c.e, vars: c.vars, funcs: c.funcs, r: c.r, path: pathOf(c.path)}
		expectSymbolicCode(t, "RewriteAt", q, c.want)
		if c.want != impl.ErrInvalid {
			// The same errors are those of a step.
			q.rules, q.steps = []impl.Rule{c.r}, []impl.Step{{Path: q.path}}
			expectSymbolicCode(t, "CheckSteps", q, c.want)
		}
	}
}

// TestP11LargeResults has results with 400 nodes or 60 levels, and with more.
func TestP11LargeResults(t *testing.T) {
	grow, deepen := rule(t, 1, "(x0 + 5)", "((5 + 0) + x0)"), rule(t, 1, "neg(neg(x0))", "neg(neg(neg(neg(x0))))")
	double := rule(t, 1, "(2 * x0)", "(x0 + x0)")
	for _, c := range []struct {
		e    impl.Expr
		r    impl.Rule
		path string
		want int64
	}{
		{tree(impl.KAdd, flat(396), num(5)), grow, "", impl.OK}, {tree(impl.KAdd, flat(397), num(5)), grow, "", impl.ErrLimit}, {tree(impl.KAdd, flat(398), num(5)), grow, "", impl.ErrLimit}, {tree(impl.KMul, num(2), flat(199)), double, "", impl.OK}, {tree(impl.KMul, num(2), flat(200)), double, "", impl.ErrLimit}, {tree(impl.KMul, num(2), flat(398)), double, "", impl.ErrLimit},
		{nested(58), deepen, "", impl.OK}, {nested(59), deepen, "", impl.ErrLimit}, {nested(60), deepen, "0 0 0 0", impl.ErrLimit}, {nested(58), deepen, "0 0 0 0", impl.OK}, {tree(impl.KAdd, nested(59), tree(impl.KNeg, nested(57))), deepen, "1", impl.ErrLimit}, {tree(impl.KAdd, nested(59), tree(impl.KNeg, nested(56))), deepen, "1", impl.OK},
	} {
		q := symbolicQuestion{e: c.e, r: c.r, path: pathOf(c.path)}
		expectSymbolicCode(t, "RewriteAt", q, c.want)
		e, code := impl.RewriteAt(q.p, q.e, 0, 0, q.r, q.path)
		if code == impl.OK && !impl.ValidExpr(q.p, e, 0, 0) {
			t.Errorf("the result is not valid")
		}
	}
}

// spot is a node of an expression: its path, and how many variables are there.
type spot struct {
	path []int64
	vars int64
}

// spots are all nodes of an expression.
func spots(e impl.Expr, vars int64, path ...int64) []spot {
	list := []spot{{slices.Clone(path), vars}}
	for k, kid := range e.Kids {
		inner := vars
		if k == 1 {
			inner += int64(letsOf(e))
		}
		list = append(list, spots(kid, inner, append(slices.Clone(path), int64(k))...)...)
	}
	return list
}

// putAt is a copy of an expression with another node at a path.
func putAt(e impl.Expr, path []int64, node impl.Expr) impl.Expr {
	e = copyOf(e)
	at := &e
	for _, k := range path {
		at = &at.Kids[k]
	}
	*at = copyOf(node)
	return e
}

// nodeOf is the node of an expression at a path.
func nodeOf(e impl.Expr, path []int64) impl.Expr {
	for _, k := range path {
		e = e.Kids[k]
	}
	return e
}

// filled is a side of a rule with expressions in place of the variables.
func filled(side impl.Expr, values []impl.Expr) impl.Expr {
	if side.Kind == impl.KVar {
		return copyOf(values[side.Num])
	}
	side = copyOf(side)
	for k, kid := range side.Kids {
		side.Kids[k] = filled(kid, values)
	}
	return side
}

// TestP11ProvedRulesChangeNothing rewrites nodes of expressions into which the left
// sides of rules have been put.
func TestP11ProvedRulesChangeNothing(t *testing.T) {
	counts := map[string]int{}
	for seed := range int64(2500) {
		v := inventions(seed + 3000)
		r := v.rule()
		sound, _, code := impl.CheckRule(r)
		p := v.program(2)
		v.nodes = 60
		vars := 1 + v.Int63n(3)
		e := v.expr(vars, 4)
		places := spots(e, vars)
		place := places[v.Intn(len(places))]
		var values []impl.Expr
		for range r.Vars {
			v.nodes = 12
			values = append(values, v.expr(place.vars, 3))
		}
		e = putAt(e, place.path, filled(r.Left, values))
		want := putAt(e, place.path, filled(r.Right, values))
		have, error := impl.RewriteAt(p, e, vars, 2, r, place.path)
		counts[fmt.Sprint("code ", error)]++
		switch {
		case !sound || code != impl.OK:
			sameNumber(t, "the code of a rule that is not sound", error, impl.ErrProof)
		case error == impl.OK:
			sameExprs(t, ruleText(r), have, want)
			checkSameFunction(t, v, counts, withOut(p, e, vars), withOut(p, have, vars))
		case error == impl.ErrState:
			if !losesDivisions(r, values) {
				t.Errorf("%s with %s has the code %d", ruleText(r), brief(values), error)
			}
		case error == impl.ErrLimit:
			if impl.ValidExpr(p, want, vars, 2) {
				t.Errorf("%s with %s has the code %d", ruleText(r), brief(values), error)
			}
		case error != impl.ErrInvalid || impl.ValidExpr(p, e, vars, 2):
			t.Errorf("%s with %s has the code %d", ruleText(r), brief(values), error)
		}
	}
	if counts["code 0"] < 500 || counts["code 4"] < 10 || counts["code 8"] < 500 || counts["same"] < 300 || counts["zero"] < 100 {
		t.Errorf("so often: %v", counts)
	}
}

// losesDivisions tells whether a variable of the left side only has an expression
// that is not total.
func losesDivisions(r impl.Rule, values []impl.Expr) bool {
	left, right := map[int64]bool{}, map[int64]bool{}
	variablesIn(r.Left, r.Vars, r.Vars, left)
	variablesIn(r.Right, r.Vars, r.Vars, right)
	for k, value := range values {
		text := fmt.Sprint(kindsIn(value))
		total := !strings.Contains(text, "div") && !strings.Contains(text, "call")
		if left[int64(k)] && !right[int64(k)] && !total {
			return true
		}
	}
	return false
}

// kindsIn tells of divisions, calls and loops in an expression.
func kindsIn(e impl.Expr) []string {
	list := []string{map[int64]string{impl.KDiv: "div", impl.KCall: "call", impl.KLoop: "call"}[e.Kind]}
	for _, kid := range e.Kids {
		list = append(list, kindsIn(kid)...)
	}
	return list
}

// checkSameFunction compares values and derivatives of the last functions of two
// programs, unless there are too many steps.
func checkSameFunction(t *testing.T, v *invention, counts map[string]int, p, q impl.Program) {
	t.Helper()
	f := int64(len(p.Funcs) - 1)
	params := p.Funcs[f].Params
	for range 3 {
		args, dir := v.numbers(params), v.numbers(params)
		_, _, code := impl.Evaluate(p, f, args)
		_, _, again := impl.Evaluate(q, f, args)
		if code == impl.ErrBudget || again == impl.ErrBudget {
			continue
		}
		sameNumber(t, "the code", again, code)
		if code == impl.ErrZero {
			counts["zero"]++
			continue
		}
		counts["same"]++
		values, slopes, _ := impl.Directional(p, f, args, dir)
		have, along, _ := impl.Directional(q, f, args, dir)
		same(t, "the values", have, values)
		same(t, "the derivatives", along, slopes)
		sameRows(t, "the Taylor coefficients", fineRows(t)(impl.TaylorOf(q, f, args, dir, 5)), fineRows(t)(impl.TaylorOf(p, f, args, dir, 5)))
		for pick := range p.Funcs[f].Outs {
			sameRows(t, "the second derivatives", fineRows(t)(impl.HessianOf(q, f, int64(pick), args)), fineRows(t)(impl.HessianOf(p, f, int64(pick), args)))
		}
	}
}
