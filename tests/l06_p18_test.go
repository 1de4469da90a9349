package tests

import (
	"fmt"
	"slices"
	"strings"
	"testing"

	"loop.example/g01091/impl"
)

func TestP18Example(t *testing.T) {
	p := reading(t, "sq 1: (x0 * x0)\n")
	sameRows(t, "RoundStates", fineRows(t)(impl.RoundStates(p, 0, []int64{3}, 2)), [][]int64{{3}, {9}, {81}})
	same(t, "RoundGradient", fine(t)(impl.RoundGradient(p, 0, []int64{3}, []int64{1}, 2)), []int64{108})
}

func TestP18ValidRounds(t *testing.T) {
	p := reading(t, roundsText+"id 12: x0 | x1 | x2 | x3 | x4 | x5 | x6 | x7 | x8 | x9 | x10 | x11\n")
	for f, want := range []bool{true, false, true, false, false, false, true} {
		if impl.ValidRound(p, int64(f)) != want {
			t.Errorf("the function %d: want %v", f, want)
		}
	}
	for _, f := range outside(7) {
		if impl.ValidRound(p, f) {
			t.Errorf("there is no function %d", f)
		}
	}
	for _, faulty := range faultyPrograms() {
		for f := range int64(3) {
			if impl.ValidRound(faulty, f) {
				t.Errorf("the function %d of %s is taken for a round", f, brief(faulty))
			}
		}
	}
}

// faultyPrograms are programs that are not valid, with functions that would be rounds.
func faultyPrograms() []impl.Program {
	sq := function("sq", 1, tree(impl.KMul, variable(0), variable(0)))
	return []impl.Program{
		program(sq, sq), program(function("Sq", 1, variable(0))), program(sq, function("f", 1, variable(1))), program(sq, function("f", 1, calling(1, 0, variable(0)))), program(sq, sq, sq), program(sq, function("g", -1)), {Funcs: slices.Repeat([]impl.Func{sq}, 17)},
		program(function("f", 13, slices.Repeat([]impl.Expr{variable(0)}, 13)...)), program(sq, function("loop", 1, num(-1))), program(function("f", 1, impl.Expr{})),
	}
}

// roundsByHand have the states and the derivatives of chains.
func roundsByHand() []struct {
	text          string
	args, weights []int64
	n             int64
	last, want    []int64
} {
	return []struct {
		text          string
		args, weights []int64
		n             int64
		last, want    []int64
	}{
		{"sq 1: (x0 * x0)\n", []int64{3}, []int64{1}, 0, []int64{3}, []int64{1}}, {"sq 1: (x0 * x0)\n", []int64{3}, []int64{5}, 0, []int64{3}, []int64{5}}, {"sq 1: (x0 * x0)\n", []int64{3}, []int64{5}, 1, []int64{9}, []int64{30}}, {"sq 1: (x0 * x0)\n", []int64{2}, []int64{1}, 4, []int64{65536}, []int64{16 * 32768}}, {"sq 1: (x0 * x0)\n", []int64{1}, []int64{1}, 20, []int64{1}, []int64{48573}}, {"sq 1: (x0 * x0)\n", []int64{0}, []int64{7}, 40, []int64{0}, []int64{0}},
		{"id 1: x0\n", []int64{8}, []int64{9}, 40, []int64{8}, []int64{9}}, {"k 1: 4\n", []int64{8}, []int64{9}, 3, []int64{4}, []int64{0}}, {"k 1: 4\n", []int64{8}, []int64{9}, 0, []int64{8}, []int64{9}}, {"inc 1: (x0 + 1)\n", []int64{impl.P - 2}, []int64{1}, 40, []int64{38}, []int64{1}}, {"two 1: (x0 + x0)\n", []int64{1}, []int64{3}, 10, []int64{1024}, []int64{3072}}, {"neg 1: neg(x0)\n", []int64{5}, []int64{6}, 3, []int64{impl.P - 5}, []int64{impl.P - 6}}, {"inv 1: (1 / x0)\n", []int64{2}, []int64{1}, 2, []int64{2}, []int64{1}},
		{"fib 2: x1 | (x0 + x1)\n", []int64{0, 1}, []int64{1, 0}, 10, []int64{55, 89}, []int64{34, 55}}, {"swap 2: x1 | x0\n", []int64{7, 8}, []int64{1, 2}, 5, []int64{8, 7}, []int64{2, 1}}, {"swap 2: x1 | x0\n", []int64{7, 8}, []int64{1, 2}, 6, []int64{7, 8}, []int64{1, 2}}, {"pow 2: (x0 * x1) | x1\n", []int64{1, 2}, []int64{1, 0}, 5, []int64{32, 2}, []int64{32, 80}}, {"pow 2: (x0 * x1) | x1\n", []int64{1, 2}, []int64{1, 10}, 5, []int64{32, 2}, []int64{32, 90}}, {"drop 2: x0 | 0\n", []int64{3, 4}, []int64{5, 6}, 1, []int64{3, 0}, []int64{5, 0}},
		{"c 2: if(x1; x0; (x0 * x0)) | if(x1; 0; (x1 - 1))\n", []int64{3, 2}, []int64{1, 0}, 6, []int64{81, 0}, []int64{108, 0}}, {"rot 3: x1 | x2 | x0\n", []int64{1, 2, 3}, []int64{4, 5, 6}, 4, []int64{2, 3, 1}, []int64{6, 4, 5}},
	}
}

func TestP18RoundsByHand(t *testing.T) {
	for _, c := range roundsByHand() {
		name := fmt.Sprintf("%s %v %d", c.text, c.args, c.n)
		p := reading(t, c.text)
		states := fineRows(t)(impl.RoundStates(p, 0, c.args, c.n))
		if int64(len(states)) != c.n+1 {
			t.Fatalf("%s: %d states", name, len(states))
		}
		same(t, name, states[0], c.args)
		same(t, name, states[c.n], c.last)
		same(t, name, fine(t)(impl.RoundGradient(p, 0, c.args, c.weights, c.n)), c.want)
		for slots := min(int64(1), max(c.n-1, 0)); slots <= 8; slots++ {
			list := fineSchedule(t)(impl.BestSchedule(ones(c.n), slots))
			have, u, code := impl.ReverseRounds(p, 0, c.args, c.weights, list, slots)
			same(t, name, fine(t)(have, code), c.want)
			if want := fineUsage(t)(impl.RunSchedule(list, ones(c.n), slots)); u != want || u.Cost != u.Advances || u.Cost != fineNumber(t)(impl.FormulaCost(c.n, slots)) {
				t.Errorf("%s with %d slots uses %v, want %v", name, slots, u, want)
			}
		}
	}
}

// states are those of a chain, one evaluation after the other, and the first error.
func statesSlowly(p impl.Program, f int64, args []int64, n int64) ([][]int64, int64) {
	list := [][]int64{args}
	for range n {
		outs, _, code := impl.Evaluate(p, f, list[len(list)-1])
		if code != impl.OK {
			return nil, code
		}
		list = append(list, outs)
	}
	return list, impl.OK
}

// carriedForward are the derivatives of a chain, along one unit vector after the other.
func carriedForward(t *testing.T, p impl.Program, f int64, args, weights []int64, n int64) []int64 {
	t.Helper()
	var gradient []int64
	for k := range args {
		state, dir := args, unit(len(args)-1, k)
		for range n {
			var code int64
			if state, dir, code = impl.Directional(p, f, state, dir); code != impl.OK {
				t.Fatalf("Directional at %v has the code %d", state, code)
			}
		}
		gradient = append(gradient, dot(weights, dir))
	}
	return gradient
}

// checkRounds compares all ways to the derivatives of a chain, and returns whether
// there are any.
func checkRounds(t *testing.T, v *invention, p impl.Program, f int64, args, weights []int64, n int64) bool {
	t.Helper()
	name := fmt.Sprintf("%s at %v for %v and %d rounds", textOfProgram(p), args, weights, n)
	want, fault := statesSlowly(p, f, args, n)
	states, code := impl.RoundStates(p, f, args, n)
	sameNumber(t, name, code, fault)
	sameRows(t, name, states, want)
	gradient, code := impl.RoundGradient(p, f, args, weights, n)
	sameNumber(t, name, code, fault)
	if code == impl.OK {
		same(t, name, gradient, carriedForward(t, p, f, args, weights, n))
	} else if len(gradient) > 0 {
		t.Errorf("%s: %v beside the code %d", name, gradient, code)
	}
	for slots := min(int64(1), max(n-1, 0)); slots <= 8; slots += 1 + v.Int63n(4) {
		for _, list := range [][]impl.Action{fineSchedule(t)(impl.BestSchedule(ones(n), slots)), v.reversal(n, slots)} {
			have, u, code := impl.ReverseRounds(p, f, args, weights, list, slots)
			sameNumber(t, name, code, fault)
			same(t, name, have, gradient)
			used, _ := impl.RunSchedule(list, ones(n), slots)
			if code != impl.OK {
				used = impl.Usage{}
			}
			if u != used {
				t.Errorf("%s by %s uses %v, want %v", name, scheduleText(list), u, used)
			}
		}
	}
	return fault == impl.OK
}

// checkParts has the derivatives of the parts of a chain, one behind the other.
func checkParts(t *testing.T, p impl.Program, f int64, args, weights []int64, n int64) {
	t.Helper()
	states := fineRows(t)(impl.RoundStates(p, f, args, n))
	want := fine(t)(impl.RoundGradient(p, f, args, weights, n))
	for first := range n + 1 {
		behind := fine(t)(impl.RoundGradient(p, f, states[first], weights, n-first))
		same(t, fmt.Sprintf("%d of %d rounds", first, n), fine(t)(impl.RoundGradient(p, f, args, behind, first)), want)
		sameRows(t, "the states of a part", fineRows(t)(impl.RoundStates(p, f, states[first], n-first)), states[first:])
	}
}

// checkLoop compares a chain with the loop of WithLoop, and returns whether this can
// be evaluated.
func checkLoop(t *testing.T, p impl.Program, f int64, args, weights []int64, n int64) bool {
	t.Helper()
	q := fineProgram(t)(impl.WithLoop(p, f, n))
	loop := int64(len(p.Funcs))
	states, fault := impl.RoundStates(p, f, args, n)
	outs, _, code := impl.Evaluate(q, loop, args)
	if code == impl.ErrBudget {
		return false // the loop counts the steps of all rounds
	}
	sameNumber(t, "the code of the loop", code, fault)
	if code != impl.OK {
		return false
	}
	same(t, "the values of the loop", outs, states[n])
	want := fine(t)(impl.RoundGradient(p, f, args, weights, n))
	same(t, "the sweep of the loop", fine(t)(impl.TapeReverse(recorded(t, q, loop, args), args, weights)), want)
	rows := fineRows(t)(impl.JacobianOf(q, loop, args))
	for k := range args {
		sameNumber(t, "the Jacobian of the loop", dot(column(rows, k), weights), want[k])
	}
	return true
}

// round makes a program whose last function is a round.
func (v *invention) round(divides bool) (impl.Program, int64) {
	p := v.program(v.Intn(3))
	params := 1 + v.Int63n(4)
	f := function("round", params)
	v.nodes = 100
	for range params {
		if divides {
			f.Outs = append(f.Outs, v.expr(params, 4))
		} else {
			f.Outs = append(f.Outs, v.polynomial(params, 3, 3))
		}
	}
	return program(append(slices.Clone(p.Funcs), f)...), int64(len(p.Funcs))
}

func TestP18ManyRounds(t *testing.T) {
	counts, loops := map[bool]int{}, 0
	for seed := range int64(500) {
		v := inventions(seed)
		p, f := v.round(seed%3 > 0)
		params := p.Funcs[f].Params
		args, weights, n := v.numbers(params), v.numbers(params), v.Int63n([]int64{4, 9, 41}[seed%3])
		fine := checkRounds(t, v, p, f, args, weights, n)
		counts[fine]++
		if fine && n < 12 {
			checkParts(t, p, f, args, weights, n)
		}
		if checkLoop(t, p, f, args, weights, n%9) {
			loops++
		}
	}
	if counts[true] < 200 || counts[false] < 50 || loops < 200 {
		t.Errorf("so many rounds have derivatives: %v, and %d loops", counts, loops)
	}
}

// TestP18LinearInTheWeights has sums and multiples of weights.
func TestP18LinearInTheWeights(t *testing.T) {
	for seed := range int64(100) {
		v := inventions(seed)
		p, f := v.round(false)
		params := p.Funcs[f].Params
		args, first, second, factor, n := v.numbers(params), v.numbers(params), v.numbers(params), v.numbers(1)[0], v.Int63n(10)
		along := func(weights []int64) []int64 {
			return fine(t)(impl.RoundGradient(p, f, args, weights, n))
		}
		same(t, "the sum of weights", along(moved(first, second, factor)), moved(along(first), along(second), factor))
		for _, zero := range along(make([]int64, params)) {
			sameNumber(t, "no weights", zero, 0)
		}
	}
}

// countdown goes down to 0, where it divides by 0, and cost goes down to 1, where it
// has too many steps.
func countdown(t *testing.T) impl.Program {
	body := textOf(impl.Program{}, flat(398))
	return reading(t, "h 1: "+body+"\ndown 1: if(x0; (1 / x0); (x0 - 1))\ncost 1: if((x0 - 1); h.0^8(x0); (x0 - 1))\nboth 2: (x0 - 1) | (x1 / x0)\n")
}

// TestP18ErrorsOnTheWay has chains that come to an error in one of their rounds.
func TestP18ErrorsOnTheWay(t *testing.T) {
	p := countdown(t)
	for _, c := range []struct {
		f, code int64
		args    []int64
		rounds  int64 // that can be done
	}{
		{1, impl.ErrZero, []int64{0}, 0}, {1, impl.ErrZero, []int64{1}, 1}, {1, impl.ErrZero, []int64{3}, 3}, {1, impl.ErrZero, []int64{39}, 39}, {1, impl.OK, []int64{40}, 40},
		{2, impl.ErrBudget, []int64{1}, 0}, {2, impl.ErrBudget, []int64{2}, 1}, {2, impl.ErrBudget, []int64{4}, 3}, {2, impl.ErrBudget, []int64{40}, 39}, {2, impl.OK, []int64{41}, 40},
		{3, impl.ErrZero, []int64{0, 5}, 0}, {3, impl.ErrZero, []int64{2, 0}, 2}, {3, impl.ErrZero, []int64{7, 1}, 7},
	} {
		for n := range int64(41) {
			want := int64(impl.OK)
			if n > c.rounds {
				want = c.code
			}
			_, code := statesSlowly(p, c.f, c.args, n)
			sameNumber(t, "the code of the states", code, want)
			checkRounds(t, inventions(n), p, c.f, c.args, ones(int64(len(c.args))), n)
		}
	}
}

// TestP18ErrorsBySchedule meets an error by CkAdvance, by CkReverse, and not at all
// where the chain is not reversed.
func TestP18ErrorsBySchedule(t *testing.T) {
	p := countdown(t)
	for _, c := range []struct {
		f, arg, slots int64
		text          string
		want          int64
	}{
		{1, 0, 0, "-", impl.OK}, {1, 0, 1, "s0 l0", impl.OK}, {1, 0, 0, "r", impl.ErrZero}, {1, 0, 1, "s0 l0 r", impl.ErrZero}, {1, 1, 0, "r", impl.OK}, {1, 0, 1, "s0 a1 r l0 r", impl.ErrZero}, {1, 1, 1, "s0 a1 r l0 r", impl.ErrZero}, {1, 2, 1, "s0 a1 r l0 r", impl.OK}, {1, 2, 1, "s0 a2 r l0 a1 r l0 r", impl.ErrZero}, {1, 1, 1, "s0 a2 r l0 a1 r l0 r", impl.ErrZero}, {1, 1, 1, "s0 a1 l0 a2 r l0 a1 r l0 r", impl.ErrZero}, {1, 3, 1, "s0 a2 r l0 a1 r l0 r", impl.OK},
		{1, 0, 0, "r r", impl.ErrState}, {1, 0, 0, "s0 a1 r l0 r", impl.ErrState}, {1, 0, 1, "s0 a1 r l0 r r", impl.ErrState}, {1, 0, 1, "s0 a1 r l0", impl.ErrState}, {1, 0, 0, "a1 r", impl.ErrState}, {1, 0, 8, "l0 r", impl.ErrState}, {1, 0, 7, "s7 r", impl.ErrState}, {1, 0, 0, "a1", impl.ErrState},
		{2, 1, 0, "r", impl.ErrBudget}, {2, 2, 0, "r", impl.OK}, {2, 2, 1, "s0 a1 r l0 r", impl.ErrBudget}, {2, 2, 1, "s0 a1 s0 r l0 r", impl.ErrState}, {2, 1, 1, "s0 a1 r l0 r", impl.ErrBudget}, {2, 3, 1, "s0 a1 r l0 r", impl.OK},
	} {
		list, u, code := impl.ReverseRounds(p, c.f, []int64{c.arg}, []int64{1}, schedule(t, c.text), c.slots)
		if code != c.want || code != impl.OK && (len(list) > 0 || u != (impl.Usage{})) || code == impl.OK && len(list) != 1 {
			t.Errorf("%s from %d: %v, %v and the code %d, want %d", c.text, c.arg, list, u, code, c.want)
		}
	}
}

// TestP18StepsAreCountedAnew for each evaluation: a round of most steps is done many
// times, one of a step more not once.
func TestP18StepsAreCountedAnew(t *testing.T) {
	for _, more := range []int{0, 1} {
		h := function("h", 1, tree(impl.KAdd, variable(0), flat(396)))
		p := program(h, function("f", 1, tree(impl.KAdd, looping(0, 0, 7, variable(0)), flat(211+more))))
		_, steps, code := impl.Evaluate(p, 1, []int64{3})
		if more == 0 && (steps != impl.MaxSteps || code != impl.OK) {
			t.Fatalf("%d steps with the code %d", steps, code)
		}
		want := int64(impl.OK)
		if more > 0 {
			want = impl.ErrBudget
		}
		for n := range int64(41) {
			_, code := impl.RoundStates(p, 1, []int64{3}, n)
			_, other := impl.RoundGradient(p, 1, []int64{3}, []int64{5}, n)
			if n == 0 && (code != impl.OK || other != impl.OK) || n > 0 && (code != want || other != want) {
				t.Errorf("%d rounds with the codes %d and %d, want %d", n, code, other, want)
			}
		}
		list, u, code := impl.ReverseRounds(p, 1, []int64{3}, []int64{5}, fineSchedule(t)(impl.BestSchedule(ones(40), 1)), 1)
		if code != want || code == impl.OK && (u.Cost != 780 || !slices.Equal(list, []int64{5})) {
			t.Errorf("%v and %v with the code %d, want %d", list, u, code, want)
		}
	}
}

func TestP18LoopsByHand(t *testing.T) {
	for _, c := range []struct {
		text     string
		f, count int64
		want     string
	}{
		{"sq 1: (x0 * x0)\n", 0, 2, "loop 1: sq.0^2(x0)\n"}, {"sq 1: (x0 * x0)\n", 0, 0, "loop 1: sq.0^0(x0)\n"}, {"sq 1: (x0 * x0)\n", 0, 8, "loop 1: sq.0^8(x0)\n"}, {"k 0: 1\nfib 2: x1 | (x0 + x1)\nz 1: x0\n", 1, 5, "loop 2: fib.0^5(x0; x1) | fib.1^5(x0; x1)\n"}, {"k 0: 1\nfib 2: x1 | (x0 + x1)\nz 1: x0\n", 2, 1, "loop 1: z.0^1(x0)\n"},
		{"loo 3: x1 | x2 | x0\nloops 1: x0\nloop1 1: x0\n", 0, 3, "loop 3: loo.0^3(x0; x1; x2) | loo.1^3(x0; x1; x2) | loo.2^3(x0; x1; x2)\n"},
	} {
		q := fineProgram(t)(impl.WithLoop(reading(t, c.text), c.f, c.count))
		if have := impl.ProgramText(q); have != c.text+c.want {
			t.Errorf("have %q, want %q", have, c.text+c.want)
		}
	}
	vars := "(x0; x1; x2; x3; x4; x5; x6; x7; x8; x9; x10; x11)"
	text, outs, loops := "", []string{}, []string{}
	for k := range 12 {
		outs, loops = append(outs, fmt.Sprintf("x%d", 11-k)), append(loops, fmt.Sprintf("a.%d^8%s", k, vars))
	}
	for k := range 15 {
		text += fmt.Sprintf("%c 12: %s\n", 'a'+k, strings.Join(outs, " | "))
	}
	q := fineProgram(t)(impl.WithLoop(reading(t, text), 0, 8))
	if have := impl.ProgramText(q); have != text+"loop 12: "+strings.Join(loops, " | ")+"\n" {
		t.Errorf("the largest loop is %q", have)
	}
}

// TestP18LoopErrors has the errors of WithLoop behind those of the arguments.
func TestP18LoopErrors(t *testing.T) {
	text := ""
	for k := range 16 {
		text += fmt.Sprintf("%c 1: x0\n", 'a'+k)
	}
	for _, c := range []struct {
		text     string
		f, count int64
		want     int64
	}{
		{text, 0, 2, impl.ErrLimit}, {text, 15, 0, impl.ErrLimit}, {text[8:], 14, 8, impl.OK}, {text, 0, 9, impl.ErrRange}, {text, 16, 2, impl.ErrRange}, {text[8:] + "loop 1: x0\n", 0, 2, impl.ErrState}, {text[8:] + "loop 1: x0\n", 15, 8, impl.ErrState}, {text[8:] + "loop 1: x0\n", 0, 9, impl.ErrRange},
		{"loop 1: x0\n", 0, 0, impl.ErrState}, {"k 0: 1\nloop 0: 2\na 1: x0\n", 2, 0, impl.ErrState}, {"k 0: 1\nloop 0: 2\na 1: x0\n", 1, 0, impl.ErrRange}, {"k 0: 1\nloop 0: 2\na 1: x0\n", 0, 0, impl.ErrRange}, {"a 1: x0\n", 0, -1, impl.ErrRange}, {"a 1: x0\n", -1, 0, impl.ErrRange}, {"a 1: x0 | x0\n", 0, 0, impl.ErrRange}, {"a 2: x0\n", 0, 0, impl.ErrRange}, {"", 0, 0, impl.ErrRange},
	} {
		q, code := impl.WithLoop(reading(t, c.text), c.f, c.count)
		if code != c.want || code != impl.OK && len(q.Funcs) > 0 {
			t.Errorf("%q, %d and %d: the code %d, want %d", c.text, c.f, c.count, code, c.want)
		}
	}
	q := fineProgram(t)(impl.WithLoop(reading(t, "a 1: x0\n"), 0, 2))
	if _, code := impl.WithLoop(q, 1, 2); code != impl.ErrState {
		t.Errorf("a second loop has the code %d", code)
	}
}
