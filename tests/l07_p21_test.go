package tests

import (
	"fmt"
	"slices"
	"testing"

	"loop.example/g01091/impl"
)

// TestP21PathsByHand has maps whose inverse is known.
func TestP21PathsByHand(t *testing.T) {
	zeros := make([]int64, impl.MaxOrder)
	for _, c := range []struct {
		text      string
		args, dir []int64
		want      [][]int64
	}{
		{"sq 1: (x0 * x0)\n", []int64{1}, []int64{2}, [][]int64{{1, 1, 500001}}},
		{"sq 1: (x0 * x0)\n", []int64{1}, []int64{0}, [][]int64{{1, 0, 0}}},
		{"id 1: x0\n", []int64{5}, []int64{3}, [][]int64{append([]int64{5, 3}, zeros[1:]...)}},
		{"inv 1: (1 / x0)\n", []int64{1}, []int64{impl.P - 1}, [][]int64{constant(12, 1)}},
		{"lin 2: (x0 + x1) | (x0 - x1)\n", []int64{5, 7}, []int64{4, 2}, [][]int64{append([]int64{5, 3}, zeros[1:]...), append([]int64{7, 1}, zeros[1:]...)}},
		{"swap 2: x1 | x0\n", []int64{5, 7}, []int64{4, 2}, [][]int64{append([]int64{5, 2}, zeros[1:]...), append([]int64{7, 4}, zeros[1:]...)}},
		{"shear 2: x0 | (x1 + (x0 * x0))\n", []int64{0, 0}, []int64{1, 0}, [][]int64{append([]int64{0, 1}, zeros[1:]...), append([]int64{0, 0, impl.P - 1}, zeros[2:]...)}},
		{"cond 1: if((x0 - 2); (3 * x0); (x0 * x0))\n", []int64{2}, []int64{3}, [][]int64{append([]int64{2, 1}, zeros[1:]...)}},
		{"cycle 6: x1 | x2 | x3 | x4 | x5 | x0\n", []int64{0, 1, 2, 3, 4, 5}, []int64{6, 7, 8, 9, 10, 11}, [][]int64{{0, 11}, {1, 6}, {2, 7}, {3, 8}, {4, 9}, {5, 10}}},
	} {
		p := reading(t, c.text)
		for order := range int64(len(c.want[0])) {
			sameRows(t, fmt.Sprint(c.text, " from ", c.args), fineRows(t)(impl.InversePath(p, 0, c.args, c.dir, order)), beginnings(c.want, order+1))
		}
		for order := range int64(impl.MaxOrder + 1) {
			if !checkPath(t, inventions(order), p, 0, c.args, c.dir, order) {
				t.Errorf("%s has no path", c.text)
			}
		}
	}
}

// checkPath compares everything that there is for a map that has values, and tells
// whether there is a path.
func checkPath(t *testing.T, v *invention, p impl.Program, f int64, args, dir []int64, order int64) bool {
	t.Helper()
	name := fmt.Sprint("the path of ", brief(textOfProgram(p)), " from ", args, " along ", dir)
	rows := fineRows(t)(impl.JacobianOf(p, f, args))
	x, code := impl.InversePath(p, f, args, dir, order)
	if expanded(rows) == 0 {
		if code != impl.ErrZero || len(x) > 0 {
			t.Errorf("%s: %v with the code %d", name, x, code)
		}
		return false
	}
	same(t, name, column(fineRows(t)(x, code), 0), args)
	line := lineFrom(t, p, f, args, dir, order)
	sameRows(t, "the values on "+name, fineRows(t)(impl.EvaluateSeries(p, f, x)), line)
	lower := v.Int63n(order + 1)
	sameRows(t, "a lower order of "+name, fineRows(t)(impl.InversePath(p, f, args, dir, lower)), beginnings(x, lower+1))
	if order == 0 {
		return true
	}
	same(t, "the slopes times "+name, rowsTimes(rows, column(x, 1)), dir)
	place := 1 + v.Intn(int(order))
	other := changedAt(x, v.Intn(len(x)), place, 1+v.Int63n(impl.P-1))
	if slices.EqualFunc(fineRows(t)(impl.EvaluateSeries(p, f, other)), line, slices.Equal) {
		t.Errorf("%s: %v as well as %v", name, other, x)
	}
	if len(args) == 1 {
		checkReversed(t, p, f, args, dir, x[0])
	}
	return true
}

// lineFrom is the line of the values at args plus dir times t.
func lineFrom(t *testing.T, p impl.Program, f int64, args, dir []int64, order int64) [][]int64 {
	t.Helper()
	values, _, code := impl.Evaluate(p, f, args)
	if code != impl.OK {
		t.Fatalf("the code %d of values", code)
	}
	line := constants(values, order)
	for k := range line {
		line[k] = moved(line[k], timeOf(order), dir[k])
	}
	return line
}

// checkReversed compares a path of one parameter with the reversed Taylor series.
func checkReversed(t *testing.T, p impl.Program, f int64, args, dir, x []int64) {
	t.Helper()
	order := int64(len(x) - 1)
	taylor := fineRows(t)(impl.TaylorOf(p, f, args, []int64{1}, order))[0]
	reversed := fine(t)(impl.ReverseSeries(beginning(taylor, 0)))
	want := fine(t)(impl.ComposeSeries(beginning(reversed, args...), moved(make([]int64, order+1), timeOf(order), dir[0])))
	same(t, "the reversed series", x, want)
}

func TestP21ManyMaps(t *testing.T) {
	counts := map[bool]int{}
	for seed := range int64(500) {
		v := inventions(seed)
		p, f := v.round(seed%3 == 0)
		params := p.Funcs[f].Params
		args, dir, order := v.numbers(params), v.numbers(params), v.Int63n([]int64{4, impl.MaxOrder + 1}[seed%2])
		if v.Intn(4) > 0 {
			for k, out := range p.Funcs[f].Outs {
				p.Funcs[f].Outs[k] = tree(impl.KAdd, out, tree(impl.KMul, num(1+v.Int63n(5)), variable(int64(k))))
			}
		}
		if _, _, code := impl.Evaluate(p, f, args); code != impl.OK {
			x, other := impl.InversePath(p, f, args, dir, order)
			if other != code || len(x) > 0 {
				t.Errorf("%v with the code %d, want %d", x, other, code)
			}
			continue
		}
		counts[checkPath(t, v, p, f, args, dir, order)]++
	}
	if counts[true] < 200 || counts[false] < 40 {
		t.Errorf("so many maps have a path: %v", counts)
	}
}

// TestP21InverseMaps has maps together with their inverse, which leads the line to the
// path.
func TestP21InverseMaps(t *testing.T) {
	p := reading(t, "f 2: (x0 + (x1 * x1)) | x1\ng 2: (x0 - (x1 * x1)) | x1\nh 3: f.0(x0; x1) | f.1(x0; x1) | (x2 + (x0 * x1))\nk 3: g.0(x0; x1) | x1 | (x2 - (g.0(x0; x1) * x1))\nm 1: ((x0 + 1) / (x0 + 2))\nn 1: (((2 * x0) - 1) / (1 - x0))\n")
	for seed := range int64(60) {
		v := inventions(seed)
		order := v.Int63n(impl.MaxOrder + 1)
		for f := int64(0); f < 6; f += 2 {
			params := p.Funcs[f].Params
			args, dir := v.numbers(params), v.numbers(params)
			want := fineRows(t)(impl.EvaluateSeries(p, f+1, lineFrom(t, p, f, args, dir, order)))
			sameRows(t, fmt.Sprint("the path of the map ", f), fineRows(t)(impl.InversePath(p, f, args, dir, order)), want)
		}
	}
}

// TestP21SingularMaps have a determinant of 0, also where there would be a path.
func TestP21SingularMaps(t *testing.T) {
	for _, c := range []struct {
		text string
		args []int64
	}{
		{"f 1: (x0 * x0)\n", []int64{0}}, {"f 1: 3\n", []int64{2}}, {"f 1: (x0 - x0)\n", []int64{2}}, {"f 1: if(x0; 0; x0)\n", []int64{0}}, {"f 2: (x0 + x1) | ((x0 + x1) * 5)\n", []int64{1, 2}},
		{"f 2: (x0 * x1) | x1\n", []int64{4, 0}}, {"f 3: x0 | x1 | 0\n", []int64{1, 2, 3}}, {"f 6: x0 | x1 | x2 | x3 | x4 | x4\n", constant(5, 1)},
	} {
		p := reading(t, c.text)
		for order := range int64(impl.MaxOrder + 1) {
			for _, dir := range [][]int64{make([]int64, len(c.args)), constant(len(c.args)-1, 1)} {
				x, code := impl.InversePath(p, 0, c.args, dir, order)
				if code != impl.ErrZero || len(x) > 0 {
					t.Errorf("%s: %v with the code %d", c.text, x, code)
				}
			}
		}
	}
}
