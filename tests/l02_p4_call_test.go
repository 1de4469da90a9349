package tests

import (
	"maps"
	"regexp"
	"slices"
	"testing"

	"loop.example/g01091/impl"
)

func TestP4FuncNamed(t *testing.T) {
	for funcs := range impl.MaxFuncs + 1 {
		p := inventions(int64(funcs)).program(funcs)
		for _, name := range append(names(), "", "?", "q", "F") {
			want := slices.IndexFunc(p.Funcs, func(f impl.Func) bool { return f.Name == name })
			f, code := impl.FuncNamed(p, name)
			if want < 0 && (f != 0 || code != impl.ErrNotFound) || want >= 0 && (f != int64(want) || code != impl.OK) {
				t.Errorf("%q: the function %d with the code %d, want %d", name, f, code, want)
			}
		}
	}
	invalid := program(function("f", 0, num(1)), function("f", 0, num(1)))
	for _, name := range []string{"f", "g", ""} {
		if f, code := impl.FuncNamed(invalid, name); f != 0 || code != impl.ErrInvalid {
			t.Errorf("%q: the function %d with the code %d", name, f, code)
		}
	}
}

func TestP4CallsOfSomeFunctions(t *testing.T) {
	p := reading(t, "a 0: 1\nb 1: a.0()\nc 1: x0\nd 1: c.0^0(b.0(x0))\ne 0: 1 | let(1; if(0; (2 + neg(a.0())); 1))\ng 1: d.0(1)\nh 1: g.0(c.0(1)) | e.1()\n")
	for f, want := range [][]int64{{}, {0}, {}, {0, 1, 2}, {0}, {0, 1, 2, 3}, {0, 1, 2, 3, 4, 5}} {
		have, code := impl.CallsOf(p, int64(f))
		if code != impl.OK {
			t.Errorf("the code %d", code)
		}
		same(t, p.Funcs[f].Name, have, want)
	}
	have, code := impl.CallsOf(reading(t, exampleText), 1)
	if code != impl.OK {
		t.Errorf("the code %d", code)
	}
	same(t, "the example", have, []int64{0})
}

func TestP4CallsOfErrors(t *testing.T) {
	p := reading(t, exampleText)
	invalid := program(function("f", 0))
	for _, f := range outside(2) {
		have, code := impl.CallsOf(p, f)
		refused(t, "no function", have, code, impl.ErrRange)
		have, code = impl.CallsOf(invalid, f)
		refused(t, "an invalid program", have, code, impl.ErrInvalid)
	}
	have, code := impl.CallsOf(impl.Program{}, 0)
	refused(t, "no functions", have, code, impl.ErrRange)
}

// calledName is how the text of a call or of a loop begins.
var calledName = regexp.MustCompile(`[a-z][a-z0-9]*\.`)

// callsIn adds the functions that are called for a function, after its text.
func callsIn(p impl.Program, f int64, set map[int64]bool) {
	for _, out := range p.Funcs[f].Outs {
		for _, name := range calledName.FindAllString(textOf(p, out), -1) {
			g := int64(slices.IndexFunc(p.Funcs, func(f impl.Func) bool { return f.Name+"." == name }))
			set[g] = true
			callsIn(p, g, set)
		}
	}
}

func TestP4CallsOfManyFunctions(t *testing.T) {
	for seed := range int64(60) {
		p := inventions(seed).program(6)
		for f := range int64(6) {
			set := map[int64]bool{}
			callsIn(p, f, set)
			have, code := impl.CallsOf(p, f)
			if code != impl.OK {
				t.Errorf("the code %d", code)
			}
			same(t, textOfProgram(p), have, slices.Sorted(maps.Keys(set)))
		}
	}
}
