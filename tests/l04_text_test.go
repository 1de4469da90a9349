package tests

import (
	"math"
	"slices"
	"strings"
	"testing"

	"loop.example/g01091/impl"
)

// exampleTape is the tape of the example of chapter 4.
const exampleTape = "tape 2\nin 0\nin 1\nmul 0 0\nadd 2 1\nmul 1 1\nmul 4 4\nout 3 5\n"

// textsOfTapes are tapes with each instruction and each guard.
func textsOfTapes() map[string]impl.Tape {
	in, num := tapeIn, tapeNum
	return map[string]impl.Tape{
		exampleTape:              {Inputs: 2, Code: []impl.Instr{in(0), in(1), tapeOf(impl.OpMul, 0, 0), tapeOf(impl.OpAdd, 2, 1), tapeOf(impl.OpMul, 1, 1), tapeOf(impl.OpMul, 4, 4)}, Outs: []int64{3, 5}},
		"tape 0\nnum 0\nout 0\n": {Code: []impl.Instr{num(0)}, Outs: []int64{0}},
		"tape 12\nin 11\nnum 1000002\nsub 1 0\nout 2 2 0\n":     {Inputs: 12, Code: []impl.Instr{in(11), num(1000002), tapeOf(impl.OpSub, 1, 0)}, Outs: []int64{2, 2, 0}},
		"tape 1\nin 0\nneg 0\ndiv 1 0\nneg 2\nout 3\n":          {Inputs: 1, Code: []impl.Instr{in(0), tapeOf(impl.OpNeg, 0, 0), tapeOf(impl.OpDiv, 1, 0), tapeOf(impl.OpNeg, 2, 0)}, Outs: []int64{3}},
		"tape 1\nin 0\nin 0\nzero 1\nother 0\nzero 1\nout 1\n":  {Inputs: 1, Code: []impl.Instr{in(0), in(0)}, Guards: []impl.Guard{{Reg: 1, Zero: true}, {Reg: 0}, {Reg: 1, Zero: true}}, Outs: []int64{1}},
		"tape 3\nnum 7\nother 0\nout 0 0 0 0 0 0 0 0 0 0 0 0\n": {Inputs: 3, Code: []impl.Instr{num(7)}, Guards: []impl.Guard{{}}, Outs: make([]int64, 12)},
	}
}

func TestP7TextsOfTapes(t *testing.T) {
	for text, tape := range textsOfTapes() {
		if have := impl.TapeText(tape); have != text || textOfTape(tape) != text {
			t.Errorf("the text of %v is %q, want %q", tape, have, text)
		}
		if have := taped(t, text); !impl.SameTape(have, tape) || !impl.ValidTape(have) {
			t.Errorf("%q is read as %v", text, have)
		}
	}
}

func TestP7TextsOfManyTapes(t *testing.T) {
	for seed := range int64(300) {
		v := inventions(seed)
		tape := v.tape(v.Int63n(impl.MaxParams+1), 1+v.Intn(60))
		text := textOfTape(tape)
		if have := impl.TapeText(tape); have != text {
			t.Fatalf("the text is %q, want %q", have, text)
		}
		sameTapes(t, text, taped(t, text), tape)
		for range 40 {
			checkChangedTape(t, v, text)
		}
	}
}

// checkChangedTape changes a byte of the text of a tape, takes it off or adds one: what
// is still read has just this text.
func checkChangedTape(t *testing.T, v *invention, text string) {
	t.Helper()
	at, other := v.Intn(len(text)), string("0123456789 \n-+aeginortuvz\r\t\x00\xff"[v.Intn(29)])
	changed := text[:at] + other + text[at+v.Intn(2):]
	if v.Intn(3) == 0 {
		changed = text[:at] + text[at+1:]
	}
	tape, line, code := impl.ReadTape(changed)
	switch code {
	case impl.OK:
		if line != 0 || impl.TapeText(tape) != changed {
			t.Errorf("%q is read as %v", changed, tape)
		}
	case impl.ErrSyntax:
		if line < 1 || line > int64(strings.Count(changed, "\n"))+1 || !impl.SameTape(tape, impl.Tape{}) {
			t.Errorf("%q has a fault in the line %d", changed, line)
		}
	default:
		if code != impl.ErrInvalid || line != 0 || !impl.SameTape(tape, impl.Tape{}) {
			t.Errorf("%q: %v in the line %d with the code %d", changed, tape, line, code)
		}
	}
}

func TestP7TapeTextOfInvalid(t *testing.T) {
	for _, tape := range invalidTapes() {
		if have := impl.TapeText(tape); have != "" {
			t.Errorf("the text of %s is %s", brief(tape), brief(have))
		}
	}
}

// refuseTape fails the test unless a text is that of no tape.
func refuseTape(t *testing.T, text string, wanted, want int64) {
	t.Helper()
	tape, line, code := impl.ReadTape(text)
	if code != want || line != wanted || !impl.SameTape(tape, impl.Tape{}) {
		t.Errorf("%q: %s in the line %d with the code %d, want the line %d with the code %d", brief(text), brief(tape), line, code, wanted, want)
	}
}

// TestP7FaultyLines has each faulty line in place of an instruction that is the
// third line, and as the third line ahead of others and without a newline.
func TestP7FaultyLines(t *testing.T) {
	for _, line := range []string{
		"", " ", "in", "in ", " in 0", "in  0", "in 0 ", "in\t0", "in 0\r", "in 0 0", "in -1", "in +1", "in 00", "in 01", "in 0000000001", "in 1000000000", "in 9999999999", "in 18446744073709551616", "in x", "in 0x0", "in 1e0", "in 1.", "in \u0661", "In 0", "IN 0", "ins 0", "i 0", "0 in", "0",
		"num", "num ", "num 1 1", "num -1", "num 012", "num 1234567890", "nums 1", "number 1", "num1",
		"add", "add 0", "add 0 0 0", "add 0  0", "add 0 0 ", "add  0 0", "add -0 0", "add 0 00", "add 0 0000000000", "add 0 1000000000", "add 0,0", "add 0+0", "add 0\x000",
		"sub 0", "sub 0 0 0", "sub 0 -1", "mul 0", "mul 0 0 0", "mul 0 0.", "div 0", "div 0 0 0", "div 0 a", "neg", "neg 0 0", "neg -1", "neg 00", "neg 0\v", "neg 0 ", "pow 0 0", "xor 0 0", "nop", "#",
		"zero", "zero 0 0", "zero -1", "zero 01", "zero 0 ", "other", "other 0 0", "other  0", "other 1000000000", "one 0", "zeros 0", "guard 0",
		"tape", "tape 1", "tape 2", "tape 0 0", "out", "out ", "out  0", "out 0 ", "out 00", "out -1", "out 0 00", "out 0 1000000000", "out 0  0", "outs 0", "out 0,0", "out\t0",
	} {
		head, tail := "tape 1\nin 0\n", "in 0\nout 0\n"
		refuseTape(t, head+line+"\n"+tail, 3, impl.ErrSyntax)
		refuseTape(t, head+line+"\n", 3, impl.ErrSyntax)
		if line != "" {
			refuseTape(t, head+line, 3, impl.ErrSyntax)
		}
		refuseTape(t, head+"zero 0\n"+line+"\nout 0\n", 4, impl.ErrSyntax)
		if line != "tape 1" && line != "tape 2" {
			refuseTape(t, line+"\n"+head+tail, 1, impl.ErrSyntax)
		}
		refuseTape(t, head+tail+line+"\n", 5, impl.ErrSyntax)
	}
}

// TestP7LinesInOtherPlaces has lines that are right where they may not be.
func TestP7LinesInOtherPlaces(t *testing.T) {
	for _, c := range []struct {
		text string
		line int64
	}{
		{"", 1}, {"\n", 1}, {"\n\n", 1}, {"tape 0", 1}, {"tape", 1}, {"tape 0\n", 2}, {"tape 1\nin 0\n", 3}, {"tape 1\nin 0\nzero 0\n", 4}, {"tape 0\nzero 0\n", 3},
		{"in 0\nout 0\n", 1}, {"num 1\n", 1}, {"add 0 0\n", 1}, {"neg 0\n", 1}, {"zero 0\n", 1}, {"other 0\n", 1}, {"out 0\n", 1}, {"out 0\ntape 0\n", 1}, {"in 0\ntape 1\nout 0\n", 1},
		{"tape 0\ntape 0\nnum 1\nout 0\n", 2}, {"tape 0\nnum 1\ntape 0\nout 0\n", 3}, {"tape 0\nnum 1\nzero 0\ntape 0\nout 0\n", 4}, {"tape 0\nnum 1\nout 0\ntape 0\n", 4},
		{"tape 1\nin 0\nzero 0\nin 0\nout 0\n", 4}, {"tape 1\nin 0\nother 0\nnum 0\nout 0\n", 4}, {"tape 0\nzero 0\nnum 0\nout 0\n", 3}, {"tape 1\nin 0\nzero 0\nother 0\nneg 0\nout 0\n", 5}, {"tape 1\nin 0\nzero 0\nadd 0 0\n", 4},
		{"tape 1\nin 0\nout 0\nin 0\n", 4}, {"tape 1\nin 0\nout 0\nzero 0\n", 4}, {"tape 1\nin 0\nout 0\nother 0\n", 4}, {"tape 1\nin 0\nout 0\nout 0\n", 4}, {"tape 1\nin 0\nout 0\nmul 0 0\nout 2\n", 4}, {"tape 0\nout 0\nnum 0\n", 3},
		{"tape 1\nin 0\nout 0\n\n", 4}, {"tape 1\nin 0\nout 0\n ", 4}, {"tape 1\nin 0\nout 0\nx", 4}, {"tape 1\nin 0\nout 0\nin", 4}, {"tape 1\nin 0\nout 0\n\x00", 4}, {"tape 1\nin 0\nout 0\nout 0", 4},
		{"tape 1\nin 0\nout 0", 3}, {"tape 1\nin 0\nout 0\r", 3}, {"tape 1\nin 0\nzero 0", 3}, {"tape 1\nin 0", 2}, {"tape 1\n\nin 0\nout 0\n", 2}, {"\ntape 1\nin 0\nout 0\n", 1}, {"tape 1\nin 0\n\nout 0\n", 3}, {"tape 1\r\nin 0\r\nout 0\r\n", 1},
		{"tape 1 in 0 out 0\n", 1}, {"tape 1\nin 0 out 0\n", 2}, {"tape -1\nin 0\nout 0\n", 1}, {"tape 01\nin 0\nout 0\n", 1}, {"tape 1000000000\nin 0\nout 0\n", 1}, {"tape \nin 0\nout 0\n", 1}, {" tape 1\nin 0\nout 0\n", 1}, {"Tape 1\nin 0\nout 0\n", 1}, {"tape 1 1\nin 0\nout 0\n", 1},
		{"tape 1\nin 0\nx\ny\nout 0", 3}, {"tape 99\nin 99\nx\nout 9\n", 3}, {"tape 99\nin 99\nout 9", 3}, {"tape 99\nin 99\n", 3},
	} {
		refuseTape(t, c.text, c.line, impl.ErrSyntax)
	}
}

// TestP7TextsWhoseTapesAreNotValid have lines that are right.
func TestP7TextsWhoseTapesAreNotValid(t *testing.T) {
	for _, text := range []string{
		"tape 13\nnum 0\nout 0\n", "tape 999999999\nnum 0\nout 0\n", "tape 0\nin 0\nout 0\n", "tape 1\nin 1\nout 0\n", "tape 1\nin 999999999\nout 0\n",
		"tape 0\nnum 1000003\nout 0\n", "tape 0\nnum 999999999\nout 0\n", "tape 0\nout 0\n", "tape 0\nzero 0\nout 0\n", "tape 0\nnum 1\nzero 1\nout 0\n", "tape 0\nnum 1\nother 999999999\nout 0\n",
		"tape 0\nnum 1\nout 1\n", "tape 0\nnum 1\nout 0 1\n", "tape 0\nnum 1\nout 999999999 0\n", "tape 0\nnum 1\nout 0 0 0 0 0 0 0 0 0 0 0 0 0\n",
		"tape 0\nadd 0 0\nout 0\n", "tape 0\nnum 1\nadd 0 1\nout 1\n", "tape 0\nnum 1\nadd 1 0\nout 1\n", "tape 0\nnum 1\nsub 2 0\nout 1\n", "tape 0\nnum 1\nmul 0 2\nout 1\n", "tape 0\nnum 1\ndiv 0 1\nout 1\n", "tape 0\nneg 0\nout 0\n", "tape 0\nnum 1\nneg 1\nout 1\n", "tape 0\nneg 1\nnum 1\nout 1\n",
		"tape 0\n" + strings.Repeat("num 1\n", impl.MaxTape+1) + "out 0\n", "tape 0\nnum 1\n" + strings.Repeat("zero 0\n", impl.MaxTape+1) + "out 0\n", "tape 0\nnum 1\nout" + strings.Repeat(" 0", 20000) + "\n",
	} {
		refuseTape(t, text, 0, impl.ErrInvalid)
	}
	for _, text := range []string{"tape 0\n" + strings.Repeat("num 1\n", impl.MaxTape) + "out 3199\n", "tape 0\nnum 1\n" + strings.Repeat("zero 0\n", impl.MaxTape) + "out 0\n"} {
		if tape := taped(t, text); impl.TapeText(tape) != text {
			t.Errorf("%s is read as %s", brief(text), brief(tape))
		}
	}
}

// TestP7LongTexts has texts of exactly 50000 bytes, and longer ones.
func TestP7LongTexts(t *testing.T) {
	const most = 50000
	text := "tape 0\n" + strings.Repeat("num 1000002\n", impl.MaxTape) + "zero 0\nzero 12\n" + strings.Repeat("other 3199\n", 1052) + "out 0\n"
	if len(text) != most {
		t.Fatalf("%d bytes", len(text))
	}
	tape := taped(t, text)
	if impl.TapeText(tape) != text || len(tape.Code) != impl.MaxTape || len(tape.Guards) != 1054 {
		t.Error("a text of 50000 bytes is read as another one")
	}
	longer := strings.Replace(text, "zero 0\n", "other 0\n", 1)
	refuseTape(t, longer, 0, impl.ErrRange)
	tape.Guards[0].Zero = false
	if !impl.ValidTape(tape) || impl.TapeText(tape) != longer {
		t.Error("the text of a tape may have more than 50000 bytes")
	}
	invalid := strings.Replace(text, "zero 12\n", "zero 3200\n", 1)
	refuseTape(t, invalid[:len(invalid)-2]+"\n", 0, impl.ErrRange)
	refuseTape(t, strings.Replace(invalid, "num 1000002", "num 10000", 1), 0, impl.ErrInvalid)
	for _, part := range []string{"x", "\n", " ", "0", "tape 0\n", "in 0\n", "\xff", "\x00", "out 0"} {
		for _, length := range []int{most - 1, most, most + 1, 1 << 20} {
			long := strings.Repeat(part, length/len(part)+1)[:length]
			if length > most {
				refuseTape(t, long, 0, impl.ErrRange)
			} else if part == "tape 0\n" {
				refuseTape(t, long, 2, impl.ErrSyntax)
			} else {
				refuseTape(t, long, 1, impl.ErrSyntax)
			}
		}
	}
	refuseTape(t, "tape 0\nnum 0\nout"+strings.Repeat(" 0", (most-17)/2), 3, impl.ErrSyntax)
	refuseTape(t, text[:most-1], 4256, impl.ErrSyntax)
	refuseTape(t, text[:most-6], 4256, impl.ErrSyntax)
}

// TestP7ReadTapeTakesJustTheTextsOfTapes has all texts of some lines.
func TestP7ReadTapeTakesJustTheTextsOfTapes(t *testing.T) {
	lines := []string{"tape 1\n", "in 0\n", "num 3\n", "add 0 1\n", "neg 0\n", "zero 1\n", "other 0\n", "out 0\n", "out 1 0\n", "\n", "in 1\n"}
	taken := 0
	var each func(text string, left int)
	each = func(text string, left int) {
		tape, line, code := impl.ReadTape(text)
		wanted, want := readingOfLines(strings.SplitAfter(text, "\n"))
		if code != want || line != wanted || code == impl.OK && impl.TapeText(tape) != text {
			t.Fatalf("%q: %v in the line %d with the code %d, want the line %d with the code %d", text, tape, line, code, wanted, want)
		}
		if code == impl.OK {
			taken++
		}
		for _, next := range lines {
			if left > 0 {
				each(text+next, left-1)
			}
		}
	}
	each("", 5)
	if taken < 50 {
		t.Errorf("%d texts are taken", taken)
	}
}

// readingOfLines is the line and the code that ReadTape returns for lines like the
// above, which end with a newline. The last element is empty.
func readingOfLines(lines []string) (int64, int64) {
	parts := "" // what has been read: t for the head, i for instructions, g for guards, o for the outs
	valid := true
	registers := 0
	for k, line := range lines[:len(lines)-1] {
		word, _, _ := strings.Cut(strings.TrimSuffix(line, "\n"), " ")
		part := map[string]string{"tape": "t", "in": "i", "num": "i", "add": "i", "neg": "i", "zero": "g", "other": "g", "out": "o"}[word]
		allowed := map[string]string{"": "t", "t": "igo", "i": "igo", "g": "go", "o": ""}[parts]
		if part == "" || !strings.Contains(allowed, part) {
			return int64(k) + 1, impl.ErrSyntax
		}
		parts = part
		switch line {
		case "in 1\n":
			valid = false
		case "add 0 1\n":
			valid = valid && registers >= 2
		case "neg 0\n", "other 0\n", "out 0\n":
			valid = valid && registers >= 1
		case "zero 1\n", "out 1 0\n":
			valid = valid && registers >= 2
		}
		if part == "i" {
			registers++
		}
	}
	if parts != "o" {
		return int64(len(lines)), impl.ErrSyntax
	}
	if !valid {
		return 0, impl.ErrInvalid
	}
	return 0, impl.OK
}

// invalidTapes are tapes that are wrong in one place.
func invalidTapes() []impl.Tape {
	valid := impl.Tape{Inputs: 2, Code: []impl.Instr{tapeIn(0), tapeIn(1), tapeNum(5), tapeOf(impl.OpAdd, 0, 1), tapeOf(impl.OpSub, 1, 2), tapeOf(impl.OpMul, 3, 3), tapeOf(impl.OpDiv, 5, 0), tapeOf(impl.OpNeg, 6, 0)}, Guards: []impl.Guard{{Reg: 0}, {Reg: 7, Zero: true}}, Outs: []int64{7, 0}}
	var list []impl.Tape
	change := func(change func(tape *impl.Tape)) {
		tape := copyOfTape(valid)
		change(&tape)
		list = append(list, tape)
	}
	for _, n := range []int64{-1, 1, 0, 13, 14, math.MaxInt64, math.MinInt64} {
		change(func(tape *impl.Tape) { tape.Inputs = n })
	}
	for k, instr := range valid.Code {
		for _, faulty := range faultyInstrs(instr, int64(k), valid.Inputs) {
			change(func(tape *impl.Tape) { tape.Code[k] = faulty })
		}
	}
	for _, register := range outside(8) {
		change(func(tape *impl.Tape) { tape.Guards[0].Reg = register })
		change(func(tape *impl.Tape) { tape.Guards[1].Reg = register })
		change(func(tape *impl.Tape) { tape.Outs[0] = register })
		change(func(tape *impl.Tape) { tape.Outs[1] = register })
	}
	change(func(tape *impl.Tape) { tape.Outs = nil })
	change(func(tape *impl.Tape) { tape.Outs = []int64{} })
	change(func(tape *impl.Tape) { tape.Outs = make([]int64, impl.MaxParams+1) })
	change(func(tape *impl.Tape) { tape.Code = nil })
	change(func(tape *impl.Tape) { tape.Code = append(tape.Code, make([]impl.Instr, 1)...) })
	change(func(tape *impl.Tape) {
		tape.Code = append(tape.Code, slices.Repeat([]impl.Instr{tapeIn(1)}, impl.MaxTape-7)...)
	})
	change(func(tape *impl.Tape) { tape.Guards = make([]impl.Guard, impl.MaxTape+1) })
	return append(list, impl.Tape{}, impl.Tape{Outs: []int64{0}}, impl.Tape{Code: []impl.Instr{tapeNum(1)}})
}

// faultyInstrs are copies of an instruction that are wrong in one field.
func faultyInstrs(instr impl.Instr, before, inputs int64) []impl.Instr {
	var list []impl.Instr
	for _, faulty := range []int64{-1, 1, 4, 1 << 40, math.MinInt64} {
		if operands(instr.Op) < 1 {
			list = append(list, impl.Instr{Op: instr.Op, A: faulty, Num: instr.Num})
		}
		if operands(instr.Op) < 2 {
			list = append(list, impl.Instr{Op: instr.Op, A: instr.A, B: faulty, Num: instr.Num})
		}
		if operands(instr.Op) > 0 {
			list = append(list, impl.Instr{Op: instr.Op, A: instr.A, B: instr.B, Num: faulty})
		}
	}
	for _, faulty := range outside(before) {
		if operands(instr.Op) > 0 {
			list = append(list, impl.Instr{Op: instr.Op, A: faulty, B: instr.B})
		}
		if operands(instr.Op) > 1 {
			list = append(list, impl.Instr{Op: instr.Op, A: instr.A, B: faulty})
		}
	}
	most := map[int64]int64{impl.OpIn: inputs, impl.OpNum: impl.P}[instr.Op]
	for _, faulty := range outside(most) {
		if operands(instr.Op) == 0 {
			list = append(list, impl.Instr{Op: instr.Op, Num: faulty})
		}
	}
	for _, op := range []int64{0, -1, 8, 9, 1<<32 + instr.Op, math.MaxInt64, math.MinInt64} {
		list = append(list, impl.Instr{Op: op, A: instr.A, B: instr.B, Num: instr.Num})
	}
	return list
}

func TestP7ValidTapes(t *testing.T) {
	for _, tape := range invalidTapes() {
		if impl.ValidTape(tape) {
			t.Errorf("%s is taken for valid", brief(tape))
		}
	}
	for _, tape := range textsOfTapes() {
		if !impl.ValidTape(tape) {
			t.Errorf("%v is not valid", tape)
		}
	}
	for _, tape := range largestTapes() {
		if !impl.ValidTape(tape) {
			t.Errorf("%s is not valid", brief(tape))
		}
	}
}

// largestTapes reach limits exactly.
func largestTapes() []impl.Tape {
	var inputs []impl.Instr
	for k := range int64(impl.MaxParams) {
		inputs = append(inputs, tapeIn(k))
	}
	long := slices.Clone(inputs)
	for k := int64(impl.MaxParams); k < impl.MaxTape; k++ {
		long = append(long, tapeOf(impl.OpAdd+k%5, k-1, (k-k%12)*((k+1)%5)/5))
		if long[k].Op == impl.OpNeg {
			long[k].B = 0
		}
	}
	outs := []int64{3199, 0, 0, 3199, 1600, 11, 12, 13, 14, 15, 16, 17}
	return []impl.Tape{
		{Inputs: impl.MaxParams, Code: inputs, Outs: make([]int64, impl.MaxParams)},
		{Code: []impl.Instr{tapeNum(0)}, Guards: make([]impl.Guard, impl.MaxTape), Outs: []int64{0}},
		{Inputs: impl.MaxParams, Code: long, Outs: outs},
		{Inputs: impl.MaxParams, Code: long, Guards: slices.Repeat([]impl.Guard{{Reg: impl.MaxTape - 1}}, impl.MaxTape), Outs: outs},
	}
}

func TestP7SameTapes(t *testing.T) {
	valid := invalidTapes()
	for _, tape := range textsOfTapes() {
		valid = append(valid, tape)
	}
	for i, a := range valid {
		for k, b := range valid {
			want := i == k || textOfAnything(a) == textOfAnything(b)
			if impl.SameTape(a, b) != want || impl.SameTape(a, copyOfTape(b)) != want {
				t.Errorf("SameTape of %s and %s is not %v", brief(a), brief(b), want)
			}
		}
	}
	empty := impl.Tape{Code: []impl.Instr{}, Guards: []impl.Guard{}, Outs: []int64{}}
	if !impl.SameTape(empty, impl.Tape{}) || !impl.SameTape(impl.Tape{}, empty) {
		t.Error("empty lists are not those that are nil")
	}
	base := tapeWith(1, []impl.Instr{instr(1, 2, 3, 4)}, []impl.Guard{guard(5, true)}, 6)
	for _, other := range []impl.Tape{
		tapeWith(2, base.Code, base.Guards, 6), tapeWith(1, nil, base.Guards, 6), tapeWith(1, base.Code, nil, 6), tapeWith(1, base.Code, base.Guards),
		tapeWith(1, []impl.Instr{instr(0, 2, 3, 4)}, base.Guards, 6), tapeWith(1, []impl.Instr{instr(1, 0, 3, 4)}, base.Guards, 6), tapeWith(1, []impl.Instr{instr(1, 2, 0, 4)}, base.Guards, 6), tapeWith(1, []impl.Instr{instr(1, 2, 3, 0)}, base.Guards, 6),
		tapeWith(1, base.Code, []impl.Guard{guard(0, true)}, 6), tapeWith(1, base.Code, []impl.Guard{guard(5, false)}, 6), tapeWith(1, base.Code, base.Guards, 0), tapeWith(1, base.Code, base.Guards, 6, 0),
	} {
		if impl.SameTape(base, other) || impl.SameTape(other, base) {
			t.Errorf("%v and %v are taken for the same", base, other)
		}
	}
}

// textOfAnything tells tapes apart that need not be valid.
func textOfAnything(tape impl.Tape) string {
	return contents(tape, []int64{tape.Inputs, int64(len(tape.Code)), int64(len(tape.Guards)), int64(len(tape.Outs))})
}
