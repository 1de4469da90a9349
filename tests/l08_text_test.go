package tests

import (
	"fmt"
	"slices"
	"strconv"
	"strings"
	"testing"

	"loop.example/g01091/impl"
)

// actWords are the words of acts, with the number of A and B in their texts and whether
// there are Numbers.
func actWords() map[int64]struct {
	word    string
	fields  int
	numbers bool
} {
	return map[int64]struct {
		word    string
		fields  int
		numbers bool
	}{
		impl.AcGive: {"give", 2, false}, impl.AcWork: {"work", 1, false}, impl.AcDeliver: {"deliver", 1, false}, impl.AcCopy: {"copy", 1, false}, impl.AcDrop: {"drop", 1, false},
		impl.AcDown: {"down", 1, false}, impl.AcCrash: {"crash", 1, false}, impl.AcSync: {"sync", 0, false}, impl.AcPoint: {"point", 0, true}, impl.AcTerm: {"term", 1, true},
	}
}

// actSlowly is the act with a text, if there is one.
func actSlowly(text string) (impl.Act, bool) {
	words := strings.Split(text, " ")
	var numbers []int64
	for _, word := range words[1:] {
		number, err := strconv.ParseInt(word, 10, 64)
		if err != nil || fmt.Sprint(number) != word || number < 0 || number >= impl.P {
			return impl.Act{}, false
		}
		numbers = append(numbers, number)
	}
	for kind, form := range actWords() {
		if form.word != words[0] || len(numbers) < form.fields || !form.numbers && len(numbers) > form.fields || len(numbers) > form.fields+12 {
			continue
		}
		fields := append(slices.Clone(numbers[:form.fields]), 0, 0)
		return impl.Act{Kind: kind, A: fields[0], B: fields[1], Numbers: numbers[form.fields:]}, max(fields[0], fields[1]) <= impl.MaxJournal
	}
	return impl.Act{}, false
}

// checkActText compares the act with a text, and the text of this act, and returns
// whether there is one.
func checkActText(t *testing.T, text string) bool {
	t.Helper()
	want, is := actSlowly(text)
	have, code := impl.ReadAct(text)
	if !is {
		want = impl.Act{}
	}
	if is != (code == impl.OK) || !is && code != impl.ErrSyntax || fmt.Sprint(have) != fmt.Sprint(want) {
		t.Errorf("%q: %v with the code %d, want %v", text, have, code, want)
	}
	if is && impl.ActText(have) != text {
		t.Errorf("%q: the text of the act is %q", text, impl.ActText(have))
	}
	return is
}

func TestP27TextsOfActsByHand(t *testing.T) {
	for text, want := range map[string]impl.Act{
		"give 0 0": {Kind: impl.AcGive}, "give 1 2": {Kind: impl.AcGive, A: 1, B: 2}, "give 6000 6000": {Kind: impl.AcGive, A: 6000, B: 6000}, "work 3": {Kind: impl.AcWork, A: 3}, "deliver 11": {Kind: impl.AcDeliver, A: 11}, "copy 0": {Kind: impl.AcCopy}, "drop 5": {Kind: impl.AcDrop, A: 5}, "down 1": {Kind: impl.AcDown, A: 1},
		"crash 6000": {Kind: impl.AcCrash, A: 6000}, "sync": {Kind: impl.AcSync}, "point": {Kind: impl.AcPoint}, "point 0": {Kind: impl.AcPoint, Numbers: []int64{0}}, "point 1000002 7": {Kind: impl.AcPoint, Numbers: []int64{1000002, 7}}, "term 2": {Kind: impl.AcTerm, A: 2}, "term 1 6": {Kind: impl.AcTerm, A: 1, Numbers: []int64{6}},
		"point 1 2 3 4 5 6 7 8 9 10 11 12": {Kind: impl.AcPoint, Numbers: []int64{1, 2, 3, 4, 5, 6, 7, 8, 9, 10, 11, 12}}, "term 0 1 2 3 4 5 6 7 8 9 10 11 12": {Kind: impl.AcTerm, Numbers: []int64{1, 2, 3, 4, 5, 6, 7, 8, 9, 10, 11, 12}},
	} {
		sameText(t, "the text", impl.ActText(want), text)
		have, code := impl.ReadAct(text)
		sameText(t, text, results(have, code), results(want, impl.OK))
	}
	for _, text := range []string{
		"", " ", "give", "give 0", "give 0 0 0", "give  0 0", "give 0  0", " give 0 0", "give 0 0 ", "give 00 0", "give 0 01", "give +0 0", "give 0 -1", "give 0 6001", "give 6001 0", "Give 0 0", "gives 0 0", "give0 0", "give,0 0", "give 0\t0", "give 0 0\n", "give 0 x", "give 0 0x1", "give 0 1.0", "give 0 1_0",
		"work", "work 0 0", "work 6001", "deliver", "copy", "drop", "down", "crash", "crash 6001", "crash 9223372036854775808", "crash 18446744073709551616", "sync 0", "sync ", "sync sync", "point 1000003", "point -1", "point  1", "point 1 ", "point 1 2 3 4 5 6 7 8 9 10 11 12 13", "term", "term ", "term 6001", "term 0 1000003", "term 0 1 2 3 4 5 6 7 8 9 10 11 12 13",
		"sum", "finish", "open", "journal", "part 0 0 8 2", "fail 0 0 6", "0", "1 0 0", "\x00", "\xff", "sync\x00", strings.Repeat("0", 1<<20), strings.Repeat(" ", 1<<20), "crash " + strings.Repeat("9", 1<<20), "point" + strings.Repeat(" 1", 1<<20),
	} {
		have, code := impl.ReadAct(text)
		sameText(t, brief(text), results(have, code), results(impl.Act{}, impl.ErrSyntax))
	}
}

// TestP27TextsOfAllActs has acts of all kinds with numbers at the edges.
func TestP27TextsOfAllActs(t *testing.T) {
	edges := []int64{0, 1, 9, 10, 100, 5999, impl.MaxJournal}
	for kind, form := range actWords() {
		for _, a := range edges {
			for _, b := range edges {
				for count := range impl.MaxParams + 1 {
					have := impl.Act{Kind: kind, A: a, B: b, Numbers: constant(count-1, impl.P-1)}
					want := form.word
					for _, number := range append([]int64{a, b}[:form.fields:form.fields], have.Numbers...) {
						want += fmt.Sprint(" ", number)
					}
					if form.fields < 2 && b > 0 || form.fields < 1 && a > 0 || !form.numbers && count > 0 {
						want = ""
					} else if !checkActText(t, want) {
						t.Errorf("%q is not taken for a text", want)
					}
					sameText(t, "the text", impl.ActText(have), want)
				}
			}
		}
	}
}

// TestP27ReadActTakesJustTheTextsOfActs has all short texts made of some words.
func TestP27ReadActTakesJustTheTextsOfActs(t *testing.T) {
	var first []string
	for _, form := range actWords() {
		first = append(first, form.word)
	}
	first = append(first, "", "Sync", "gives", "poin", "7", "sum")
	rest := []string{"0", "7", "6000", "6001", "1000002", "1000003", "00", "07", "+1", "-1", "", "x", "1.0", "99999999999999999999", "give", "1\n"}
	texts := slices.Clone(first)
	for range 3 {
		count := len(texts)
		for _, text := range texts[:count] {
			for _, word := range rest {
				texts = append(texts, text+" "+word)
			}
		}
		slices.Sort(texts)
		texts = slices.Compact(texts)
	}
	found := 0
	for _, text := range texts {
		if checkActText(t, text) {
			found++
		}
	}
	for _, text := range someOf(texts, 2000) {
		if _, is := actSlowly(text); !is {
			continue
		}
		for k := range len(text) + 1 {
			for _, other := range []string{" ", "0", "1", "-", "+", "x", "\n"} {
				checkActText(t, text[:k]+other+text[k:])
				if k < len(text) {
					checkActText(t, text[:k]+other+text[k+1:])
					checkActText(t, text[:k]+text[k+1:])
				}
			}
		}
	}
	if found < 100 {
		t.Errorf("just %d of %d texts are those of acts", found, len(texts))
	}
}

// TestP27ScriptsByHand has scripts with the answers to them.
func TestP27ScriptsByHand(t *testing.T) {
	for _, c := range []struct{ script, want string }{
		{"", ""}, {"\n", "what\n"}, {"\n\n\n", "what\nwhat\nwhat\n"}, {"sum", "error state\n"}, {"sum\n", "error state\n"}, {"sum\n\n", "error state\nwhat\n"}, {"\nsum", "what\nerror state\n"}, {"open", "0 1\n"}, {"journal", "0 0\n"}, {"finish", "ok\n"}, {"sync", "ok\n"},
		{" sum", "what\n"}, {"sum ", "what\n"}, {"Sum", "what\n"}, {"sum\r\n", "what\n"}, {"sums", "what\n"}, {"open 0", "what\n"}, {"journal\t", "what\n"}, {"finish finish", "what\n"}, {"ok", "what\n"}, {"sync 0", "what\n"}, {"give 0", "what\n"}, {"give 00 0", "what\n"}, {"give 0 6001", "what\n"}, {"\x00", "what\n"},
		{"give 0 0\nopen\ngive 1 1\nopen\n", "ok\n1\nok\nnone\n"}, {"give 0 2\n", "error range\n"}, {"give 2 0\n", "error range\n"}, {"give 0 0\ngive 0 0\ngive 0 1", "ok\nerror state\nerror state\n"}, {"work 0\nwork 1\nwork 2\n", "error state\nerror state\nerror range\n"}, {"deliver 0\ncopy 0\ndrop 0\ndown 2\n", "error range\nerror range\nerror range\nerror range\n"}, {"point 3 4\npoint\nterm 0\nterm 2 1", "error range\nerror range\nerror range\nerror range\n"},
		{"finish\nsum\nopen\njournal\n", "ok\n28 7\nnone\n41 0\n"}, {"finish\nsync\njournal\nfinish\njournal", "ok\nok\n41 41\nok\n41 41\n"}, {"finish\ncrash 20\nopen\njournal\nsum\n", "ok\nok\n1\n20 20\nerror state\n"}, {"finish\ncrash 19\nopen\njournal\n", "ok\nok\n0 1\n0 0\n"}, {"point 4\njournal\nsum\nfinish\nsum\njournal\n", "ok\n15 15\nerror state\nok\n35 7\n56 15\n"},
		{"give 0 0\nwork 0\ncopy 0\nopen\nfinish\nsum\n", "ok\nok\nok\n1\nok\n28 7\n"}, {"term 0 0\nfinish\nsum\n", "ok\nok\n20 5\n"}, {"finish\npoint 3\nsum\nopen\n", "ok\nok\n28 7\nnone\n"}, {"finish\npoint 0\nopen\nfinish\nsum\n", "ok\nok\n0 1\nok\n7 7\n"},
	} {
		text, code := impl.RunScript(exampleJob(t), 2, c.script)
		sameText(t, fmt.Sprintf("%q", c.script), results(text, code), results(c.want, impl.OK))
	}
	p := reading(t, serviceText)
	for _, c := range []struct {
		j            impl.Job
		script, want string
	}{
		{jobOn(p, 6, nil, nil, nil), "sum\nfinish\nsum\nopen\njournal", "error state\nok\n14\nnone\n35 0\n"}, {jobOn(p, 6, nil), "sum\nopen\nfinish\njournal", "0\nnone\nok\n0 0\n"}, {jobOn(p, 1, []int64{3, 2}), "sum\npoint 1 1\nsum", "0 0 0\nok\n0 0 0\n"}, {jobOn(p, 3, []int64{0}, []int64{1}), "finish\nsum\npoint 1\nopen\nfinish\nsum", "ok\nerror zero\nok\n0\nok\n1 1000002\n"},
		{budgetJob(t, 1), "finish\nsum\n", "ok\nerror budget\n"}, {budgetJob(t, 2, 1), "finish\nsum\n", "ok\nerror zero\n"}, {budgetJob(t, 0, 1), "finish\nsum\nterm 1 0\nfinish\nsum\n", "ok\nerror budget\nok\nok\n18 12\n"},
		{tenTerms(t), "open\ngive 3 0\nopen", "0 1 2 3 4 5 6 7 8 9\nok\n0 1 2 4 5 6 7 8 9\n"}, {tenTerms(t), "give 0 0\ngive 1 0\ngive 2 0\ngive 3 0\ngive 4 0\ngive 5 0\ngive 6 0\ngive 7 0\ngive 8 0\n", strings.Repeat("ok\n", 8) + "error limit\n"},
	} {
		text, code := impl.RunScript(c.j, 1, c.script)
		sameText(t, fmt.Sprintf("%q of %v", c.script, c.j.Terms), results(text, code), results(c.want, impl.OK))
	}
}

// TestP27LongestScripts has scripts of most lines and bytes, and one beyond.
func TestP27LongestScripts(t *testing.T) {
	j := exampleJob(t)
	what := func(lines int) string { return strings.Repeat("what\n", lines) }
	for script, want := range map[string]string{
		strings.Repeat("\n", 60): what(60), strings.Repeat("x\n", 60): what(60), strings.Repeat("x\n", 59) + "x": what(60), strings.Repeat("\n", 59) + "sync": what(59) + "ok\n", strings.Repeat("x", 20000): what(1), strings.Repeat("x", 19999) + "\n": what(1), "open\n" + strings.Repeat(" ", 19995): "0 1\n" + what(1), strings.Repeat("0", 19940) + strings.Repeat("\n", 60): what(60),
		strings.Repeat("\n", 61): "", strings.Repeat("x\n", 60) + "x": "", strings.Repeat("\n", 60) + "sync": "", strings.Repeat("sync\n", 61): "", strings.Repeat("x", 20001): "", strings.Repeat("x", 20000) + "\n": "", strings.Repeat("\n", 20001): "", strings.Repeat("\n", 1<<20): "",
	} {
		code := int64(impl.OK)
		if want == "" {
			code = impl.ErrRange
		}
		text, have := impl.RunScript(j, 1, script)
		sameText(t, brief(script), results(text, have), results(want, code))
	}
}

// TestP27ScriptsThatFillTheJournal cannot be finished, and the net stays as it is then.
func TestP27ScriptsThatFillTheJournal(t *testing.T) {
	out := "(1000002 * x0)"
	for k := 1; k < impl.MaxParams; k++ {
		out = fmt.Sprintf("(%s + (1000002 * x%d))", out, k)
	}
	j := jobOn(reading(t, "f 12: "+out+"\n"), 0, make([]int64, impl.MaxParams), slices.Repeat([][]int64{nil}, 10)...)
	points := strings.Repeat("point"+strings.Repeat(" 1000002", impl.MaxParams)+"\n", 50)
	text, code := impl.RunScript(j, 2, points+"journal\nfinish\njournal\nopen\nsum\ngive 9 1\nopen\n")
	answers := strings.Split(text, "\n")
	length := answers[50]
	want := strings.Repeat("ok\n", 50) + length + "\nerror limit\n" + length + "\n0 1 2 3 4 5 6 7 8 9\nerror state\nok\n0 1 2 3 4 5 6 7 8\n"
	sameText(t, "a journal that is nearly full", results(text, code), results(want, impl.OK))
	if bytes, _, _ := strings.Cut(length, " "); len(bytes) != 4 || bytes+" "+bytes != length {
		t.Errorf("the journal has %s bytes", length)
	}
}

// TestP27ScriptsAreSteps compares the answers with what the other functions return.
func TestP27ScriptsAreSteps(t *testing.T) {
	answers := map[string]int{}
	for seed := range int64(200) {
		v := inventions(seed + 900)
		j, workers := v.job(), 1+v.Int63n(impl.MaxWorkers)
		n := fineNet(t)(impl.NewNet(j, workers))
		script, want := "", ""
		for range impl.MaxLines {
			line, answer := v.scriptLine(t, &n, workers)
			script, want = script+line+"\n", want+answer+"\n"
			answers[strings.Fields(answer)[0]]++
		}
		if v.Intn(2) == 0 {
			script = strings.TrimSuffix(script, "\n")
		}
		text, code := impl.RunScript(j, workers, script)
		sameText(t, fmt.Sprintf("%q", script), results(text, code), results(want, impl.OK))
	}
	for _, answer := range []string{"ok", "error", "what", "none", "0"} {
		if answers[answer] < 100 {
			t.Errorf("so often the answers begin with %v", answers)
		}
	}
}

// scriptLine makes a line of a script that does not end with an empty one, and the answer
// to it, and goes on with the net.
func (v *invention) scriptLine(t *testing.T, n *impl.Net, workers int64) (string, string) {
	t.Helper()
	named := map[int64]string{impl.OK: "ok", impl.ErrRange: "error range", impl.ErrLimit: "error limit", impl.ErrState: "error state", impl.ErrZero: "error zero", impl.ErrBudget: "error budget"}
	spaced := func(list ...any) string { return strings.TrimSuffix(fmt.Sprintln(list...), "\n") }
	blank := func(list []int64) string { return strings.Trim(fmt.Sprint(list), "[]") }
	switch v.Intn(12) {
	case 0:
		sum := totalOf(impl.SumOf(n.Service))
		if sum.code != impl.OK {
			return "sum", named[sum.code]
		}
		return "sum", strings.TrimSpace(spaced(sum.value, blank(sum.grad)))
	case 1:
		open := fine(t)(impl.OpenTerms(n.Service))
		if len(open) == 0 {
			return "open", "none"
		}
		return "open", blank(open)
	case 2:
		return "journal", spaced(len(n.Journal), n.Safe)
	case 3:
		return []string{"x", "sum ", " ", "give", "journals", "0"}[v.Intn(6)], "what"
	case 4:
		if v.Intn(4) == 0 {
			*n = fineNet(t)(impl.FinishNet(*n))
			return "finish", "ok"
		}
	}
	a := v.act(n.Service.Job, workers)
	next, code := impl.StepNet(*n, a)
	if code == impl.OK {
		*n = next
	}
	return impl.ActText(a), named[code]
}
