package tests

import (
	"fmt"
	"slices"
	"strings"
	"testing"

	"loop.example/g01091/impl"
)

// serviceQuestion has arguments for all functions of chapter 8.
type serviceQuestion struct {
	j                    impl.Job
	k, w, workers        int64
	point, numbers       []int64
	s, other             impl.Service
	r                    impl.Report
	n, twin              impl.Net
	a                    impl.Act
	acts                 []impl.Act
	journal, act, script string
}

// serviceFunction is a function of chapter 8 with the faults that its arguments can
// have, in the order in which they are told. The last of its results is its code, if
// it has one.
type serviceFunction struct {
	name   string
	faults []string
	call   func(q serviceQuestion) []any
}

// serviceFunctions are all functions of chapter 8.
func serviceFunctions() []serviceFunction {
	return slices.Concat(jobFunctions(), changingFunctions(), journalFunctions(), netFunctions())
}

// jobFunctions are those of the section Jobs and their parts.
func jobFunctions() []serviceFunction {
	return []serviceFunction{
		{"ValidJob", nil, func(q serviceQuestion) []any { return results(impl.ValidJob(q.j)) }},
		{"PartOf", []string{"j", "k"}, func(q serviceQuestion) []any {
			part, code := impl.PartOf(q.j, q.k)
			return results(part, code)
		}},
		{"TotalOf", []string{"j", "zero"}, func(q serviceQuestion) []any {
			value, grad, code := impl.TotalOf(q.j)
			return results(value, grad, code)
		}},
		{"Untouched", []string{"j", "k", "point"}, func(q serviceQuestion) []any {
			yes, code := impl.Untouched(q.j, q.k, q.point)
			return results(yes, code)
		}},
	}
}

// changingFunctions are those of the section The service.
func changingFunctions() []serviceFunction {
	return []serviceFunction{
		{"NewService", []string{"j"}, func(q serviceQuestion) []any {
			s, code := impl.NewService(q.j)
			return results(s, code)
		}},
		{"ValidService", nil, func(q serviceQuestion) []any { return results(impl.ValidService(q.s)) }},
		{"SameService", nil, func(q serviceQuestion) []any { return results(impl.SameService(q.s, q.other)) }},
		{"IsTrue", nil, func(q serviceQuestion) []any { return results(impl.IsTrue(q.s)) }},
		{"GiveTerm", []string{"s", "k", "w", "given"}, func(q serviceQuestion) []any {
			s, code := impl.GiveTerm(q.s, q.k, q.w)
			return results(s, code)
		}},
		{"LoseWorker", []string{"s", "w"}, func(q serviceQuestion) []any {
			s, code := impl.LoseWorker(q.s, q.w)
			return results(s, code)
		}},
		{"TakeReport", []string{"s", "r"}, func(q serviceQuestion) []any {
			s, taken, code := impl.TakeReport(q.s, q.r)
			return results(s, taken, code)
		}},
		{"ChangePoint", []string{"s", "point", "worn"}, func(q serviceQuestion) []any {
			s, code := impl.ChangePoint(q.s, q.point)
			return results(s, code)
		}},
		{"ChangeTerm", []string{"s", "k", "numbers", "worn"}, func(q serviceQuestion) []any {
			s, code := impl.ChangeTerm(q.s, q.k, q.numbers)
			return results(s, code)
		}},
		{"OpenTerms", []string{"s"}, func(q serviceQuestion) []any {
			list, code := impl.OpenTerms(q.s)
			return results(list, code)
		}},
		{"SumOf", []string{"other", "unknown", "failed"}, func(q serviceQuestion) []any {
			value, grad, code := impl.SumOf(q.other)
			return results(value, grad, code)
		}},
	}
}

// journalFunctions are those of the section The journal.
func journalFunctions() []serviceFunction {
	return []serviceFunction{
		{"Replay", []string{"j", "journal"}, func(q serviceQuestion) []any {
			s, taken, code := impl.Replay(q.j, q.journal)
			return results(s, taken, code)
		}},
	}
}

// netFunctions are those of the section Nets.
func netFunctions() []serviceFunction {
	return []serviceFunction{
		{"NewNet", []string{"j", "workers"}, func(q serviceQuestion) []any {
			n, code := impl.NewNet(q.j, q.workers)
			return results(n, code)
		}},
		{"ValidNet", nil, func(q serviceQuestion) []any { return results(impl.ValidNet(q.n)) }},
		{"SameNet", nil, func(q serviceQuestion) []any { return results(impl.SameNet(q.n, q.twin)) }},
		{"ActText", nil, func(q serviceQuestion) []any { return results(impl.ActText(q.a)) }},
		{"ReadAct", []string{"act"}, func(q serviceQuestion) []any {
			a, code := impl.ReadAct(q.act)
			return results(a, code)
		}},
		{"StepNet", []string{"n", "a"}, func(q serviceQuestion) []any {
			n, code := impl.StepNet(q.n, q.a)
			return results(n, code)
		}},
		{"RunNet", []string{"n", "acts", "many"}, func(q serviceQuestion) []any {
			n, made, code := impl.RunNet(q.n, q.acts)
			return results(n, made, code)
		}},
		{"FinishNet", []string{"n"}, func(q serviceQuestion) []any {
			n, code := impl.FinishNet(q.n)
			return results(n, code)
		}},
		{"RunScript", []string{"j", "workers", "script"}, func(q serviceQuestion) []any {
			text, code := impl.RunScript(q.j, q.workers, q.script)
			return results(text, code)
		}},
	}
}

// hasCode tells whether a function has a code.
func (f serviceFunction) hasCode() bool { return len(f.faults) > 0 }

// serviceText is a program for jobs: the function 0 divides by the last number of a
// term, the function 1 is that of the example of chapter 8, and the others depend on
// their parameters in several ways.
const serviceText = "q 3: ((x0 * x1) / x2) | x2\nf 2: ((x0 * x1) + x1)\ng 3: (x0 * x2) | (x1 / x2)\nh 2: (x1 / x0)\nif 3: if(x1; (x0 * x0); x2)\nk 1: 5\nz 0: 7\n"

// jobOn is a job of a program.
func jobOn(p impl.Program, f int64, point []int64, terms ...[]int64) impl.Job {
	return impl.Job{Program: p, Func: f, Shared: int64(len(point)), Point: point, Terms: terms}
}

// exampleJob is the job of the example of chapter 8.
func exampleJob(t *testing.T) impl.Job {
	t.Helper()
	return jobOn(reading(t, serviceText), 1, []int64{3}, []int64{2}, []int64{5})
}

func partWith(value int64, grad ...int64) impl.Part { return impl.Part{Value: value, Grad: grad} }

func failing(code int64) impl.Part { return impl.Part{Code: code} }

func report(term, stamp int64, part impl.Part) impl.Report {
	return impl.Report{Term: term, Stamp: stamp, Part: part}
}

// act is the act with a text, which has to be one.
func act(t *testing.T, text string) impl.Act {
	t.Helper()
	a, code := impl.ReadAct(text)
	if code != impl.OK {
		t.Fatalf("%q is read with the code %d", text, code)
	}
	return a
}

// actsOf are the acts with the texts in the lines of a text.
func actsOf(t *testing.T, text string) []impl.Act {
	t.Helper()
	var list []impl.Act
	for line := range strings.Lines(text) {
		list = append(list, act(t, strings.TrimSuffix(line, "\n")))
	}
	return list
}

// fineService passes a service on if the code is OK.
func fineService(t *testing.T) func(s impl.Service, code int64) impl.Service {
	return func(s impl.Service, code int64) impl.Service {
		t.Helper()
		if code != impl.OK || !impl.ValidService(s) {
			t.Fatalf("%s with the code %d", brief(s), code)
		}
		return s
	}
}

// fineNet passes a net on if the code is OK.
func fineNet(t *testing.T) func(n impl.Net, code int64) impl.Net {
	return func(n impl.Net, code int64) impl.Net {
		t.Helper()
		if code != impl.OK || !impl.ValidNet(n) {
			t.Fatalf("%s with the code %d", brief(n), code)
		}
		return n
	}
}

// netAfter is a net of a job after the acts with the texts in the lines of a text, none
// of which may have an error.
func netAfter(t *testing.T, j impl.Job, workers int64, text string) impl.Net {
	t.Helper()
	n := fineNet(t)(impl.NewNet(j, workers))
	for _, a := range actsOf(t, text) {
		next, code := impl.StepNet(n, a)
		if code != impl.OK {
			t.Fatalf("%s has the code %d", impl.ActText(a), code)
		}
		n = next
	}
	return n
}

// serviceJob is a job of four terms, the second of which divides by 0.
func serviceJob(t *testing.T) impl.Job {
	t.Helper()
	return jobOn(reading(t, serviceText), 0, []int64{3, 4}, []int64{2}, []int64{0}, []int64{5}, []int64{7})
}

// richActs lead to a net that has everything: safe lines of all kinds and others behind
// them, owners, queues, and reports under way of which some are late.
const richActs = "give 0 0\ngive 1 1\nwork 0\nwork 1\ncopy 1\ndeliver 0\npoint 3 5\ngive 0 2\nwork 2\nterm 3 9\nsync\ncopy 1\ngive 1 1\nwork 1\ncopy 2\ngive 2 1\ngive 3 2\n"

// richNet is the net that richActs lead to.
func richNet(t *testing.T) impl.Net {
	t.Helper()
	return netAfter(t, serviceJob(t), 3, richActs)
}

// serviceAsked has valid arguments for all functions of chapter 8, for which none of
// them has an error.
func serviceAsked(t *testing.T) serviceQuestion {
	t.Helper()
	q := serviceQuestion{
		j: exampleJob(t), k: 1, w: 2, workers: 2, point: []int64{4}, numbers: []int64{6}, r: report(1, 0, partWith(20, 5)), a: act(t, "give 2 1"), acts: actsOf(t, "work 1\nwork 0\ndrop 0\n"),
		journal: journalOf("part 0 0 8 2", "point 4"), act: "term 1 6", script: "give 0 0\nsum\n",
	}
	q.s = fineService(t)(impl.NewService(q.j))
	q.s, _, _ = impl.TakeReport(q.s, report(0, 0, partWith(8, 2)))
	q.other, _, _ = impl.TakeReport(q.s, q.r)
	q.n, q.twin = netAfter(t, serviceJob(t), 3, richActs+"down 1\n"), richNet(t)
	return q
}

// expectService fails the test unless a call has a code, and nothing beside it if this
// is an error.
func expectService(t *testing.T, f serviceFunction, q serviceQuestion, want int64) {
	t.Helper()
	expectResults(t, f.name, q, f.call(q), want)
}

// told is what a line of a journal tells.
type told struct {
	word    string
	report  impl.Report
	term    int64
	numbers []int64
}

// words are the words of the line, after the table of the document.
func (e told) words() string {
	list := []any{e.word}
	switch e.word {
	case "part":
		list = append(list, e.report.Term, e.report.Stamp, e.report.Part.Value)
		for _, number := range e.report.Part.Grad {
			list = append(list, number)
		}
	case "fail":
		list = append(list, e.report.Term, e.report.Stamp, e.report.Part.Code)
	case "term":
		list = append(list, e.term)
	}
	for _, number := range e.numbers {
		list = append(list, number)
	}
	return strings.TrimSuffix(fmt.Sprintln(list...), "\n")
}

func tellingReport(r impl.Report) told {
	if r.Part.Code == impl.OK {
		return told{word: "part", report: r}
	}
	return told{word: "fail", report: r}
}

// checkOfWords is the check behind some words.
func checkOfWords(before int, words string) int {
	for _, letter := range []byte(words) {
		before = (257*before + int(letter)) % impl.P
	}
	return before
}

// journalOf is a journal with the words of some lines.
func journalOf(lines ...string) string {
	text, check := "", 1
	for _, words := range lines {
		check = checkOfWords(check, words)
		text += fmt.Sprintf("%s %d\n", words, check)
	}
	return text
}

// replica is a net that remembers what has been told, and makes its service anew from
// that each time.
type replica struct {
	start  impl.Job
	lines  []told
	safe   int // number of lines
	owners []int64
	queues [][]impl.Report
	flying []impl.Report
}

// replicaOf is the replica of a new net.
func replicaOf(j impl.Job, workers int64) replica {
	return replica{start: j, owners: constant(len(j.Terms)-1, -1), queues: make([][]impl.Report, workers)}
}

// journal is the journal of some of the lines.
func (m replica) journal(lines int) string {
	var list []string
	for _, e := range m.lines[:lines] {
		list = append(list, e.words())
	}
	return journalOf(list...)
}

// service is the service of all lines.
func (m replica) service() impl.Service {
	j := m.start
	j.Terms = slices.Clone(j.Terms)
	s := impl.Service{Job: j, Stamps: make([]int64, len(j.Terms)), Known: make([]bool, len(j.Terms)), Parts: make([]impl.Part, len(j.Terms)), Owners: m.owners}
	for _, e := range m.lines {
		s, _ = toldTo(s, e)
	}
	return s
}

// toldTo is a service after a line, and how that ends: with the code of an error, or -1
// for a report that is not taken. The owners stay.
func toldTo(s impl.Service, e told) (impl.Service, int64) {
	after := s
	after.Stamps, after.Known, after.Parts, after.Job.Terms = slices.Clone(s.Stamps), slices.Clone(s.Known), slices.Clone(s.Parts), slices.Clone(s.Job.Terms)
	forget := func(k int) {
		after.Stamps[k]++
		after.Known[k], after.Parts[k] = false, impl.Part{}
	}
	switch e.word {
	case "point":
		if !isPoint(e.numbers, s.Job.Shared) {
			return s, impl.ErrRange
		}
		for k, known := range s.Known {
			if !known || !staysSlowly(s.Job, k, e.numbers) {
				forget(k)
			}
		}
		after.Job.Point = e.numbers
	case "term":
		if e.term < 0 || int(e.term) >= len(s.Job.Terms) || !isPoint(e.numbers, int64(len(s.Job.Terms[e.term]))) {
			return s, impl.ErrRange
		}
		forget(int(e.term))
		after.Job.Terms[e.term] = e.numbers
	default:
		k := e.report.Term
		if s.Known[k] || s.Stamps[k] != e.report.Stamp {
			return s, -1
		}
		after.Known[k], after.Parts[k] = true, e.report.Part
	}
	if slices.Contains(after.Stamps, impl.MaxStamp+1) {
		return s, impl.ErrLimit
	}
	return after, impl.OK
}

// isPoint tells whether a list consists of so many numbers.
func isPoint(list []int64, count int64) bool {
	return int64(len(list)) == count && !slices.ContainsFunc(list, func(n int64) bool { return n < 0 || n >= impl.P })
}

// partSlowly is the part of a term.
func partSlowly(j impl.Job, k int) impl.Part {
	args := slices.Concat(j.Point, j.Terms[k])
	values, _, code := impl.Evaluate(j.Program, j.Func, args)
	if code != impl.OK {
		return failing(code)
	}
	slopes, _ := impl.GradientOf(j.Program, j.Func, 0, args)
	return partWith(values[0], slopes[:j.Shared]...)
}

// staysSlowly tells whether a part is sure to stay the same at another point, with one
// question for each register and each input.
func staysSlowly(j impl.Job, k int, point []int64) bool {
	tape, code := impl.Record(j.Program, j.Func, slices.Concat(j.Point, j.Terms[k]))
	if code != impl.OK {
		return false
	}
	registers := []int64{tape.Outs[0]}
	for _, guard := range tape.Guards {
		registers = append(registers, guard.Reg)
	}
	for _, instr := range tape.Code {
		if instr.Op == impl.OpDiv {
			registers = append(registers, instr.B)
		}
	}
	for i := range j.Point {
		for _, register := range registers {
			inputs, _ := impl.InputsOf(tape, register)
			if j.Point[i] != point[i] && slices.Contains(inputs, int64(i)) {
				return false
			}
		}
	}
	return true
}

// net is the net.
func (m replica) net() impl.Net {
	return impl.Net{Start: m.start, Service: m.service(), Journal: m.journal(len(m.lines)), Safe: int64(len(m.journal(m.safe))), Queues: m.queues, Flying: m.flying}
}

// step is the replica after an act and OK, or the same as before and the code of an
// error.
func (m replica) step(a impl.Act) (replica, int64) {
	after := m
	after.owners, after.queues, after.flying = slices.Clone(m.owners), slices.Clone(m.queues), slices.Clone(m.flying)
	code := after.do(a)
	if code != impl.OK {
		return m, code
	}
	return after, impl.OK
}

func (m *replica) do(a impl.Act) int64 {
	lacksWorker, lacksReport := a.A >= int64(len(m.queues)), a.A >= int64(len(m.flying))
	switch a.Kind {
	case impl.AcGive:
		return m.give(a.A, a.B)
	case impl.AcWork:
		switch {
		case lacksWorker:
			return impl.ErrRange
		case len(m.queues[a.A]) == 0:
			return impl.ErrState
		case len(m.flying) == impl.MaxFlying:
			return impl.ErrLimit
		}
		m.flying, m.queues[a.A] = append(m.flying, m.queues[a.A][0]), m.queues[a.A][1:]
	case impl.AcDeliver, impl.AcCopy, impl.AcDrop:
		if lacksReport {
			return impl.ErrRange
		}
		r := m.flying[a.A]
		if a.Kind != impl.AcCopy {
			m.flying = slices.Delete(slices.Clone(m.flying), int(a.A), int(a.A)+1)
		}
		if a.Kind == impl.AcDrop {
			return impl.OK
		}
		return max(m.tell(tellingReport(r)), impl.OK)
	case impl.AcDown:
		if lacksWorker {
			return impl.ErrRange
		}
		m.queues[a.A] = nil
		for k, owner := range m.owners {
			if owner == a.A {
				m.owners[k] = -1
			}
		}
	case impl.AcCrash:
		kept := m.safe
		for kept < len(m.lines) && int64(len(m.journal(kept+1))) <= int64(len(m.journal(m.safe)))+a.A {
			kept++
		}
		m.lines, m.safe, m.owners = m.lines[:kept:kept], kept, constant(len(m.owners)-1, -1)
	case impl.AcSync:
		m.safe = len(m.lines)
	case impl.AcPoint, impl.AcTerm:
		code := m.tell(told{word: map[int64]string{impl.AcPoint: "point", impl.AcTerm: "term"}[a.Kind], term: a.A, numbers: a.Numbers})
		m.safe = len(m.lines)
		return code
	}
	return impl.OK
}

func (m *replica) give(term, worker int64) int64 {
	s := m.service()
	switch {
	case term >= int64(len(m.owners)) || worker >= int64(len(m.queues)):
		return impl.ErrRange
	case s.Known[term] || m.owners[term] >= 0:
		return impl.ErrState
	case len(m.queues[worker]) == impl.MaxQueue:
		return impl.ErrLimit
	}
	m.owners[term] = worker
	m.queues[worker] = append(slices.Clone(m.queues[worker]), report(term, s.Stamps[term], partSlowly(s.Job, int(term))))
	return impl.OK
}

// tell writes a line if it changes the service, and returns how this ends. Terms that
// are known then, or have a new stamp, have no owner.
func (m *replica) tell(e told) int64 {
	before := m.service()
	after, code := toldTo(before, e)
	if code != impl.OK {
		return code
	}
	m.lines = append(slices.Clone(m.lines), e)
	if len(m.journal(len(m.lines))) > impl.MaxJournal {
		return impl.ErrLimit
	}
	for k := range m.owners {
		if after.Known[k] || after.Stamps[k] != before.Stamps[k] {
			m.owners[k] = -1
		}
	}
	return impl.OK
}

// sameText fails the test unless two values look the same. Lists that are nil look like
// empty ones.
func sameText(t *testing.T, name string, have, want any) {
	t.Helper()
	if a, b := fmt.Sprint(have), fmt.Sprint(want); a != b {
		t.Errorf("%s: have %s, want %s", name, a, b)
	}
}

// job makes a job whose terms may divide by 0.
func (v *invention) job() impl.Job {
	p := v.program(v.Intn(3))
	params := v.Int63n(5)
	f := function("job", params)
	v.nodes = 50
	for range 1 + v.Intn(2) {
		f.Outs = append(f.Outs, v.either(params, v.Intn(3) > 0))
	}
	j := jobOn(program(append(slices.Clone(p.Funcs), f)...), int64(len(p.Funcs)), v.numbers(v.Int63n(params+1)))
	for range v.Intn(6) {
		j.Terms = append(j.Terms, v.numbers(params-j.Shared))
	}
	return j
}

// nextPoint makes a point in which often just one number is another one.
func (v *invention) nextPoint(point []int64) []int64 {
	if len(point) == 0 || v.Intn(4) == 0 {
		return v.numbers(int64(len(point)))
	}
	next := slices.Clone(point)
	next[v.Intn(len(point))] = v.numbers(1)[0]
	return next
}

// act makes a valid act for a net of a job, which may have an error there.
func (v *invention) act(j impl.Job, workers int64) impl.Act {
	terms := int64(len(j.Terms))
	kinds := []int64{impl.AcGive, impl.AcGive, impl.AcGive, impl.AcWork, impl.AcWork, impl.AcWork, impl.AcDeliver, impl.AcDeliver, impl.AcCopy, impl.AcDrop, impl.AcDown, impl.AcCrash, impl.AcSync, impl.AcPoint, impl.AcTerm}
	a := impl.Act{Kind: kinds[v.Intn(len(kinds))]}
	switch a.Kind {
	case impl.AcGive:
		a.A, a.B = v.Int63n(terms+1), v.Int63n(workers+1)
	case impl.AcWork, impl.AcDown:
		a.A = v.Int63n(workers + 1)
	case impl.AcDeliver, impl.AcCopy, impl.AcDrop:
		a.A = v.Int63n(4)
	case impl.AcCrash:
		a.A = v.Int63n([]int64{2, 40, impl.MaxJournal}[v.Intn(3)] + 1)
	case impl.AcPoint:
		a.Numbers = v.nextPoint(j.Point)
	case impl.AcTerm:
		a.A = v.Int63n(terms + 1)
		a.Numbers = v.numbers(j.Program.Funcs[j.Func].Params - j.Shared)
	}
	if a.Numbers != nil && v.Intn(12) == 0 {
		a.Numbers = v.numbers(v.Int63n(4))
	}
	return a
}
