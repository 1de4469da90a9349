package tests

import (
	"slices"
	"strings"
	"testing"

	"loop.example/g01091/impl"
)

// serviceFaults are all faults by their names.
func serviceFaults(t *testing.T) map[string]fault[serviceQuestion] {
	sOf := func(q *serviceQuestion) *impl.Service { return &q.s }
	otherOf := func(q *serviceQuestion) *impl.Service { return &q.other }
	changing := func(code int64, changes ...func(q *serviceQuestion)) fault[serviceQuestion] {
		return fault[serviceQuestion]{code, changes}
	}
	return map[string]fault[serviceQuestion]{
		"j":       faultOf(impl.ErrInvalid, func(q *serviceQuestion) *impl.Job { return &q.j }, faultyJobs(exampleJob(t))...),
		"k":       faultOf(impl.ErrRange, func(q *serviceQuestion) *int64 { return &q.k }, outside(2)...),
		"point":   faultOf(impl.ErrRange, func(q *serviceQuestion) *[]int64 { return &q.point }, faultyNumbers(1)...),
		"numbers": faultOf(impl.ErrRange, func(q *serviceQuestion) *[]int64 { return &q.numbers }, faultyNumbers(1)...),
		"zero":    changing(impl.ErrZero, func(q *serviceQuestion) { q.j.Func, q.j.Point = 3, []int64{0} }),
		"s":       faultOf(impl.ErrInvalid, sOf, faultyServices(serviceAsked(t).s)...),
		"w":       faultOf(impl.ErrRange, func(q *serviceQuestion) *int64 { return &q.w }, outside(impl.MaxWorkers)...),
		"given":   changing(impl.ErrState, func(q *serviceQuestion) { q.s.Owners = []int64{-1, 0} }, func(q *serviceQuestion) { q.s.Owners = []int64{-1, 2} }, func(q *serviceQuestion) { q.k = 0 }),
		"r":       faultOf(impl.ErrRange, func(q *serviceQuestion) *impl.Report { return &q.r }, faultyReports(2, 1)...),
		"worn":    changing(impl.ErrLimit, func(q *serviceQuestion) { q.s.Stamps = []int64{50, 50} }, func(q *serviceQuestion) { q.s.Stamps = []int64{0, 50} }),
		"other":   faultOf(impl.ErrInvalid, otherOf, faultyServices(serviceAsked(t).other)...),
		"unknown": faultOf(impl.ErrState, otherOf, serviceAsked(t).s, fineService(t)(impl.NewService(exampleJob(t)))),
		"failed":  changing(impl.ErrBudget, func(q *serviceQuestion) { q.other.Parts = []impl.Part{failing(impl.ErrBudget), failing(impl.ErrZero)} }, func(q *serviceQuestion) { q.other.Parts = []impl.Part{partWith(8, 2), failing(impl.ErrBudget)} }),
		"journal": faultOf(impl.ErrRange, func(q *serviceQuestion) *string { return &q.journal }, strings.Repeat("x", 6001), strings.Repeat("\n", 6001), strings.Repeat("x", 1<<20)),
		"workers": faultOf(impl.ErrRange, func(q *serviceQuestion) *int64 { return &q.workers }, append(outside(impl.MaxWorkers+1), 0)...),
		"act":     faultOf(impl.ErrSyntax, func(q *serviceQuestion) *string { return &q.act }, "", " ", "gives", "give 1", "sync 0", "term", strings.Repeat("point ", 1<<18)),
		"n":       faultOf(impl.ErrInvalid, func(q *serviceQuestion) *impl.Net { return &q.n }, someOf(faultyNets(t), 40)...),
		"a":       faultOf(impl.ErrInvalid, func(q *serviceQuestion) *impl.Act { return &q.a }, someOf(faultyActs(), 40)...),
		"acts":    faultOf(impl.ErrInvalid, func(q *serviceQuestion) *[]impl.Act { return &q.acts }, someOf(actsWithFaults(), 40)...),
		"many":    faultOf(impl.ErrRange, func(q *serviceQuestion) *[]impl.Act { return &q.acts }, slices.Repeat([]impl.Act{{Kind: impl.AcSync}}, 201), slices.Repeat([]impl.Act{{Kind: impl.AcCrash, A: 6000}}, 1000)),
		"script":  faultOf(impl.ErrRange, func(q *serviceQuestion) *string { return &q.script }, strings.Repeat("\n", 61), strings.Repeat("sum\n", 60)+"s", strings.Repeat("x", 20001), strings.Repeat("x", 1<<20)),
	}
}

// someOf are so many elements of a list, or a few more, from all of its parts.
func someOf[T any](list []T, count int) []T {
	var some []T
	for k := 0; k < len(list); k += max(1, len(list)/count) {
		some = append(some, list[k])
	}
	return some
}

// TestP24P25P26P27ErrorsComeInOrder has each fault alone, and each one together with all
// that are told later.
func TestP24P25P26P27ErrorsComeInOrder(t *testing.T) {
	faults, used, fine := serviceFaults(t), map[string]bool{}, serviceAsked(t)
	asked := func() serviceQuestion { return fine } // all changes have new lists
	for _, f := range serviceFunctions() {
		if !f.hasCode() {
			continue
		}
		expectService(t, f, fine, impl.OK)
		inOrder(faults, f.faults, used, asked, func(q serviceQuestion, want int64) {
			t.Helper()
			expectService(t, f, q, want)
		})
	}
	if len(used) != len(faults) {
		t.Errorf("%d of %d faults", len(used), len(faults))
	}
}

// with makes copies of a value in each of which one change is made.
func with[V any](value V, changes ...func(v *V)) []V {
	var copies []V
	for _, change := range changes {
		changed := value
		change(&changed)
		copies = append(copies, changed)
	}
	return copies
}

// setting makes changes that set a field to each of some values.
func setting[V, T any](field func(v *V) *T, values ...T) []func(v *V) {
	var changes []func(v *V)
	for _, value := range values {
		changes = append(changes, func(v *V) { *field(v) = value })
	}
	return changes
}

// replaced is a copy of a list with another element at a place.
func replaced[T any](list []T, k int, element T) []T {
	copied := slices.Clone(list)
	copied[k] = element
	return copied
}

// faultyLists are lists that have another length than one, or one of some elements at
// any place.
func faultyLists[T any](list []T, elements ...T) [][]T {
	var extra T
	lists := [][]T{nil, list[1:], list[:len(list)-1], append(slices.Clip(list), extra), append(slices.Clip(list), make([]T, 1000)...)}
	for k := range list {
		for _, element := range elements {
			lists = append(lists, replaced(list, k, element))
		}
	}
	return lists
}

// faultyJobs are jobs that are not valid, as one field of a job with a function of two
// parameters, of which one is shared, and two terms is wrong.
func faultyJobs(j impl.Job) []impl.Job {
	terms := func(lists ...[]int64) func(j *impl.Job) { return func(j *impl.Job) { j.Terms = lists } }
	changes := slices.Concat(
		setting(func(j *impl.Job) *impl.Program { return &j.Program }, append(faultyPrograms(), impl.Program{}, program(function("f", 2, variable(0))))...),
		setting(func(j *impl.Job) *int64 { return &j.Func }, append(outside(7), 0, 2, 5, 6)...),
		setting(func(j *impl.Job) *int64 { return &j.Shared }, append(outside(3), 0, 2)...),
		setting(func(j *impl.Job) *[]int64 { return &j.Point }, faultyNumbers(1)...),
		[]func(j *impl.Job){terms(slices.Repeat([][]int64{{1}}, 11)...), terms(slices.Repeat([][]int64{{1}}, 1000)...)},
	)
	for _, faulty := range faultyNumbers(1) {
		changes = append(changes, terms(faulty), terms([]int64{2}, faulty), terms(faulty, []int64{5}))
	}
	return with(j, changes...)
}

// faultyParts have not the form of parts with so many derivatives.
func faultyParts(shared int64) []impl.Part {
	grad := make([]int64, shared)
	parts := []impl.Part{partWith(-1, grad...), partWith(impl.P, grad...), partWith(1<<62, grad...), {Code: -1}, {Code: 100, Value: 1}, {Code: impl.ErrZero, Value: 1}, {Code: impl.ErrBudget, Value: impl.P - 1}, {Code: impl.ErrZero, Grad: []int64{0}}, {Code: impl.ErrBudget, Grad: []int64{1}}}
	for _, code := range []int64{impl.ErrInvalid, impl.ErrRange, impl.ErrLimit, impl.ErrState, impl.ErrSyntax, impl.ErrProof, impl.ErrNotFound} {
		parts = append(parts, failing(code), impl.Part{Code: code, Grad: grad})
	}
	for _, faulty := range faultyNumbers(shared) {
		parts = append(parts, partWith(3, faulty...))
	}
	return parts
}

// faultyReports have not the form of those of a job with so many terms and shared
// numbers.
func faultyReports(terms, shared int64) []impl.Report {
	fine := report(terms-1, 0, partWith(3, make([]int64, shared)...))
	return with(fine, slices.Concat(
		setting(func(r *impl.Report) *int64 { return &r.Term }, outside(terms)...),
		setting(func(r *impl.Report) *int64 { return &r.Stamp }, outside(impl.MaxStamp+1)...),
		setting(func(r *impl.Report) *impl.Part { return &r.Part }, faultyParts(shared)...),
	)...)
}

// faultyServices are services that are not valid, as one field of a service with the
// job of the example is wrong, the term 0 of which is known.
func faultyServices(s impl.Service) []impl.Service {
	known := 1
	if !s.Known[1] {
		known = 0
	}
	changes := slices.Concat(
		setting(func(s *impl.Service) *impl.Job { return &s.Job }, faultyJobs(s.Job)...),
		setting(func(s *impl.Service) *[]int64 { return &s.Stamps }, faultyLists(s.Stamps, outside(impl.MaxStamp+1)...)...),
		setting(func(s *impl.Service) *[]bool { return &s.Known }, faultyLists(s.Known)...),
		setting(func(s *impl.Service) *[]impl.Part { return &s.Parts }, faultyLists(s.Parts)...),
		setting(func(s *impl.Service) *[]int64 { return &s.Owners }, faultyLists(s.Owners, -2, -1<<63, impl.MaxWorkers, 1<<62)...),
	)
	for _, owner := range []int64{0, 1, impl.MaxWorkers - 1} {
		changes = append(changes, func(s *impl.Service) { s.Owners = replaced(s.Owners, known, owner) })
	}
	for _, part := range faultyParts(1) {
		changes = append(changes, func(s *impl.Service) { s.Parts = replaced(s.Parts, known, part) })
	}
	for _, part := range []impl.Part{{Code: impl.ErrZero}, {Code: -1}, {Value: 1}, {Value: -1}, {Grad: []int64{0}}, partWith(20, 5)} {
		changes = append(changes, func(s *impl.Service) { s.Known, s.Parts = []bool{true, false}, []impl.Part{partWith(8, 2), part} })
	}
	changes = append(changes, func(s *impl.Service) { s.Job.Terms = s.Job.Terms[:1] }, func(s *impl.Service) { s.Job.Terms = append(slices.Clip(s.Job.Terms), []int64{1}) })
	return with(s, changes...)
}

// faultyNets are nets that are not valid, as one field of the rich net is wrong.
func faultyNets(t *testing.T) []impl.Net {
	n := richNet(t)
	jobs := append(otherJobs(n.Start), impl.Job{}, exampleJob(t))
	changes := slices.Concat(
		setting(func(n *impl.Net) *impl.Job { return &n.Start }, jobs...),
		setting(func(n *impl.Net) *impl.Service { return &n.Service }, otherServices(n.Service)...),
		setting(func(n *impl.Net) *string { return &n.Journal }, otherJournals(n.Journal)...),
		setting(func(n *impl.Net) *int64 { return &n.Safe }, otherSafe(n)...),
		setting(func(n *impl.Net) *[][]impl.Report { return &n.Queues }, nil, n.Queues[:1], n.Queues[:2], make([][]impl.Report, 5), make([][]impl.Report, 1000)),
	)
	fine := n.Flying[0]
	for _, r := range append(faultyReports(4, 2), impl.Report{Term: 4, Part: failing(impl.ErrZero)}) {
		changes = append(changes, func(n *impl.Net) { n.Flying = append(slices.Clip(n.Flying), r) }, func(n *impl.Net) { n.Flying = []impl.Report{r, fine} })
		for k := range n.Queues {
			changes = append(changes, func(n *impl.Net) { n.Queues = replaced(n.Queues, k, []impl.Report{r}) }, func(n *impl.Net) { n.Queues = replaced(n.Queues, k, []impl.Report{fine, r, fine}) })
		}
	}
	for _, count := range []int{1, 1000} {
		changes = append(changes, func(n *impl.Net) { n.Flying = slices.Repeat([]impl.Report{fine}, impl.MaxFlying+count) })
		for k := range n.Queues {
			changes = append(changes, func(n *impl.Net) {
				n.Queues = replaced(n.Queues, k, slices.Repeat([]impl.Report{fine}, impl.MaxQueue+count))
			})
		}
	}
	return with(n, changes...)
}

// otherJobs are valid jobs that are not that of the rich net.
func otherJobs(j impl.Job) []impl.Job {
	return with(j,
		func(j *impl.Job) { j.Program = program(slices.Concat(j.Program.Funcs[:1], j.Program.Funcs[2:])...) },
		func(j *impl.Job) {
			j.Program = program(append(slices.Clone(j.Program.Funcs), function("more", 1, num(1)))...)
		},
		func(j *impl.Job) {
			j.Program = program(append(slices.Clone(j.Program.Funcs[:6]), function("y", 0, num(7)))...)
		},
		func(j *impl.Job) { j.Func = 2 },
		func(j *impl.Job) { j.Shared, j.Point = 1, []int64{3}; j.Terms = slices.Repeat([][]int64{{4, 2}}, 4) },
		func(j *impl.Job) { j.Terms = [][]int64{{2}, {0}, {6}, {7}} },
		func(j *impl.Job) { j.Terms = [][]int64{{2}, {0}, {5}} },
		func(j *impl.Job) { j.Terms = [][]int64{{2}, {0}, {5}, {7}, {1}} },
	)
}

// otherServices are services that the journal of the rich net does not make, and some
// that are not valid.
func otherServices(s impl.Service) []impl.Service {
	changes := slices.Concat(
		setting(func(s *impl.Service) *impl.Job { return &s.Job }, otherJobs(s.Job)...),
		setting(func(s *impl.Service) *[]int64 { return &s.Job.Point }, []int64{3, 4}, []int64{4, 5}, []int64{3}, []int64{3, -1}),
		setting(func(s *impl.Service) *[]int64 { return &s.Stamps }, faultyLists(s.Stamps, 0, 3, 50, 51, -1)...),
		setting(func(s *impl.Service) *[]bool { return &s.Known }, []bool{true, true, true, false}, []bool{true, true, false, true}, nil, make([]bool, 5)),
		setting(func(s *impl.Service) *[]impl.Part { return &s.Parts }, faultyLists(s.Parts, partWith(8, 2, 3), failing(impl.ErrBudget))...),
		setting(func(s *impl.Service) *[]int64 { return &s.Owners }, faultyLists(s.Owners, 3, 4, -2)...),
	)
	changes = append(changes, func(s *impl.Service) { s.Known, s.Parts = make([]bool, 4), make([]impl.Part, 4) }, func(s *impl.Service) { *s = impl.Service{} })
	return with(s, changes...)
}

// otherJournals are texts that do not make the service of the rich net.
func otherJournals(text string) []string {
	first := strings.IndexByte(text, '\n') + 1
	last := strings.LastIndexByte(text[:len(text)-1], '\n') + 1
	return []string{"", text[:first], text[first:], text[:last], text[:len(text)-1], text + "\n", text + "x", text + text, "x" + text, " " + text, strings.Replace(text, "part", "Part", 1), strings.Replace(text, "point 3 5", "point 3 6", 1), text + strings.Repeat("x", impl.MaxJournal), strings.Repeat(text, 1000)}
}

// otherSafe are numbers of bytes that are not safe in a net: those in the middle of a
// line, and the ends of lines behind which there is a change.
func otherSafe(n impl.Net) []int64 {
	list := append(outside(int64(len(n.Journal))+1), 0)
	for k := range n.Journal {
		if n.Journal[k] != '\n' || strings.Contains(n.Journal[k+1:], "point") || strings.Contains(n.Journal[k+1:], "term") {
			list = append(list, int64(k)+1)
		}
	}
	return list
}

// faultyActs are acts that are not valid.
func faultyActs() []impl.Act {
	list := []impl.Act{{}, {Kind: -1}, {Kind: 11}, {Kind: 1 << 62}, {Kind: -1 << 63}, {Kind: 11, A: 1, Numbers: []int64{1}}}
	for kind := int64(impl.AcGive); kind <= impl.AcTerm; kind++ {
		for _, other := range outside(impl.MaxJournal + 1) {
			list = append(list, impl.Act{Kind: kind, A: other}, impl.Act{Kind: kind, B: other})
		}
		hasA, hasB, hasNumbers := kind != impl.AcSync && kind != impl.AcPoint, kind == impl.AcGive, kind >= impl.AcPoint
		for _, other := range []int64{1, 2, impl.MaxJournal} {
			if !hasA {
				list = append(list, impl.Act{Kind: kind, A: other})
			}
			if !hasB {
				list = append(list, impl.Act{Kind: kind, B: other})
			}
		}
		if !hasNumbers {
			list = append(list, impl.Act{Kind: kind, Numbers: []int64{0}}, impl.Act{Kind: kind, Numbers: []int64{1, 2}})
		}
		list = append(list, impl.Act{Kind: kind, Numbers: make([]int64, 13)}, impl.Act{Kind: kind, Numbers: make([]int64, 1000)})
		for _, other := range outside(impl.P) {
			list = append(list, impl.Act{Kind: kind, Numbers: []int64{other}}, impl.Act{Kind: kind, Numbers: []int64{1, other, 1}}, impl.Act{Kind: kind, Numbers: append(make([]int64, 11), other)})
		}
	}
	return list
}

// actsWithFaults are lists of acts with one that is not valid, also such with too many.
func actsWithFaults() [][]impl.Act {
	fine := impl.Act{Kind: impl.AcSync}
	lists := [][]impl.Act{append(slices.Repeat([]impl.Act{fine}, 200), impl.Act{}), append([]impl.Act{{}}, slices.Repeat([]impl.Act{fine}, 1000)...), make([]impl.Act, 1<<20)}
	for _, a := range faultyActs() {
		lists = append(lists, []impl.Act{a}, []impl.Act{fine, a, fine})
	}
	return lists
}

// TestP25EachFieldOfAServiceIsChecked has services with one field that is wrong, and
// the same fields with values that are right.
func TestP25EachFieldOfAServiceIsChecked(t *testing.T) {
	s := serviceAsked(t).s
	for k, faulty := range faultyServices(s) {
		if impl.ValidService(faulty) || impl.IsTrue(faulty) {
			t.Errorf("the service %d is taken for valid: %s", k, brief(faulty))
		}
	}
	for k, fine := range with(s, slices.Concat(
		setting(func(s *impl.Service) *[]int64 { return &s.Stamps }, []int64{50, 50}, []int64{50, 0}, []int64{0, 50}),
		setting(func(s *impl.Service) *[]int64 { return &s.Owners }, []int64{-1, 0}, []int64{-1, impl.MaxWorkers - 1}),
		setting(func(s *impl.Service) *[]impl.Part { return &s.Parts }, []impl.Part{partWith(0, 0), {}}, []impl.Part{partWith(impl.P-1, impl.P-1), {Grad: []int64{}}}, []impl.Part{failing(impl.ErrZero), {}}, []impl.Part{failing(impl.ErrBudget), {}}),
		setting(func(s *impl.Service) *[]int64 { return &s.Job.Point }, []int64{0}, []int64{impl.P - 1}),
		[]func(s *impl.Service){func(s *impl.Service) { s.Known, s.Parts = make([]bool, 2), make([]impl.Part, 2) }},
	)...) {
		if !impl.ValidService(fine) {
			t.Errorf("the service %d is not taken for valid: %s", k, brief(fine))
		}
	}
	none := impl.Service{Job: jobOn(s.Job.Program, 1, []int64{3})}
	if !impl.ValidService(none) || !impl.IsTrue(none) || impl.ValidService(impl.Service{}) {
		t.Error("a service without terms has to be valid, and one without a program not")
	}
}

// TestP27EachFieldOfANetIsChecked has nets with one field that is wrong, and the same
// fields with values that are right.
func TestP27EachFieldOfANetIsChecked(t *testing.T) {
	n := richNet(t)
	for k, faulty := range faultyNets(t) {
		if impl.ValidNet(faulty) {
			t.Errorf("the net %d is taken for valid: %s", k, brief(faulty.Service, faulty.Journal, faulty.Safe, faulty.Queues, faulty.Flying))
		}
		_, step := impl.StepNet(faulty, act(t, "sync"))
		_, _, run := impl.RunNet(faulty, nil)
		if _, finish := impl.FinishNet(faulty); step != impl.ErrInvalid || run != impl.ErrInvalid || finish != impl.ErrInvalid {
			t.Errorf("the net %d has the codes %d, %d and %d", k, step, run, finish)
		}
	}
	fine := n.Flying[0]
	changes := slices.Concat(
		setting(func(n *impl.Net) *[]int64 { return &n.Service.Owners }, []int64{-1, -1, -1, -1}, []int64{-1, -1, 2, 2}, []int64{-1, -1, 0, -1}),
		setting(func(n *impl.Net) *[][]impl.Report { return &n.Queues }, make([][]impl.Report, 3), make([][]impl.Report, 4), slices.Repeat([][]impl.Report{slices.Repeat([]impl.Report{fine}, 8)}, 4)),
		setting(func(n *impl.Net) *[]impl.Report { return &n.Flying }, nil, slices.Repeat([]impl.Report{fine}, 12), []impl.Report{report(3, 50, partWith(impl.P-1, 0, 0)), report(0, 0, failing(impl.ErrBudget))}),
	)
	behind := n.Journal[n.Safe:]
	if strings.Count(behind, "\n") != 2 {
		t.Fatalf("%q are not two lines", behind)
	}
	first := n.Safe + int64(strings.IndexByte(behind, '\n')) + 1
	changes = append(changes, setting(func(n *impl.Net) *int64 { return &n.Safe }, first, int64(len(n.Journal)))...)
	for k, valid := range with(n, changes...) {
		if !impl.ValidNet(valid) {
			t.Errorf("the net %d is not taken for valid: %s", k, brief(valid.Service.Owners, valid.Journal, valid.Safe, valid.Queues, valid.Flying))
		}
	}
	if impl.ValidNet(impl.Net{}) {
		t.Error("a net without a program is taken for valid")
	}
	for workers := range 7 {
		n := fineNet(t)(impl.NewNet(exampleJob(t), 1))
		n.Queues = make([][]impl.Report, workers)
		if impl.ValidNet(n) != (workers >= 1 && workers <= 4) {
			t.Errorf("a new net with %d workers", workers)
		}
	}
}

// TestP27LongestJournalsOfNets has nets with journals of most bytes, and one beyond.
func TestP27LongestJournalsOfNets(t *testing.T) {
	for bytes := impl.MaxJournal - 1; bytes <= impl.MaxJournal+2; bytes++ {
		n := fineNet(t)(impl.NewNet(pointsJob(t), 1))
		n.Journal = pointsOf(t, bytes)
		n.Safe = int64(bytes)
		for _, words := range wordsOf(n.Journal) {
			n.Service = fineService(t)(impl.ChangePoint(n.Service, toldBy(t, words).numbers))
		}
		if impl.ValidNet(n) != (bytes <= impl.MaxJournal) {
			t.Errorf("a net with a journal of %d bytes", bytes)
		}
	}
}

// TestP27EachFieldOfAnActIsChecked has acts with one field that is wrong.
func TestP27EachFieldOfAnActIsChecked(t *testing.T) {
	n := richNet(t)
	for k, faulty := range faultyActs() {
		_, code := impl.StepNet(n, faulty)
		if text := impl.ActText(faulty); text != "" || code != impl.ErrInvalid {
			t.Errorf("the act %d has the text %q, and its code is %d: %s", k, text, code, brief(faulty))
		}
	}
	for k, faulty := range actsWithFaults() {
		if _, _, code := impl.RunNet(n, faulty); code != impl.ErrInvalid {
			t.Errorf("the acts %d have the code %d", k, code)
		}
	}
}

// TestP24EachFieldOfAJobIsChecked has jobs with one field that is wrong.
func TestP24EachFieldOfAJobIsChecked(t *testing.T) {
	for k, faulty := range faultyJobs(exampleJob(t)) {
		if impl.ValidJob(faulty) {
			t.Errorf("the job %d is taken for valid: %s", k, brief(faulty))
		}
	}
	if impl.ValidJob(impl.Job{}) {
		t.Error("a job without a program is taken for valid")
	}
}
