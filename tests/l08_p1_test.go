package tests

import (
	"fmt"
	"slices"
	"strings"
	"testing"

	"loop.example/g01091/impl"
)

func (q *serviceQuestion) lists() []any {
	return []any{q.j, q.point, q.numbers, q.s, q.other, q.r, q.n, q.twin, q.a, q.acts}
}

// roomyList is a copy of a list with unused capacity that holds a known element, and of
// which each element is a copy as well.
func roomyList[T any](list []T, copied func(T) T, extra T) []T {
	var copies []T
	for _, element := range list {
		copies = append(copies, copied(element))
	}
	return append(copies, copied(extra), copied(extra))[:len(list)]
}

func roomyJob(j impl.Job) impl.Job {
	j.Program, j.Point, j.Terms = roomyProgram(j.Program), roomy(j.Point), roomyRows(j.Terms)
	return j
}

func roomyPart(part impl.Part) impl.Part {
	part.Grad = roomy(part.Grad)
	return part
}

func roomyReport(r impl.Report) impl.Report {
	r.Part = roomyPart(r.Part)
	return r
}

func roomyReports(list []impl.Report) []impl.Report {
	return roomyList(list, roomyReport, report(spare, spare, partWith(spare, spare)))
}

func roomyService(s impl.Service) impl.Service {
	s.Job, s.Stamps, s.Owners = roomyJob(s.Job), roomy(s.Stamps), roomy(s.Owners)
	s.Known = append(slices.Clone(s.Known), true, true)[:len(s.Known)]
	s.Parts = roomyList(s.Parts, roomyPart, partWith(spare, spare))
	return s
}

func roomyNet(n impl.Net) impl.Net {
	n.Start, n.Service, n.Flying = roomyJob(n.Start), roomyService(n.Service), roomyReports(n.Flying)
	n.Queues = roomyList(n.Queues, roomyReports, []impl.Report{report(spare, spare, impl.Part{})})
	return n
}

func roomyAct(a impl.Act) impl.Act {
	a.Numbers = roomy(a.Numbers)
	return a
}

// roomyServices is a copy in which all lists have unused capacity with known contents.
func roomyServices(q serviceQuestion) serviceQuestion {
	q.j, q.point, q.numbers, q.s, q.other = roomyJob(q.j), roomy(q.point), roomy(q.numbers), roomyService(q.s), roomyService(q.other)
	q.r, q.n, q.twin, q.a = roomyReport(q.r), roomyNet(q.n), roomyNet(q.twin), roomyAct(q.a)
	q.acts = roomyList(q.acts, roomyAct, impl.Act{Kind: spare, Numbers: []int64{spare}})
	return q
}

// emptyJob is a copy with empty lists in place of all that are nil, and so are the others
// that follow.
func emptyJob(j impl.Job) impl.Job {
	j.Program, j.Point, j.Terms = emptyProgram(j.Program), append([]int64{}, j.Point...), emptyRows(j.Terms)
	return j
}

func emptyPart(part impl.Part) impl.Part {
	part.Grad = append([]int64{}, part.Grad...)
	return part
}

func emptyReports(list []impl.Report) []impl.Report {
	copies := []impl.Report{}
	for _, r := range list {
		copies = append(copies, report(r.Term, r.Stamp, emptyPart(r.Part)))
	}
	return copies
}

func emptyService(s impl.Service) impl.Service {
	s.Job, s.Stamps, s.Owners = emptyJob(s.Job), append([]int64{}, s.Stamps...), append([]int64{}, s.Owners...)
	s.Known = append([]bool{}, s.Known...)
	parts := []impl.Part{}
	for _, part := range s.Parts {
		parts = append(parts, emptyPart(part))
	}
	s.Parts = parts
	return s
}

func emptyNet(n impl.Net) impl.Net {
	n.Start, n.Service, n.Flying = emptyJob(n.Start), emptyService(n.Service), emptyReports(n.Flying)
	queues := [][]impl.Report{}
	for _, queue := range n.Queues {
		queues = append(queues, emptyReports(queue))
	}
	n.Queues = queues
	return n
}

// emptyServices is a copy with empty lists in place of all that are nil.
func emptyServices(q serviceQuestion) serviceQuestion {
	q.j, q.s, q.other, q.n, q.twin = emptyJob(q.j), emptyService(q.s), emptyService(q.other), emptyNet(q.n), emptyNet(q.twin)
	q.point, q.numbers, q.r.Part, q.a.Numbers = append([]int64{}, q.point...), append([]int64{}, q.numbers...), emptyPart(q.r.Part), append([]int64{}, q.a.Numbers...)
	acts := []impl.Act{}
	for _, a := range q.acts {
		a.Numbers = append([]int64{}, a.Numbers...)
		acts = append(acts, a)
	}
	q.acts = acts
	return q
}

// serviceQuestions have valid and invalid arguments of all kinds, and all acts that are
// possible in many nets.
func serviceQuestions(t *testing.T) []serviceQuestion {
	list := []serviceQuestion{{}, serviceAsked(t)}
	for _, fault := range serviceFaults(t) {
		for _, change := range someOf(fault.changes, 2) {
			q := serviceAsked(t)
			change(&q)
			list = append(list, q)
		}
	}
	rich := richNet(t)
	for _, text := range []string{"give 2 0", "work 1", "work 2", "deliver 0", "deliver 1", "copy 0", "copy 1", "copy 2", "drop 1", "down 1", "crash 0", "crash 30", "crash 6000", "sync", "point 3 5", "point 4 5", "term 0 8", "term 2 5"} {
		q := serviceAsked(t)
		q.n, q.a, q.acts = rich, act(t, text), actsOf(t, text+"\n"+text+"\nwork 1\ncopy 0\nwork 2\ndeliver 1\n")
		list = append(list, q)
	}
	for seed := range int64(40) {
		list = append(list, inventions(seed+300).service(t))
	}
	return list
}

// service makes arguments of all functions, which are valid but for some that are meant
// for another one.
func (v *invention) service(t *testing.T) serviceQuestion {
	j := v.job()
	n, _ := impl.NewNet(j, 2)
	q := serviceQuestion{j: j, twin: n, workers: 2, w: v.Int63n(2)}
	for range v.Intn(40) {
		a := v.act(n.Service.Job, 2)
		q.acts = append(q.acts, a)
		if next, code := impl.StepNet(n, a); code == impl.OK {
			n = next
		}
		q.script += impl.ActText(a) + "\nsum\nopen\n"
	}
	q.script = q.script[:min(len(q.script), 300)]
	q.n, q.a, q.act, q.journal = n, v.act(n.Service.Job, 2), impl.ActText(v.act(j, 2)), n.Journal
	q.s = n.Service
	done, _ := impl.FinishNet(n)
	q.other = done.Service
	q.point = v.nextPoint(n.Service.Job.Point)
	if len(j.Terms) > 0 {
		q.k = v.Int63n(int64(len(j.Terms)))
		q.numbers = v.numbers(int64(len(j.Terms[0])))
		q.r = report(q.k, n.Service.Stamps[q.k], partSlowly(n.Service.Job, int(q.k)))
	}
	return q
}

func TestP1ServicesModifyNothingAndAreNewMemory(t *testing.T) {
	for _, plain := range serviceQuestions(t) {
		for _, f := range serviceFunctions() {
			q := roomyServices(plain)
			checkPureCall(t, f.name+" of "+brief(plain), q.lists(), func() []any { return f.call(q) })
		}
	}
}

func TestP1EqualServiceQuestionsHaveEqualAnswers(t *testing.T) {
	codes := map[string]int{}
	for _, q := range serviceQuestions(t) {
		for _, f := range serviceFunctions() {
			have := sameAnswers(t, f.name, f.call, q, roomyServices(q), emptyServices(q))
			if f.hasCode() {
				countCode(t, codes, f.name, have)
			}
		}
	}
	for _, f := range serviceFunctions() {
		if f.hasCode() && codes[f.name+" 0"] < 20 {
			t.Errorf("%s has so often the codes %v", f.name, codes)
		}
	}
}

// TestP1OneListInAllPlacesOfAService has one list as point, numbers and derivatives, and
// one job, one service and one report in all places.
func TestP1OneListInAllPlacesOfAService(t *testing.T) {
	p := reading(t, "id 2: x0\nprod 2: (x0 * x1)\n")
	for f := range int64(2) {
		shared := roomy([]int64{2})
		j := jobOn(p, f, shared, shared, shared, shared)
		r := report(1, 0, partWith(2, shared...))
		r.Part.Grad = shared
		s := impl.Service{Job: j, Stamps: []int64{0, 0, 0}, Known: []bool{true, false, false}, Parts: []impl.Part{r.Part, {}, {}}, Owners: []int64{-1, -1, 1}}
		queue := []impl.Report{r, r}
		n := impl.Net{Start: j, Service: s, Journal: journalOf("part 0 0 2 2"), Queues: [][]impl.Report{queue, queue}, Flying: queue}
		done := s
		done.Known, done.Parts, done.Owners = []bool{true, true, true}, []impl.Part{r.Part, r.Part, r.Part}, constant(2, -1)
		acts := []impl.Act{{Kind: impl.AcPoint, Numbers: shared}, {Kind: impl.AcTerm, A: 1, Numbers: shared}, {Kind: impl.AcCopy}, {Kind: impl.AcTerm, A: 2, Numbers: shared}, {Kind: impl.AcPoint, Numbers: shared}}
		q := serviceQuestion{j: j, k: 1, w: 1, workers: 3, point: shared, numbers: shared, s: s, other: done, r: r, n: n, twin: n, acts: acts, journal: n.Journal, act: "point 2", script: "give 0 0\nfinish\n"}
		for _, a := range append(acts, impl.Act{Kind: impl.AcWork}, impl.Act{Kind: impl.AcDeliver, A: 1}, impl.Act{Kind: impl.AcCrash}, impl.Act{Kind: impl.AcGive, A: 1}, impl.Act{Kind: impl.AcDown, A: 1}) {
			q.a = a
			apart, before := emptyServices(q), contents(q.lists()...)
			for _, f := range serviceFunctions() {
				have, want := f.call(q), f.call(apart)
				if fmt.Sprint(have...) != fmt.Sprint(want...) || !untouched(shared, []int64{2}) || f.hasCode() && codeOf(have) != impl.OK {
					t.Errorf("%s: %s, and of lists that are apart %s", f.name, brief(have), brief(want))
				}
				if overlap(memoryOf(have...)) || overlap(append(memoryOf(have...), memoryOf(shared, p)...)) {
					t.Errorf("%s: a result shares memory", f.name)
				}
				wipe(have...)
				if contents(q.lists()...) != before {
					t.Fatalf("%s: an argument is modified", f.name)
				}
			}
		}
	}
}

// hugeServices have long lists in each place.
func hugeServices(t *testing.T) map[string][]serviceQuestion {
	long, lists := make([]int64, 1<<20), make([][]int64, 1<<20)
	questions := map[string][]serviceQuestion{}
	add := func(fault string, change func(q *serviceQuestion)) {
		q := serviceAsked(t)
		change(&q)
		questions[fault] = append(questions[fault], q)
	}
	reports := make([]impl.Report, 1<<20)
	add("j", func(q *serviceQuestion) { q.j.Point = long })
	add("j", func(q *serviceQuestion) { q.j.Terms = lists })
	add("j", func(q *serviceQuestion) { q.j.Terms = [][]int64{long} })
	add("j", func(q *serviceQuestion) { q.j.Shared = 1 << 62 })
	add("point", func(q *serviceQuestion) { q.point = long })
	add("numbers", func(q *serviceQuestion) { q.numbers = long })
	add("r", func(q *serviceQuestion) { q.r.Part.Grad = long })
	add("s", func(q *serviceQuestion) { q.s.Job.Terms, q.s.Stamps = lists, long })
	add("s", func(q *serviceQuestion) { q.s.Stamps = long })
	add("s", func(q *serviceQuestion) { q.s.Known = make([]bool, 1<<20) })
	add("s", func(q *serviceQuestion) { q.s.Parts = make([]impl.Part, 1<<20) })
	add("s", func(q *serviceQuestion) { q.s.Parts = replaced(q.s.Parts, 1, partWith(0, long...)) })
	add("s", func(q *serviceQuestion) { q.s.Owners = long })
	add("n", func(q *serviceQuestion) { q.n.Start.Terms = lists })
	add("n", func(q *serviceQuestion) { q.n.Service.Stamps = long })
	add("n", func(q *serviceQuestion) { q.n.Queues = make([][]impl.Report, 1<<20) })
	add("n", func(q *serviceQuestion) { q.n.Queues = [][]impl.Report{reports} })
	add("n", func(q *serviceQuestion) { q.n.Flying = reports })
	add("n", func(q *serviceQuestion) { q.n.Flying = []impl.Report{report(0, 0, partWith(0, long...))} })
	add("n", func(q *serviceQuestion) { q.n.Journal = strings.Repeat("sync\n", 1<<18) })
	add("a", func(q *serviceQuestion) { q.a = impl.Act{Kind: impl.AcPoint, Numbers: long} })
	add("acts", func(q *serviceQuestion) { q.acts = []impl.Act{{Kind: impl.AcPoint, Numbers: long}} })
	return questions
}

func TestP1HugeServiceArgumentsAreAnswered(t *testing.T) {
	for name, questions := range hugeServices(t) {
		for _, q := range questions {
			for _, f := range serviceFunctions() {
				have := f.call(q)
				if slices.Contains(f.faults, name) && (codeOf(have) == impl.OK || !isNothing(have[:len(have)-1])) {
					t.Errorf("%s with a huge %s: %s", f.name, name, brief(have))
				}
			}
		}
	}
	programs := []impl.Program{{Funcs: make([]impl.Func, 1<<20)}, program(function("f", 1, flatList(1<<20)...))}
	for _, e := range hugeExprs() {
		programs = append(programs, program(function("f", 1, e)))
	}
	for _, p := range programs {
		q := serviceQuestion{j: jobOn(p, 0, []int64{1}, nil), workers: 1, point: []int64{1}}
		q.s = serviceOf(q.j, []int64{0}, nil, -1)
		q.other = q.s
		q.n = impl.Net{Start: q.j, Service: q.s, Queues: make([][]impl.Report, 1)}
		q.twin = q.n
		q.a = impl.Act{Kind: impl.AcSync}
		for _, f := range serviceFunctions() {
			if have := f.call(q); f.hasCode() && f.name != "ReadAct" && (codeOf(have) != impl.ErrInvalid || !isNothing(have[:len(have)-1])) {
				t.Errorf("%s of a huge program: %s", f.name, brief(have))
			}
		}
		if !impl.SameService(q.s, q.other) || !impl.SameNet(q.n, q.twin) || impl.ValidNet(q.n) || impl.ValidService(q.s) || impl.ValidJob(q.j) || impl.IsTrue(q.s) {
			t.Error("a huge program is not what it is")
		}
	}
}

// TestP1LargestServicesAreAnswered has a job of most terms and params, whose terms have
// most steps, and most functions in its program.
func TestP1LargestServicesAreAnswered(t *testing.T) {
	p := program(function("h", 1, tree(impl.KDiv, variable(0), flat(396))))
	for k := range 14 {
		p.Funcs = append(p.Funcs, function(fmt.Sprint("f", k), 12, tree(impl.KAdd, variable(0), flat(390))))
	}
	p.Funcs = append(p.Funcs, function("g", 12, tree(impl.KAdd, looping(0, 0, 7, variable(0)), tree(impl.KMul, variable(11), variable(1)))))
	j := jobOn(p, 15, constant(10, impl.P-1))
	for k := range int64(impl.MaxJobTerms) {
		j.Terms = append(j.Terms, []int64{k})
	}
	n := netAfter(t, j, 4, "give 0 0\nwork 0\ncopy 0\nsync\ngive 1 1\nwork 1\ndeliver 0\n")
	var acts []impl.Act
	for k := range impl.MaxActs {
		acts = append(acts, impl.Act{Kind: []int64{impl.AcGive, impl.AcWork, impl.AcCopy, impl.AcCrash}[k%4], A: []int64{int64(k) / 4 % 10, 0, int64(k) % 12, 40}[k%4]})
	}
	run, made, code := impl.RunNet(n, acts)
	if code != impl.OK || made < 100 || !impl.ValidNet(run) || !impl.IsTrue(run.Service) {
		t.Errorf("%d acts are made with the code %d", made, code)
	}
	expectFinished(t, run)
	script := strings.Repeat("give 3 3\nwork 3\ncopy 0\npoint"+strings.Repeat(" 1000002", 11)+"\n", 15)
	if _, code := impl.RunScript(j, 4, script); code != impl.OK {
		t.Errorf("the script has the code %d", code)
	}
}
