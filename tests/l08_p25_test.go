package tests

import (
	"fmt"
	"slices"
	"testing"

	"loop.example/g01091/impl"
)

// serviceOf is a service with a job, with the terms at some stamps, of which some are
// known, and the owners of the others.
func serviceOf(j impl.Job, stamps []int64, parts map[int]impl.Part, owners ...int64) impl.Service {
	s := impl.Service{Job: j, Stamps: stamps, Known: make([]bool, len(stamps)), Parts: make([]impl.Part, len(stamps)), Owners: owners}
	for k, part := range parts {
		s.Known[k], s.Parts[k] = true, part
	}
	return s
}

// taken is the result of TakeReport.
type taken struct {
	s    impl.Service
	yes  bool
	code int64
}

func takenOf(s impl.Service, yes bool, code int64) taken { return taken{s, yes, code} }

// afterChange is the result of the other functions that change a service.
type afterChange struct {
	s    impl.Service
	code int64
}

func changeOf(s impl.Service, code int64) afterChange { return afterChange{s, code} }

func TestP25NewServices(t *testing.T) {
	for _, j := range []impl.Job{exampleJob(t), serviceJob(t), jobOn(reading(t, serviceText), 6, nil), jobOn(reading(t, serviceText), 5, nil, []int64{3})} {
		terms := len(j.Terms)
		want := serviceOf(j, make([]int64, terms), nil, constant(terms-1, -1)...)
		sameText(t, "NewService", changeOf(impl.NewService(j)), changeOf(want, impl.OK))
		if !impl.ValidService(want) || !impl.IsTrue(want) {
			t.Errorf("%s has to be valid and true", brief(want))
		}
		value, grad, code := impl.SumOf(want)
		if terms > 0 {
			sameText(t, "no part is known", totalOf(value, grad, code), total{code: impl.ErrState})
		} else {
			expectTotal(t, "there are no terms", j, totalOf(value, grad, code))
		}
	}
}

// TestP25GivenTerms has terms that are open, given to each worker, known, and known to
// fail, for each worker.
func TestP25GivenTerms(t *testing.T) {
	j := serviceJob(t)
	parts := map[int]impl.Part{0: partWith(6, 2, 3), 1: failing(impl.ErrZero)}
	for owner := int64(-1); owner < impl.MaxWorkers; owner++ {
		s := serviceOf(j, []int64{0, 1, 50, 3}, parts, -1, -1, owner, 2)
		for w := range int64(impl.MaxWorkers) {
			for k := range int64(4) {
				want := changeOf(impl.Service{}, impl.ErrState)
				if k == 2 && owner < 0 {
					want = changeOf(serviceOf(j, s.Stamps, parts, -1, -1, w, 2), impl.OK)
				}
				sameText(t, fmt.Sprintf("the term %d for %d beside %d", k, w, owner), changeOf(impl.GiveTerm(s, k, w)), want)
			}
			lost := slices.Clone(s.Owners)
			for k := range lost {
				if lost[k] == w {
					lost[k] = -1
				}
			}
			sameText(t, fmt.Sprintf("%d is lost beside %d", w, owner), changeOf(impl.LoseWorker(s, w)), changeOf(serviceOf(j, s.Stamps, parts, lost...), impl.OK))
		}
		want := []int64{2}
		if owner >= 0 {
			want = nil
		}
		same(t, "the open terms", fine(t)(impl.OpenTerms(s)), want)
	}
	s := serviceOf(j, make([]int64, 4), nil, 3, 0, 3, 3)
	sameText(t, "all terms of a worker", changeOf(impl.LoseWorker(s, 3)), changeOf(serviceOf(j, make([]int64, 4), nil, -1, 0, -1, -1), impl.OK))
	same(t, "all terms are open", fine(t)(impl.OpenTerms(serviceOf(j, make([]int64, 4), nil, constant(3, -1)...))), []int64{0, 1, 2, 3})
}

// TestP25Reports has reports that come in time, late, early and again, of terms that are
// open, given and known.
func TestP25Reports(t *testing.T) {
	j := serviceJob(t)
	parts := map[int]impl.Part{0: partWith(6, 2, 3), 1: failing(impl.ErrZero)}
	s := serviceOf(j, []int64{0, 1, 50, 3}, parts, -1, -1, -1, 2)
	for _, part := range []impl.Part{partWith(7, 1, 0), partWith(0, 0, 0), partWith(impl.P-1, impl.P-1, impl.P-1), failing(impl.ErrZero), failing(impl.ErrBudget), parts[0]} {
		for k := range int64(4) {
			for stamp := range int64(impl.MaxStamp + 1) {
				want := taken{s, false, impl.OK}
				if k >= 2 && stamp == s.Stamps[k] {
					more := map[int]impl.Part{0: parts[0], 1: parts[1], int(k): part}
					owners := replaced(s.Owners, int(k), -1)
					want = taken{serviceOf(j, s.Stamps, more, owners...), true, impl.OK}
				}
				have := takenOf(impl.TakeReport(s, report(k, stamp, part)))
				sameText(t, fmt.Sprintf("the term %d with the stamp %d: %v", k, stamp, part), have, want)
				if want.yes {
					again := takenOf(impl.TakeReport(have.s, report(k, stamp, part)))
					sameText(t, "the same report again", again, taken{want.s, false, impl.OK})
				}
			}
		}
	}
	for k, faulty := range faultyReports(4, 2) {
		sameText(t, fmt.Sprintf("the faulty report %d", k), takenOf(impl.TakeReport(s, faulty)), taken{code: impl.ErrRange})
	}
}

// TestP25PartsOfOtherForms has parts with the form of jobs that share another number of
// parameters.
func TestP25PartsOfOtherForms(t *testing.T) {
	p := reading(t, serviceText)
	for shared := range 4 {
		j := jobOn(p, 0, make([]int64, shared), make([]int64, 3-shared))
		s := fineService(t)(impl.NewService(j))
		for count := range 6 {
			_, yes, code := impl.TakeReport(s, report(0, 0, partWith(5, make([]int64, count)...)))
			if yes != (count == shared) || (code == impl.OK) != (count == shared) {
				t.Errorf("%d derivatives for %d: %v and the code %d", count, shared, yes, code)
			}
		}
		for _, faulty := range faultyParts(int64(shared)) {
			if _, yes, code := impl.TakeReport(s, report(0, 0, faulty)); yes || code != impl.ErrRange {
				t.Errorf("%v for %d: %v and the code %d", faulty, shared, yes, code)
			}
		}
	}
}

// TestP25TruthOfServices has right and wrong parts.
func TestP25TruthOfServices(t *testing.T) {
	j := serviceJob(t)
	half, _ := impl.Inverse(2)
	right := map[int]impl.Part{0: partWith(6, 2, impl.Times(3, half)), 1: failing(impl.ErrZero)}
	stamps := make([]int64, 4)
	for _, c := range []struct {
		parts map[int]impl.Part
		want  bool
	}{
		{nil, true}, {right, true}, {map[int]impl.Part{0: right[0]}, true}, {map[int]impl.Part{1: right[1]}, true},
		{map[int]impl.Part{0: partWith(7, 2, impl.Times(3, half))}, false}, {map[int]impl.Part{0: partWith(6, 3, impl.Times(3, half))}, false}, {map[int]impl.Part{0: partWith(6, 2, 3)}, false}, {map[int]impl.Part{0: failing(impl.ErrZero)}, false},
		{map[int]impl.Part{1: failing(impl.ErrBudget)}, false}, {map[int]impl.Part{1: partWith(0, 0, 0)}, false}, {map[int]impl.Part{0: right[0], 1: failing(impl.ErrBudget)}, false}, {map[int]impl.Part{0: right[0], 1: right[1], 3: right[0]}, false},
	} {
		s := serviceOf(j, stamps, c.parts, -1, -1, -1, -1)
		if !impl.ValidService(s) || impl.IsTrue(s) != c.want {
			t.Errorf("%v: want %v", c.parts, c.want)
		}
	}
}

// TestP25SumsOfParts has sums of parts, also of wrong ones.
func TestP25SumsOfParts(t *testing.T) {
	j := exampleJob(t)
	stamps := make([]int64, 2)
	for _, c := range []struct {
		parts []impl.Part
		want  total
	}{
		{[]impl.Part{partWith(8, 2), partWith(20, 5)}, total{28, []int64{7}, impl.OK}}, {[]impl.Part{partWith(1, 2), partWith(3, 4)}, total{4, []int64{6}, impl.OK}}, {[]impl.Part{partWith(impl.P-1, impl.P-1), partWith(1, 2)}, total{0, []int64{1}, impl.OK}},
		{[]impl.Part{failing(impl.ErrZero), partWith(1, 2)}, total{code: impl.ErrZero}}, {[]impl.Part{partWith(1, 2), failing(impl.ErrBudget)}, total{code: impl.ErrBudget}}, {[]impl.Part{failing(impl.ErrBudget), failing(impl.ErrZero)}, total{code: impl.ErrBudget}}, {[]impl.Part{failing(impl.ErrZero), failing(impl.ErrBudget)}, total{code: impl.ErrZero}},
	} {
		s := serviceOf(j, stamps, map[int]impl.Part{0: c.parts[0], 1: c.parts[1]}, -1, -1)
		sameText(t, fmt.Sprint(c.parts), totalOf(impl.SumOf(s)), c.want)
		for k := range 2 {
			s := serviceOf(j, stamps, map[int]impl.Part{k: c.parts[k]}, -1, -1)
			sameText(t, "a part is not known", totalOf(impl.SumOf(s)), total{code: impl.ErrState})
		}
	}
}

// TestP25PointsByHand changes a point on which known terms depend, or not, beside a term
// that fails, one that is given and one that is open.
func TestP25PointsByHand(t *testing.T) {
	p := reading(t, "f 4: if(x2; (x0 * x3); (x1 + (1 / x3))) | x3\n")
	terms := [][]int64{{0, 5}, {1, 5}, {2, 0}, {0, 6}, {1, 6}}
	j := jobOn(p, 0, []int64{3, 4}, terms...)
	s := fineService(t)(impl.NewService(j))
	for k := range int64(3) {
		part, _ := impl.PartOf(j, k)
		s, _, _ = impl.TakeReport(s, report(k, 0, part))
	}
	s = fineService(t)(impl.GiveTerm(s, 3, 2))
	if fmt.Sprint(s.Known, s.Owners) != "[true true true false false] [-1 -1 -1 2 -1]" || s.Parts[2].Code != impl.ErrZero {
		t.Fatalf("the service before is %s", brief(s))
	}
	for _, c := range []struct {
		point  []int64
		stamps []int64
		stay   []int
	}{
		{[]int64{3, 4}, []int64{0, 0, 1, 1, 1}, []int{0, 1}}, {[]int64{5, 4}, []int64{1, 0, 1, 1, 1}, []int{1}}, {[]int64{3, 9}, []int64{0, 1, 1, 1, 1}, []int{0}}, {[]int64{0, 0}, []int64{1, 1, 1, 1, 1}, nil},
	} {
		other := j
		other.Point = c.point
		parts := map[int]impl.Part{}
		for _, k := range c.stay {
			parts[k] = s.Parts[k]
		}
		have := changeOf(impl.ChangePoint(s, c.point))
		sameText(t, fmt.Sprint("the point ", c.point), have, changeOf(serviceOf(other, c.stamps, parts, constant(4, -1)...), impl.OK))
		if !impl.IsTrue(have.s) {
			t.Errorf("the service is wrong at %v", c.point)
		}
	}
}

// TestP25TermsByHand changes a term that is known, one that fails, one that is given and
// one that is open, to other numbers and to the same ones.
func TestP25TermsByHand(t *testing.T) {
	j := serviceJob(t)
	parts := map[int]impl.Part{0: partWith(6, 2, 3), 1: failing(impl.ErrZero)}
	s := serviceOf(j, []int64{0, 1, 49, 3}, parts, -1, -1, 1, -1)
	for k := range 4 {
		for _, number := range []int64{0, 9, j.Terms[k][0], impl.P - 1} {
			other := j
			other.Terms = replaced(j.Terms, k, []int64{number})
			rest := map[int]impl.Part{}
			for known, part := range parts {
				if known != k {
					rest[known] = part
				}
			}
			want := serviceOf(other, replaced(s.Stamps, k, s.Stamps[k]+1), rest, replaced(s.Owners, k, -1)...)
			sameText(t, fmt.Sprintf("the term %d becomes %d", k, number), changeOf(impl.ChangeTerm(s, int64(k), []int64{number})), changeOf(want, impl.OK))
		}
	}
}

// TestP25LastStamps changes terms up to the last stamp, and once more.
func TestP25LastStamps(t *testing.T) {
	j := exampleJob(t)
	s := fineService(t)(impl.NewService(j))
	for stamp := range int64(impl.MaxStamp) {
		late := report(0, stamp, partWith(8, 2))
		if stamp%2 == 0 {
			s = fineService(t)(impl.ChangeTerm(s, 0, []int64{2}))
		} else {
			s, _, _ = impl.TakeReport(s, late)
			s = fineService(t)(impl.ChangeTerm(s, 0, []int64{2}))
		}
		sameNumber(t, "the stamp", s.Stamps[0], stamp+1)
		sameText(t, "a late report", takenOf(impl.TakeReport(s, late)), taken{s, false, impl.OK})
	}
	known, yes, code := impl.TakeReport(s, report(0, impl.MaxStamp, partWith(8, 2)))
	if !yes || code != impl.OK || !impl.IsTrue(known) {
		t.Errorf("the last report: %v and the code %d", yes, code)
	}
	refused := changeOf(impl.Service{}, impl.ErrLimit)
	for _, at := range []impl.Service{s, known} {
		sameText(t, "one change more", changeOf(impl.ChangeTerm(at, 0, []int64{2})), refused)
		sameText(t, "another point", changeOf(impl.ChangePoint(at, []int64{4})), refused)
		sameText(t, "the other term", changeOf(impl.ChangeTerm(at, 1, []int64{2})).code, impl.OK)
	}
	sameText(t, "the same point for an open term", changeOf(impl.ChangePoint(s, []int64{3})), refused)
	sameText(t, "the same point for a known term", changeOf(impl.ChangePoint(known, []int64{3})), changeOf(serviceOf(j, []int64{50, 1}, map[int]impl.Part{0: partWith(8, 2)}, -1, -1), impl.OK))
	last := serviceOf(j, []int64{49, 50}, nil, -1, 2)
	sameText(t, "a stamp that is the last one behind another", changeOf(impl.ChangePoint(last, []int64{4})), refused)
	sameText(t, "stamps before the last one", changeOf(impl.ChangePoint(serviceOf(j, []int64{49, 49}, nil, -1, 2), []int64{3})), changeOf(serviceOf(j, []int64{50, 50}, nil, -1, -1), impl.OK))
	failed := serviceOf(jobOn(j.Program, 3, []int64{0}, []int64{2}), []int64{50}, map[int]impl.Part{0: failing(impl.ErrZero)}, -1)
	sameText(t, "the same point for a term that fails", changeOf(impl.ChangePoint(failed, []int64{0})), refused)
}

// changeStep makes some change of a service and of its replica, and returns the service,
// and how many reports have been taken and have come too late.
func (v *invention) changeStep(t *testing.T, s impl.Service, m *replica, late *[]impl.Report) impl.Service {
	t.Helper()
	terms := int64(len(s.Owners))
	k, w := v.Int63n(terms), v.Int63n(impl.MaxWorkers)
	switch v.Intn(6) {
	case 0:
		next, code := impl.GiveTerm(s, k, w)
		if s.Known[k] || s.Owners[k] >= 0 {
			sameNumber(t, "the term is known or given", code, impl.ErrState)
			return s
		}
		m.owners = replaced(m.owners, int(k), w)
		return fineService(t)(next, code)
	case 1:
		for i, owner := range m.owners {
			if owner == w {
				m.owners = replaced(m.owners, i, -1)
			}
		}
		return fineService(t)(impl.LoseWorker(s, w))
	case 2, 3:
		r := report(k, s.Stamps[k], partSlowly(s.Job, int(k)))
		if v.Intn(2) == 0 && len(*late) > 0 {
			r = (*late)[v.Intn(len(*late))]
		}
		*late = append(*late, r)
		next, yes, code := impl.TakeReport(s, r)
		if want := m.tell(tellingReport(r)); yes != (want == impl.OK) || code != impl.OK {
			t.Errorf("%v is taken: %v, with the code %d", r, yes, code)
		}
		return next
	}
	e := told{word: "point", numbers: v.nextPoint(s.Job.Point)}
	change := func() (impl.Service, int64) { return impl.ChangePoint(s, e.numbers) }
	if v.Intn(2) == 0 {
		e = told{word: "term", term: k, numbers: v.numbers(int64(len(s.Job.Terms[k])))}
		change = func() (impl.Service, int64) { return impl.ChangeTerm(s, k, e.numbers) }
	}
	want := m.tell(e)
	next, code := change()
	sameNumber(t, e.words(), code, want)
	if code != impl.OK {
		return s
	}
	return next
}

// TestP25ManyChanges compares services with their replicas, behind each report and each
// change, which all keep them true.
func TestP25ManyChanges(t *testing.T) {
	sums, stale := 0, 0
	for seed := range int64(250) {
		v := inventions(seed)
		j := v.job()
		if len(j.Terms) == 0 {
			continue
		}
		s, m := fineService(t)(impl.NewService(j)), replicaOf(j, impl.MaxWorkers)
		var late []impl.Report
		for range 40 {
			s = v.changeStep(t, s, &m, &late)
			sameText(t, "the service", s, m.service())
			if !impl.ValidService(s) || !impl.IsTrue(s) || !impl.SameService(s, m.service()) {
				t.Fatalf("the service is not true behind %v", m.lines)
			}
			var open []int64
			for k, known := range s.Known {
				if !known && s.Owners[k] < 0 {
					open = append(open, int64(k))
				}
			}
			same(t, "the open terms", fine(t)(impl.OpenTerms(s)), open)
			sum := totalOf(impl.SumOf(s))
			if slices.Contains(s.Known, false) {
				sameText(t, "a sum of which not all is known", sum, total{code: impl.ErrState})
				continue
			}
			sums++
			expectTotal(t, "the sum", s.Job, sum)
		}
		for _, r := range late {
			if r.Stamp < s.Stamps[r.Term] {
				stale++
			}
		}
	}
	if sums < 300 || stale < 300 {
		t.Errorf("%d sums and %d late reports", sums, stale)
	}
}

// TestP25SameServices compares services of which one field differs.
func TestP25SameServices(t *testing.T) {
	s := richNet(t).Service
	others := append(otherServices(s), faultyServices(serviceAsked(t).s)...)
	others = append(others, with(s, setting(func(s *impl.Service) *[]int64 { return &s.Owners }, []int64{-1, -1, 0, 2}, []int64{-1, -1, 1, -1})...)...)
	others = append(others, with(s, setting(func(s *impl.Service) *[]impl.Part { return &s.Parts }, replaced(s.Parts, 0, impl.Part{Value: s.Parts[0].Value}))...)...)
	others = append(others, with(s, func(s *impl.Service) { s.Parts = replaced(s.Parts, 3, impl.Part{Value: 1}) })...)
	for k, other := range others {
		if impl.SameService(s, other) || impl.SameService(other, s) {
			t.Errorf("the service %d is taken for the same: %s", k, brief(other))
		}
		if !impl.SameService(other, other) {
			t.Errorf("the service %d is not what it is: %s", k, brief(other))
		}
	}
	var texts []string
	for _, other := range others {
		texts = append(texts, fmt.Sprint(other))
	}
	for k, a := range others {
		for i, b := range others {
			if have := impl.SameService(a, b); have != (texts[k] == texts[i]) {
				t.Errorf("the services %d and %d: %v", k, i, have)
			}
		}
	}
	empty := impl.Service{Job: impl.Job{Point: []int64{}, Terms: [][]int64{}}, Stamps: []int64{}, Known: []bool{}, Parts: []impl.Part{}, Owners: []int64{}}
	if !impl.SameService(empty, impl.Service{}) || !impl.SameService(s, emptyService(s)) {
		t.Error("empty lists are the same as nil")
	}
}
