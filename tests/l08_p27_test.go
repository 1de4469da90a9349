package tests

import (
	"fmt"
	"slices"
	"strings"
	"testing"

	"loop.example/g01091/impl"
)

// netWith is a net with a job whose journal, which is safe, consists of some lines.
func netWith(t *testing.T, j impl.Job, workers int64, journal string) impl.Net {
	t.Helper()
	n := fineNet(t)(impl.NewNet(j, workers))
	s, taken, code := impl.Replay(j, journal)
	if taken != int64(len(journal)) || code != impl.OK {
		t.Fatalf("%d bytes of %q are taken", taken, journal)
	}
	n.Service, n.Journal, n.Safe = s, journal, taken
	return fineNet(t)(n, impl.OK)
}

// netChange is the result of StepNet and FinishNet.
type netChange struct {
	n    impl.Net
	code int64
}

func netChangeOf(n impl.Net, code int64) netChange { return netChange{n, code} }

// expectSteps makes acts in a net and in its replica, which have to stay the same, and
// returns them.
func expectSteps(t *testing.T, n impl.Net, m replica, text string) (impl.Net, replica) {
	t.Helper()
	for _, a := range actsOf(t, text) {
		after, want := m.step(a)
		next, code := impl.StepNet(n, a)
		sameNumber(t, impl.ActText(a), code, want)
		if code != impl.OK {
			sameText(t, "no net", next, impl.Net{})
			continue
		}
		sameText(t, "the net behind "+impl.ActText(a), next, after.net())
		if !impl.ValidNet(next) || !impl.SameNet(next, after.net()) {
			t.Fatalf("the net behind %s is not valid or not the same", impl.ActText(a))
		}
		n, m = next, after
	}
	return n, m
}

func TestP27Example(t *testing.T) {
	j := jobOn(reading(t, "f 2: ((x0 * x1) + x1)\n"), 0, []int64{3}, []int64{2}, []int64{5})
	text, code := impl.RunScript(j, 1, "give 0 0\nwork 0\ndeliver 0\nsum\nfinish\nsum\n")
	sameText(t, "the script", results(text, code), results("ok\nok\nok\nerror state\nok\n28 7\n", 0))
	n := netAfter(t, j, 1, "give 0 0\nwork 0\ndeliver 0\n")
	if !strings.HasPrefix(n.Journal, "part 0 0 8 2 ") {
		t.Errorf("the journal is %q", n.Journal)
	}
}

func TestP27NewNets(t *testing.T) {
	for _, j := range []impl.Job{exampleJob(t), serviceJob(t), jobOn(reading(t, serviceText), 6, nil)} {
		for workers := int64(1); workers <= impl.MaxWorkers; workers++ {
			want := replicaOf(j, workers).net()
			sameText(t, "NewNet", netChangeOf(impl.NewNet(j, workers)), netChange{want, impl.OK})
			if !impl.ValidNet(want) || int64(len(want.Queues)) != workers || want.Journal != "" {
				t.Errorf("%s is not valid", brief(want))
			}
		}
	}
}

// TestP27ActsByHand makes one act in the rich net, whose codes are known, and whose
// effects are those of the replica.
func TestP27ActsByHand(t *testing.T) {
	n, m := expectSteps(t, fineNet(t)(impl.NewNet(serviceJob(t), 3)), replicaOf(serviceJob(t), 3), richActs)
	have := fmt.Sprint(n.Service.Known, n.Service.Stamps, n.Service.Owners, len(n.Queues[0]), len(n.Queues[1]), len(n.Queues[2]), len(n.Flying))
	if have != "[true true false false] [1 1 1 2] [-1 -1 1 2] 0 1 1 3" {
		t.Fatalf("the rich net is %s", have)
	}
	for text, want := range map[string]int64{
		"give 0 0": impl.ErrState, "give 1 2": impl.ErrState, "give 2 0": impl.ErrState, "give 2 1": impl.ErrState, "give 3 0": impl.ErrState, "give 4 0": impl.ErrRange, "give 2 3": impl.ErrRange, "give 0 3": impl.ErrRange, "give 6000 6000": impl.ErrRange, "give 4 3": impl.ErrRange,
		"work 0": impl.ErrState, "work 1": impl.OK, "work 2": impl.OK, "work 3": impl.ErrRange, "work 6000": impl.ErrRange,
		"deliver 0": impl.OK, "deliver 1": impl.OK, "deliver 2": impl.OK, "deliver 3": impl.ErrRange, "deliver 6000": impl.ErrRange, "copy 0": impl.OK, "copy 1": impl.OK, "copy 2": impl.OK, "copy 3": impl.ErrRange, "drop 0": impl.OK, "drop 1": impl.OK, "drop 2": impl.OK, "drop 3": impl.ErrRange,
		"down 0": impl.OK, "down 1": impl.OK, "down 2": impl.OK, "down 3": impl.ErrRange, "crash 0": impl.OK, "crash 6000": impl.OK, "sync": impl.OK,
		"point 3 5": impl.OK, "point 3 9": impl.OK, "point 0 0": impl.OK, "point": impl.ErrRange, "point 3": impl.ErrRange, "point 3 5 1": impl.ErrRange, "point 1000002 1000002": impl.OK,
		"term 0 2": impl.OK, "term 1 1": impl.OK, "term 2 7": impl.OK, "term 3 0": impl.OK, "term 4 1": impl.ErrRange, "term 0": impl.ErrRange, "term 0 1 1": impl.ErrRange,
	} {
		_, code := impl.StepNet(n, act(t, text))
		sameNumber(t, text, code, want)
		expectSteps(t, n, m, text)
	}
	// A term that is open may be given to each worker.
	n, m = expectSteps(t, n, m, "down 1\ndown 2\n")
	for _, text := range []string{"give 2 0\ngive 3 0\nwork 0\ndeliver 3\nwork 0\ndeliver 3\n", "give 3 1\nwork 1\ncopy 3\ngive 3 0\n", "give 2 2\ngive 2 2\ngive 2 1\ndown 2\ngive 2 1\nwork 1\n"} {
		expectSteps(t, n, m, text)
	}
}

// tenTerms is a job of ten terms.
func tenTerms(t *testing.T) impl.Job {
	j := exampleJob(t)
	j.Terms = nil
	for k := range int64(impl.MaxJobTerms) {
		j.Terms = append(j.Terms, []int64{k})
	}
	return j
}

// TestP27FullQueues gives one worker so many terms as there is room for, and one more.
func TestP27FullQueues(t *testing.T) {
	n, m := fineNet(t)(impl.NewNet(tenTerms(t), 2)), replicaOf(tenTerms(t), 2)
	for k := range impl.MaxQueue {
		n, m = expectSteps(t, n, m, fmt.Sprintf("give %d 1\n", k))
	}
	for text, want := range map[string]int64{"give 8 1": impl.ErrLimit, "give 0 1": impl.ErrState, "give 10 1": impl.ErrRange, "give 8 2": impl.ErrRange, "give 8 0": impl.OK} {
		_, code := impl.StepNet(n, act(t, text))
		sameNumber(t, text, code, want)
		expectSteps(t, n, m, text)
	}
	expectSteps(t, n, m, "work 1\ngive 8 1\ngive 9 1\ndown 1\ngive 9 1\n")
	// A crash forgets who has the terms, but the queue stays.
	n, m = expectSteps(t, n, m, "crash 0\ngive 0 1\ngive 0 0\ngive 9 1\n")
	sameNumber(t, "the queue of the worker 1", int64(len(n.Queues[1])), impl.MaxQueue)
	expectSteps(t, n, m, strings.Repeat("work 1\nwork 0\n", 9)+strings.Repeat("deliver 1\n", 9))
}

// TestP27FullAir sends so many reports as there is room for, and one more.
func TestP27FullAir(t *testing.T) {
	n, m := expectSteps(t, fineNet(t)(impl.NewNet(tenTerms(t), 2)), replicaOf(tenTerms(t), 2), "give 0 0\ngive 1 0\ngive 2 0\ngive 3 0\ngive 4 0\ngive 5 0\ngive 6 0\ngive 7 1\ngive 8 1\ngive 9 1\n"+strings.Repeat("work 0\nwork 1\n", 7)+"crash 0\ngive 4 0\ngive 5 0\ngive 6 0\nwork 0\nwork 0\n")
	sameNumber(t, "the reports under way", int64(len(n.Flying)), impl.MaxFlying)
	for text, want := range map[string]int64{"work 0": impl.ErrLimit, "work 1": impl.ErrState, "work 2": impl.ErrRange, "deliver 11": impl.OK, "deliver 12": impl.ErrRange, "copy 11": impl.OK, "copy 12": impl.ErrRange, "drop 11": impl.OK, "drop 12": impl.ErrRange} {
		_, code := impl.StepNet(n, act(t, text))
		sameNumber(t, text, code, want)
		expectSteps(t, n, m, text)
	}
	expectSteps(t, n, m, "copy 0\nwork 0\ndrop 3\nwork 0\ndrop 0\nwork 0\ndeliver 11\ndeliver 10\n")
}

// wordsOf are the words of all lines of a journal.
func wordsOf(journal string) []string {
	var list []string
	for line := range strings.Lines(journal) {
		list = append(list, line[:strings.LastIndexByte(line, ' ')])
	}
	return list
}

// expectFull makes an act that adds a line with some words, or none, to a journal, if
// there is room for it. It returns how long the journal is then, or would be.
func expectFull(t *testing.T, n impl.Net, text, words string) int {
	t.Helper()
	journal, want := n.Journal, int64(impl.OK)
	if words != "" {
		journal = journalOf(append(wordsOf(n.Journal), words)...)
	}
	bytes := len(journal)
	if bytes > impl.MaxJournal {
		journal, want = "", impl.ErrLimit
	}
	next, code := impl.StepNet(n, act(t, text))
	if code != want || next.Journal != journal || code != impl.OK && !isNothing(results(next)) || code == impl.OK && !impl.ValidNet(next) {
		t.Errorf("%s behind %d bytes: the code %d, and %d bytes", text, len(n.Journal), code, len(next.Journal))
	}
	run, made, code := impl.RunNet(n, actsOf(t, text+"\n"))
	if want != impl.OK {
		sameText(t, text+" that is left out", results(run, made, code), results(n, 0, impl.OK))
	} else {
		sameText(t, text+" that is made", results(run, made, code), results(next, 1, impl.OK))
	}
	return bytes
}

// TestP27FullJournals makes acts in nets whose journals are so long that just as much as
// a line, or one byte less, is left.
func TestP27FullJournals(t *testing.T) {
	zeros := strings.Repeat(" 0", 11)
	j := pointsJob(t, []int64{5}, []int64{6}, []int64{7})
	edges := map[string]int{}
	for bytes := 5935; bytes < 5983; bytes++ {
		text := pointsOf(t, bytes, "part 0 0 5"+zeros, "part 1 0 6"+zeros, "part 2 0 7"+zeros)
		for _, number := range []int64{6, 66} {
			n := netWith(t, j, 1, journalOf(append(wordsOf(text), fmt.Sprint("term 1 ", number))...))
			n.Flying = []impl.Report{report(1, 1, partWith(number, make([]int64, 11)...)), report(0, 0, partWith(5, make([]int64, 11)...)), report(1, 0, failing(impl.ErrZero)), report(1, 1, failing(impl.ErrBudget))}
			part := fmt.Sprint("part 1 1 ", number, zeros)
			for a, words := range map[string]string{"deliver 0": part, "copy 0": part, "deliver 3": "fail 1 1 7", "copy 3": "fail 1 1 7", "point" + zeros: "point" + zeros, "term 0 9": "term 0 9", "term 2 7": "term 2 7", "deliver 1": "", "copy 2": "", "drop 0": "", "sync": "", "give 1 0": ""} {
				edges[fmt.Sprint(a, " ", expectFull(t, n, a, words))]++
			}
			finished, code := impl.FinishNet(n)
			if fits := len(journalOf(append(wordsOf(n.Journal), part)...)) <= impl.MaxJournal; fits != (code == impl.OK) || !fits && (code != impl.ErrLimit || !isNothing(results(finished))) {
				t.Errorf("finished behind %d bytes with the code %d", len(n.Journal), code)
			}
		}
	}
	for _, a := range []string{"deliver 0", "copy 0", "deliver 3", "copy 3", "point" + zeros, "term 0 9", "term 2 7"} {
		if edges[a+" 6000"] == 0 || edges[a+" 6001"] == 0 {
			t.Errorf("%s never comes to the edge: %v", a, edges)
		}
	}
}

// TestP27LastStamps changes a net up to the last stamps, and once more.
func TestP27LastStamps(t *testing.T) {
	n := netWith(t, exampleJob(t), 1, journalOf(slices.Repeat([]string{"term 0 2"}, impl.MaxStamp)...))
	m := replicaOf(exampleJob(t), 1)
	m, _ = m.step(act(t, "term 0 2"))
	m.lines = slices.Repeat(m.lines, impl.MaxStamp)
	m.safe = len(m.lines)
	for text, want := range map[string]int64{"term 0 2": impl.ErrLimit, "term 0 3": impl.ErrLimit, "term 1 3": impl.OK, "point 3": impl.ErrLimit, "point 4": impl.ErrLimit, "give 0 0": impl.OK, "term 0": impl.ErrRange, "point 3 3": impl.ErrRange} {
		_, code := impl.StepNet(n, act(t, text))
		sameNumber(t, text, code, want)
		expectSteps(t, n, m, text)
	}
	expectSteps(t, n, m, "give 0 0\nwork 0\ndeliver 0\npoint 3\npoint 4\nterm 0 1\n")
}

// TestP27Crashes crashes with each number of bytes behind those that are safe.
func TestP27Crashes(t *testing.T) {
	for _, safe := range []string{"", "point 3 5\n", "sync\n"} {
		acts := "give 0 0\nwork 0\ncopy 0\n" + safe + "down 0\ngive 1 1\ngive 2 2\ngive 3 0\nwork 1\nwork 2\nwork 0\ncopy 1\ncopy 2\ncopy 3\ngive 0 1\n"
		n, m := expectSteps(t, fineNet(t)(impl.NewNet(serviceJob(t), 3)), replicaOf(serviceJob(t), 3), acts)
		behind := int64(len(n.Journal)) - n.Safe
		if strings.Count(n.Journal[n.Safe:], "\n") < 3 {
			t.Fatalf("just %q is not safe", n.Journal[n.Safe:])
		}
		lines := map[int]bool{}
		for bytes := range behind + 3 {
			text := fmt.Sprintf("crash %d\n", bytes)
			after, crashed := expectSteps(t, n, m, text)
			complete := strings.LastIndexByte(n.Journal[:n.Safe+min(bytes, behind)], '\n') + 1
			if after.Journal != n.Journal[:complete] || after.Safe != int64(complete) || slices.Max(after.Service.Owners) >= 0 || !impl.IsTrue(after.Service) {
				t.Errorf("%s%d bytes of %d are left, and %d safe", text, len(after.Journal), complete, after.Safe)
			}
			sameText(t, "queues and reports stay", results(after.Queues, after.Flying), results(n.Queues, n.Flying))
			lines[len(crashed.lines)] = true
			// What is left is safe, and goes on.
			again, _ := expectSteps(t, after, crashed, "crash 0\n")
			sameText(t, "a second crash", again, after)
			expectSteps(t, after, crashed, "deliver 0\nwork 1\ndeliver 0\ngive 0 0\nwork 0\ndeliver 0\ncrash 20\npoint 3 4\ncrash 0\n")
			expectFinished(t, after)
		}
		if len(lines) < 4 {
			t.Errorf("so many lines are left: %v", lines)
		}
	}
}

// expectFinished finishes a net, and compares its sum with the total of its job.
func expectFinished(t *testing.T, n impl.Net) {
	t.Helper()
	done, code := impl.FinishNet(n)
	if code != impl.OK || !impl.ValidNet(done) || !impl.IsTrue(done.Service) || slices.Contains(done.Service.Known, false) || len(done.Flying) > 0 || slices.ContainsFunc(done.Queues, func(queue []impl.Report) bool { return len(queue) > 0 }) {
		t.Fatalf("the net is finished with the code %d: %s", code, brief(done))
	}
	sameText(t, "the job", done.Service.Job, n.Service.Job)
	expectTotal(t, "the sum", n.Service.Job, totalOf(impl.SumOf(done.Service)))
}

// TestP27ReportsOfOtherTimes has reports that were sent before a change, a crash or a
// loss, and come afterwards or twice.
func TestP27ReportsOfOtherTimes(t *testing.T) {
	j := exampleJob(t)
	for text, want := range map[string]string{ // what is known, and the number of lines
		"give 0 0\nwork 0\npoint 4\ndeliver 0\n":                                          "[false false] 1",
		"give 0 0\npoint 4\nwork 0\ncopy 0\ndeliver 0\n":                                  "[false false] 1",
		"give 0 0\nwork 0\nterm 0 2\ndeliver 0\n":                                         "[false false] 1",
		"give 0 0\nwork 0\nterm 1 2\ndeliver 0\n":                                         "[true false] 2",
		"give 0 0\nwork 0\ncopy 0\ncopy 0\ncopy 0\n":                                      "[true false] 1",
		"give 0 0\nwork 0\ncopy 0\npoint 4\ncopy 0\n":                                     "[false false] 2",
		"give 0 0\nwork 0\ncopy 0\npoint 3\ncopy 0\n":                                     "[true false] 2",
		"give 0 0\nwork 0\ndown 0\ndeliver 0\n":                                           "[true false] 1",
		"give 0 0\ndown 0\nwork 0\ngive 0 1\nwork 1\ndeliver 0\n":                         "[true false] 1",
		"give 0 0\nwork 0\ncrash 0\ndeliver 0\n":                                          "[true false] 1",
		"give 0 0\nwork 0\ncopy 0\ncrash 0\ncopy 0\ndeliver 0\n":                          "[true false] 1",
		"give 0 0\nwork 0\ncopy 0\nsync\ncrash 0\ncopy 0\n":                               "[true false] 1",
		"give 0 0\nwork 0\npoint 4\ncrash 0\ndeliver 0\n":                                 "[false false] 1",
		"give 0 0\nwork 0\ncopy 0\npoint 4\npoint 3\ncrash 0\ndeliver 0\n":                "[false false] 3",
		"give 0 0\nwork 0\ngive 0 1\ncrash 0\ngive 0 1\nwork 1\ndeliver 1\ndeliver 0\n":   "[true false] 1",
		"point 4\ngive 0 0\nwork 0\nterm 0 9\ncrash 5\nterm 0 2\ndeliver 0\n":             "[false false] 3",
		"give 0 0\nwork 0\ncopy 0\ncrash 6000\nterm 0 9\ngive 0 1\nwork 1\ndeliver 0\n":   "[false false] 2",
		"give 0 0\nwork 0\ncopy 0\ncrash 6000\nterm 0 9\ngive 0 1\nwork 1\ndeliver 1\n":   "[true false] 3",
		"give 0 0\nwork 0\ndrop 0\ngive 0 0\ndown 0\ngive 0 0\nwork 0\ndeliver 0\ncopy 0": "[true false] 1",
	} {
		n, _ := expectSteps(t, fineNet(t)(impl.NewNet(j, 2)), replicaOf(j, 2), text)
		sameText(t, text, fmt.Sprint(n.Service.Known, " ", strings.Count(n.Journal, "\n")), want)
		if !impl.IsTrue(n.Service) {
			t.Errorf("%q: the service is wrong", text)
		}
		expectFinished(t, n)
	}
}

// TestP27FinishedNets finishes nets of jobs of all numbers of terms and workers, of which
// some terms fail.
func TestP27FinishedNets(t *testing.T) {
	p := reading(t, serviceText)
	for terms := range impl.MaxJobTerms + 1 {
		for workers := int64(1); workers <= impl.MaxWorkers; workers++ {
			j := jobOn(p, 3, []int64{int64(terms % 4)})
			for k := range terms {
				j.Terms = append(j.Terms, []int64{int64(k)})
			}
			n, m := fineNet(t)(impl.NewNet(j, workers)), replicaOf(j, workers)
			expectFinished(t, n)
			for k := range terms / 2 {
				n, m = expectSteps(t, n, m, fmt.Sprintf("give %d %d\nwork %d\ncopy 0\n", k, int64(k)%workers, int64(k)%workers))
			}
			expectFinished(t, n)
			done, _ := expectSteps(t, n, m, finishingText(n))
			sameText(t, "the acts of FinishNet", netChangeOf(impl.FinishNet(n)), netChange{done, impl.OK})
			sameText(t, "finished again", netChangeOf(impl.FinishNet(done)), netChange{done, impl.OK})
		}
	}
}

// finishingText are the texts of the acts that finish a net.
func finishingText(n impl.Net) string {
	text := strings.Repeat("drop 0\n", len(n.Flying))
	for worker := range n.Queues {
		text += fmt.Sprintf("down %d\n", worker)
	}
	for term, known := range n.Service.Known {
		if !known {
			text += fmt.Sprintf("give %d 0\nwork 0\ndeliver 0\n", term)
		}
	}
	return text
}

// TestP27RunsOfActs has so many acts as there may be, and one more, and counts those that
// are made.
func TestP27RunsOfActs(t *testing.T) {
	n := richNet(t)
	for _, c := range []struct {
		text string
		made int64
	}{
		{"", 0}, {"sync\n", 1}, {"work 0\n", 0}, {"work 0\nsync\nwork 5\ndrop 2\ndrop 2\ndrop 1\n", 3}, {strings.Repeat("sync\n", 200), 200}, {strings.Repeat("work 0\n", 200), 0}, {strings.Repeat("drop 0\n", 200), 3}, {strings.Repeat("drop 0\nsync\n", 100), 103},
	} {
		acts, want := actsOf(t, c.text), n
		for _, a := range acts {
			if next, code := impl.StepNet(want, a); code == impl.OK {
				want = next
			}
		}
		have, made, code := impl.RunNet(n, acts)
		sameText(t, brief(c.text), results(have, made, code), results(want, c.made, impl.OK))
	}
	have, made, code := impl.RunNet(n, actsOf(t, strings.Repeat("sync\n", 201)))
	sameText(t, "201 acts", results(have, made, code), results(impl.Net{}, 0, impl.ErrRange))
}

// TestP27ManyNets makes long mixed lists of acts in nets and in their replicas. Behind
// each one no sum is wrong, and in the end the net can be finished.
func TestP27ManyNets(t *testing.T) {
	counts, sums := map[string]int{}, 0
	for seed := range int64(150) {
		v := inventions(seed)
		j, workers := v.job(), 1+v.Int63n(impl.MaxWorkers)
		first := fineNet(t)(impl.NewNet(j, workers))
		n, m := first, replicaOf(j, workers)
		var acts []impl.Act
		made := int64(0)
		for range 120 {
			a := v.act(n.Service.Job, workers)
			acts = append(acts, a)
			next, code := impl.StepNet(n, a)
			after, want := m.step(a)
			sameNumber(t, impl.ActText(a), code, want)
			counts[fmt.Sprint(a.Kind, " ", code)]++
			if code == impl.OK {
				n, m, made = next, after, made+1
			}
			if fmt.Sprint(n) != fmt.Sprint(m.net()) || !impl.ValidNet(n) || !impl.IsTrue(n.Service) {
				t.Fatalf("the net behind %s is %s, want %s", impl.ActText(a), fmt.Sprint(n), fmt.Sprint(m.net()))
			}
			if sum := totalOf(impl.SumOf(n.Service)); sum.code != impl.ErrState {
				sums++
				expectTotal(t, "a sum on the way", n.Service.Job, sum)
			}
		}
		run, count, code := impl.RunNet(first, acts)
		sameText(t, "RunNet", results(run, count, code), results(n, made, impl.OK))
		expectFinished(t, run)
		// The job is that of the beginning with all changes of the journal.
		last := j
		last.Terms = slices.Clone(j.Terms)
		for _, e := range m.lines {
			switch e.word {
			case "point":
				last.Point = e.numbers
			case "term":
				last.Terms[e.term] = e.numbers
			}
		}
		sameText(t, "the job in the end", run.Service.Job, last)
	}
	for kind := int64(impl.AcGive); kind <= impl.AcTerm; kind++ {
		if counts[fmt.Sprint(kind, " 0")] < 100 {
			t.Errorf("so often the kinds have the codes %v", counts)
		}
	}
	if sums < 300 {
		t.Errorf("just %d sums", sums)
	}
}

// TestP27SameNets compares nets of which one field differs.
func TestP27SameNets(t *testing.T) {
	n := richNet(t)
	others := append(someOf(faultyNets(t), 150), with(n,
		func(n *impl.Net) { n.Safe = int64(len(n.Journal)) },
		func(n *impl.Net) { n.Service.Owners = []int64{-1, -1, 1, 1} },
		func(n *impl.Net) { n.Flying = n.Flying[:2] },
		func(n *impl.Net) { n.Flying = []impl.Report{n.Flying[1], n.Flying[0], n.Flying[2]} },
		func(n *impl.Net) { n.Flying = replaced(n.Flying, 1, report(0, 2, n.Flying[1].Part)) },
		func(n *impl.Net) { n.Flying = replaced(n.Flying, 1, report(1, 1, n.Flying[1].Part)) },
		func(n *impl.Net) { n.Flying = replaced(n.Flying, 1, report(0, 1, partWith(1, 2, 3))) },
		func(n *impl.Net) { n.Queues = append(slices.Clip(n.Queues), nil) },
		func(n *impl.Net) { n.Queues = [][]impl.Report{n.Queues[1], n.Queues[0], n.Queues[2]} },
		func(n *impl.Net) { n.Queues = replaced(n.Queues, 2, nil) },
	)...)
	var texts []string
	for _, other := range others {
		texts = append(texts, fmt.Sprint(other))
	}
	for k, a := range others {
		if impl.SameNet(n, a) || impl.SameNet(a, n) || !impl.SameNet(a, a) {
			t.Errorf("the net %d is not told from another one", k)
		}
		for i, b := range others {
			if have := impl.SameNet(a, b); have != (texts[k] == texts[i]) {
				t.Errorf("the nets %d and %d: %v", k, i, have)
			}
		}
	}
	if !impl.SameNet(n, richNet(t)) || !impl.SameNet(n, emptyNet(n)) || !impl.SameNet(impl.Net{}, impl.Net{Queues: [][]impl.Report{}, Flying: []impl.Report{}}) {
		t.Error("the same net is taken for another one")
	}
}
