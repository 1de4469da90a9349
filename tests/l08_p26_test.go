package tests

import (
	"fmt"
	"slices"
	"strings"
	"testing"

	"loop.example/g01091/impl"
)

// replayed is the result of Replay.
type replayed struct {
	s     impl.Service
	taken int64
	code  int64
}

func replayOf(s impl.Service, taken, code int64) replayed { return replayed{s, taken, code} }

// replayAfter is the result of a text for a job of which just so many lines are taken.
func replayAfter(j impl.Job, lines ...told) replayed {
	m := replicaOf(j, 1)
	for _, e := range lines {
		m.tell(e)
	}
	return replayed{m.service(), int64(len(m.journal(len(m.lines)))), impl.OK}
}

// toldBy is what the words of a line tell, which have to be of the form of the table.
func toldBy(t *testing.T, words string) told {
	t.Helper()
	var numbers []int64
	list := strings.Split(words, " ")
	for _, word := range list[1:] {
		var number int64
		if _, err := fmt.Sscan(word, &number); err != nil {
			t.Fatalf("%q is no number", word)
		}
		numbers = append(numbers, number)
	}
	switch list[0] {
	case "part":
		return tellingReport(report(numbers[0], numbers[1], partWith(numbers[2], numbers[3:]...)))
	case "fail":
		return tellingReport(report(numbers[0], numbers[1], failing(numbers[2])))
	case "term":
		return told{word: "term", term: numbers[0], numbers: numbers[1:]}
	}
	return told{word: "point", numbers: numbers}
}

func toldByAll(t *testing.T, lines []string) []told {
	t.Helper()
	var list []told
	for _, words := range lines {
		list = append(list, toldBy(t, words))
	}
	return list
}

// TestP26ChecksByHand has lines with checks that are known.
func TestP26ChecksByHand(t *testing.T) {
	j := exampleJob(t)
	text := "part 0 0 8 2 376900\npart 1 0 20 5 754814\npoint 4 690619\nterm 1 6 145516\n"
	want := j
	want.Point, want.Terms = []int64{4}, [][]int64{{2}, {6}}
	sameText(t, "four lines", replayOf(impl.Replay(j, text)), replayed{serviceOf(want, []int64{1, 2}, nil, -1, -1), int64(len(text)), impl.OK})
	sameText(t, "two lines", replayOf(impl.Replay(j, text[:41])), replayed{serviceOf(j, []int64{0, 0}, map[int]impl.Part{0: partWith(8, 2), 1: partWith(20, 5)}, -1, -1), 41, impl.OK})
	sameText(t, "a failing part", replayOf(impl.Replay(j, "fail 1 0 6 390436\n")), replayed{serviceOf(j, []int64{0, 0}, map[int]impl.Part{1: failing(impl.ErrZero)}, -1, -1), 18, impl.OK})
	none := jobOn(j.Program, 6, nil, nil)
	sameText(t, "a point of no numbers", replayOf(impl.Replay(none, "point 886412\n")), replayed{serviceOf(none, []int64{1}, nil, -1), 13, impl.OK})
	for _, words := range []string{"part 0 0 8 2", "part 1 0 20 5", "fail 1 0 6", "point 4", "term 1 6"} {
		text := journalOf(words)
		if _, taken, code := impl.Replay(j, text); taken != int64(len(text)) || code != impl.OK {
			t.Errorf("%q: %d bytes are taken with the code %d", text, taken, code)
		}
	}
}

// TestP26LinesByHand has a line of each kind behind others, with the check that belongs
// to its words: some are taken, and others are not as they are none of the table, or as
// what they tell is not possible.
func TestP26LinesByHand(t *testing.T) {
	j := exampleJob(t)
	fifty := slices.Repeat([]string{"term 0 2"}, 50)
	for _, c := range []struct {
		before []string
		line   string
		want   bool
	}{
		{nil, "part 0 0 8 2", true}, {nil, "part 1 0 0 0", true}, {nil, "part 0 0 1000002 1000002", true}, {nil, "fail 0 0 6", true}, {nil, "fail 1 0 7", true}, {nil, "point 4", true}, {nil, "point 3", true}, {nil, "point 0", true}, {nil, "point 1000002", true}, {nil, "term 0 2", true}, {nil, "term 1 1000002", true},
		{[]string{"term 0 2"}, "part 0 1 8 2", true}, {[]string{"point 4"}, "fail 1 1 6", true}, {fifty, "part 0 50 8 2", true}, {fifty, "term 1 3", true}, {[]string{"part 0 0 8 2"}, "fail 1 0 6", true},
		// no report that is taken
		{[]string{"part 0 0 8 2"}, "part 0 0 8 2", false}, {[]string{"part 0 0 8 2"}, "part 0 0 9 2", false}, {[]string{"part 0 0 8 2"}, "fail 0 0 6", false}, {[]string{"fail 0 0 6"}, "part 0 0 8 2", false}, {nil, "part 0 1 8 2", false}, {[]string{"term 0 2"}, "part 0 0 8 2", false}, {[]string{"point 3"}, "fail 0 0 6", false}, {fifty, "part 0 49 8 2", false}, {fifty, "part 0 51 8 2", false},
		{nil, "part 2 0 8 2", false}, {nil, "part 999999 0 8 2", false}, {nil, "part 1000003 0 8 2", false}, {nil, "part 0 9223372036854775808 8 2", false}, {nil, "part 18446744073709551616 0 8 2", false}, {nil, "part 0 0 1000003 2", false}, {nil, "part 0 0 8 1000003", false}, {nil, "part 0 0 8", false}, {nil, "part 0 0 8 2 2", false}, {nil, "part 0 0", false}, {nil, "part 0", false}, {nil, "part", false},
		{nil, "fail 0 0 0", false}, {nil, "fail 0 0 1", false}, {nil, "fail 0 0 5", false}, {nil, "fail 0 0 8", false}, {nil, "fail 0 0 1000003", false}, {nil, "fail 2 0 6", false}, {nil, "fail 0 1 6", false}, {nil, "fail 0 0", false}, {nil, "fail 0", false}, {nil, "fail", false}, {nil, "fail 0 0 6 0", false}, {nil, "fail 0 0 6 6 6", false},
		// no change that returns OK
		{nil, "point", false}, {nil, "point 4 4", false}, {nil, "point 1000003", false}, {nil, "term", false}, {nil, "term 0", false}, {nil, "term 0 2 2", false}, {nil, "term 2 2", false}, {nil, "term 0 1000003", false}, {nil, "term 1000003 2", false}, {fifty, "term 0 2", false}, {fifty, "point 3", false}, {fifty, "point 4", false},
		// none of the table
		{nil, "part 00 0 8 2", false}, {nil, "part 0 00 8 2", false}, {nil, "part 0 0 08 2", false}, {nil, "part 0 0 8 02", false}, {nil, "part +0 0 8 2", false}, {nil, "part -0 0 8 2", false}, {nil, "part 0 0 +8 2", false}, {nil, "part 0 0 -8 2", false}, {nil, "part 0 0 8 -1", false}, {nil, "part  0 0 8 2", false}, {nil, "part 0  0 8 2", false}, {nil, "part 0 0 8 2 ", false}, {nil, " part 0 0 8 2", false}, {nil, "part\t0 0 8 2", false}, {nil, "part 0 0 8 2\r", false}, {nil, "part 0 0 8 2x", false}, {nil, "part 0 0 8. 2", false}, {nil, "part 0 0 0x8 2", false}, {nil, "part 0 0 1_0 2", false},
		{nil, "Part 0 0 8 2", false}, {nil, "PART 0 0 8 2", false}, {nil, "par 0 0 8 2", false}, {nil, "parts 0 0 8 2", false}, {nil, "part0 0 8 2", false}, {nil, "", false}, {nil, " ", false}, {nil, "0 0 8 2", false}, {nil, "fails 0 0 6", false}, {nil, "fail 0 0 06", false}, {nil, "fail 0 00 6", false}, {nil, "fail  0 0 6", false}, {nil, "point 04", false}, {nil, "point +4", false}, {nil, "point  4", false}, {nil, "point 4 ", false}, {nil, "points 4", false}, {nil, "term 00 2", false}, {nil, "term 0 02", false}, {nil, "term +0 2", false}, {nil, "term 0  2", false}, {nil, "terms 0 2", false}, {nil, "sync", false}, {nil, "give 0 0", false}, {nil, "crash 0", false}, {nil, "\x00", false}, {nil, "point \xff", false},
	} {
		lines := toldByAll(t, c.before)
		if c.want {
			lines = append(lines, toldBy(t, c.line))
		}
		want := replayAfter(j, lines...)
		// A line behind it that is right by itself is taken just if all before it are.
		text := journalOf(append(slices.Clone(c.before), c.line)...)
		sameText(t, fmt.Sprintf("%q behind %d lines", c.line, len(c.before)), replayOf(impl.Replay(j, text)), want)
		more := journalOf(append(slices.Clone(c.before), c.line, "term 1 9")...)
		if c.want {
			want = replayAfter(j, append(lines, toldBy(t, "term 1 9"))...)
		}
		sameText(t, fmt.Sprintf("%q ahead of a line", c.line), replayOf(impl.Replay(j, more)), want)
	}
}

// TestP26LinesWithoutSharedNumbers has the lines of a job that shares nothing: a report
// whose Code is OK has the form of one that fails with this code, but not its line.
func TestP26LinesWithoutSharedNumbers(t *testing.T) {
	j := jobOn(reading(t, serviceText), 6, nil, nil, nil)
	for line, want := range map[string]bool{"part 0 0 0": true, "part 1 0 7": true, "fail 0 0 6": true, "point": true, "term 0": true, "term 1": true, "fail 0 0 0": false, "fail 1 0 0": false, "part 0 0 0 0": false, "part 0 0": false, "point 0": false, "term 0 0": false, "term": false, "term 2": false, "point ": false, "term 0 ": false} {
		text := journalOf(line)
		_, taken, code := impl.Replay(j, text)
		if code != impl.OK || (taken == int64(len(text))) != want || !want && taken != 0 {
			t.Errorf("%q: %d bytes are taken with the code %d", line, taken, code)
		}
	}
}

// TestP26ChecksThatAreWrong has lines whose checks are other numbers, or other texts of
// the same numbers, at the first place and at another one.
func TestP26ChecksThatAreWrong(t *testing.T) {
	j := exampleJob(t)
	for _, before := range [][]string{nil, {"part 0 0 8 2", "point 4"}} {
		check := 1
		for _, words := range before {
			check = checkOfWords(check, words)
		}
		start, words := journalOf(before...), "term 1 6"
		right := checkOfWords(check, words)
		want := replayAfter(j, toldByAll(t, before)...)
		others := []string{
			"", " ", fmt.Sprint(right + 1), fmt.Sprint(right - 1), fmt.Sprint(right + impl.P), fmt.Sprint(-right), fmt.Sprint("0", right), fmt.Sprint("+", right), fmt.Sprint(right, " "), fmt.Sprint(" ", right), fmt.Sprint(right, "\r"), fmt.Sprint(right, "0"), fmt.Sprint(right, ".0"), "0", "1", "x",
			fmt.Sprint(checkOfWords(0, words)), fmt.Sprint(checkOfWords(check, words+" ")), fmt.Sprint(checkOfWords(check, words+"\n")), fmt.Sprint(checkOfWords(checkOfWords(check, " "), words)), fmt.Sprint(checkOfWords(check, "term16")),
		}
		if before != nil {
			others = append(others, fmt.Sprint(checkOfWords(1, words))) // that of a first line
		}
		for _, wrong := range others {
			if wrong == fmt.Sprint(right) {
				t.Fatalf("%q is right", wrong)
			}
			sameText(t, fmt.Sprintf("the check %q", wrong), replayOf(impl.Replay(j, start+words+" "+wrong+"\n")), want)
		}
		for _, line := range []string{words + "\n", fmt.Sprint(words, right, "\n"), fmt.Sprint(words, "  ", right, "\n"), fmt.Sprint(words, "\t", right, "\n"), fmt.Sprint(words, " ", right), fmt.Sprint(words, " ", right, "\r\n"), fmt.Sprint("\n", words, " ", right, "\n"), fmt.Sprint(right, "\n"), fmt.Sprint(" ", right, "\n"), "\n", " \n", "\n\n"} {
			sameText(t, fmt.Sprintf("the line %q", line), replayOf(impl.Replay(j, start+line)), want)
		}
		if _, taken, _ := impl.Replay(j, start+fmt.Sprint(words, " ", right, "\n")); taken <= want.taken {
			t.Errorf("the right check %d is not taken", right)
		}
	}
}

// longJournal is a journal with lines of all kinds, for the job of four terms.
func longJournal() []string {
	return []string{"part 0 0 6 2 500003", "fail 1 0 6", "point 3 4", "part 2 1 12 5 77", "term 1 8", "term 0 1000002", "part 0 1 5 5 5", "fail 3 1 7", "point 1000002 0", "fail 0 2 7", "part 3 2 0 0 0", "part 2 2 1 1 1", "term 3 0", "fail 3 3 6"}
}

// TestP26JournalsCutAtEachByte have just the lines that are complete.
func TestP26JournalsCutAtEachByte(t *testing.T) {
	j, lines := serviceJob(t), longJournal()
	text := journalOf(lines...)
	list := toldByAll(t, lines)
	for cut := range len(text) + 1 {
		complete := strings.Count(text[:cut], "\n")
		want := replayAfter(j, list[:complete]...)
		sameText(t, fmt.Sprintf("cut behind %d bytes", cut), replayOf(impl.Replay(j, text[:cut])), want)
		if want.taken != int64(strings.LastIndexByte(text[:cut], '\n')+1) {
			t.Fatalf("%d bytes of %q are taken", want.taken, text[:cut])
		}
	}
	sameText(t, "all of it", replayOf(impl.Replay(j, text)).taken, len(text))
}

// TestP26JournalsDamagedAtEachByte have just the lines ahead of the byte that is another
// one, is missing, or is one too many.
func TestP26JournalsDamagedAtEachByte(t *testing.T) {
	j, lines := serviceJob(t), longJournal()
	text := journalOf(lines...)
	list := toldByAll(t, lines)
	expect := func(k int, damaged string) {
		t.Helper()
		sameText(t, fmt.Sprintf("damaged behind %d bytes: %q", k, damaged[max(0, k-20):min(len(damaged), k+20)]), replayOf(impl.Replay(j, damaged)), replayAfter(j, list[:strings.Count(text[:k], "\n")]...))
	}
	for k := range len(text) {
		for _, other := range "0159 \n+-xpft\x00\xff" {
			if byte(other) != text[k] {
				expect(k, text[:k]+string([]byte{byte(other)})+text[k+1:])
			}
		}
		expect(k, text[:k]+string([]byte{text[k] + 1})+text[k+1:])
		expect(k, text[:k]+text[k+1:])
		if k > 0 && text[k] != '\n' {
			expect(k, text[:k]+text[k:k+1]+text[k:])
		}
	}
}

// TestP26LinesInOtherOrder has journals with a line that is missing, or stands twice, or
// at another place, with the checks that it had.
func TestP26LinesInOtherOrder(t *testing.T) {
	j, lines := serviceJob(t), longJournal()
	list := toldByAll(t, lines)
	texts := slices.Collect(strings.Lines(journalOf(lines...)))
	for k := range texts {
		ahead := replayAfter(j, list[:k]...)
		without := strings.Join(slices.Delete(slices.Clone(texts), k, k+1), "")
		sameText(t, fmt.Sprintf("without the line %d", k), replayOf(impl.Replay(j, without)), ahead)
		twice := strings.Join(slices.Insert(slices.Clone(texts), k, texts[k]), "")
		sameText(t, fmt.Sprintf("the line %d twice", k), replayOf(impl.Replay(j, twice)), replayAfter(j, list[:k+1]...))
		if k > 0 {
			texts[k-1], texts[k] = texts[k], texts[k-1]
			sameText(t, fmt.Sprintf("the line %d earlier", k), replayOf(impl.Replay(j, strings.Join(texts, ""))), replayAfter(j, list[:k-1]...))
			texts[k-1], texts[k] = texts[k], texts[k-1]
		}
	}
}

// pointsOf is a journal of just so many bytes with points for a job that shares eleven
// numbers. It may begin with other lines.
func pointsOf(t *testing.T, bytes int, first ...string) string {
	t.Helper()
	lines := slices.Clone(first)
	for len(journalOf(lines...)) < bytes-180 {
		lines = append(lines, "point"+strings.Repeat(" 1000002", 11))
	}
	begun := journalOf(lines...)
	last := begun[strings.LastIndexByte(begun, ' ')+1:]
	check := 1
	fmt.Sscan(last, &check)
	// The last two lines are together as long as is left.
	for number := 1; number < impl.P; number = 3*number + 1 {
		for wide := range 11 {
			for other := range 11 {
				one := fmt.Sprint("point ", number, strings.Repeat(" 1000002", wide), strings.Repeat(" 7", 10-wide))
				two := fmt.Sprint("point 7", strings.Repeat(" 1000002", other), strings.Repeat(" 7", 10-other))
				next := checkOfWords(check, one)
				end := fmt.Sprintf("%s %d\n%s %d\n", one, next, two, checkOfWords(next, two))
				if len(begun)+len(end) == bytes {
					return begun + end
				}
			}
		}
	}
	t.Fatalf("there is no journal of %d bytes", bytes)
	return ""
}

// pointsJob is a job that shares eleven numbers, on which its terms do not depend.
func pointsJob(t *testing.T, terms ...[]int64) impl.Job {
	t.Helper()
	return jobOn(reading(t, "f 12: x11\n"), 0, make([]int64, 11), terms...)
}

// TestP26LongestJournals has journals of most bytes, and one beyond.
func TestP26LongestJournals(t *testing.T) {
	j := pointsJob(t, []int64{5})
	for bytes := impl.MaxJournal - 3; bytes <= impl.MaxJournal+3; bytes++ {
		text := pointsOf(t, bytes, "part 0 0 5 0 0 0 0 0 0 0 0 0 0 0")
		s, taken, code := impl.Replay(j, text)
		if bytes > impl.MaxJournal {
			sameText(t, "a journal that is too long", replayed{s, taken, code}, replayed{code: impl.ErrRange})
			continue
		}
		if taken != int64(bytes) || code != impl.OK || fmt.Sprint(s.Known, s.Stamps) != "[true] [0]" || s.Job.Point[0] == 0 {
			t.Errorf("%d of %d bytes are taken with the code %d: %s", taken, bytes, code, brief(s))
		}
	}
	for _, c := range []struct {
		text string
		want int64
	}{{strings.Repeat("x", 6000), impl.OK}, {strings.Repeat("x", 6001), impl.ErrRange}, {strings.Repeat("\n", 6000), impl.OK}, {strings.Repeat("\n", 6001), impl.ErrRange}, {"", impl.OK}, {strings.Repeat(" ", 6000), impl.OK}, {"point " + strings.Repeat("1 ", 2997), impl.OK}} {
		want := replayed{code: c.want}
		if c.want == impl.OK {
			want.s = serviceOf(j, []int64{0}, nil, -1)
		}
		sameText(t, brief(c.text), replayOf(impl.Replay(j, c.text)), want)
	}
}

// TestP26ManyJournals makes the services of nets again out of their journals, and of
// each beginning of these.
func TestP26ManyJournals(t *testing.T) {
	lines := 0
	for seed := range int64(150) {
		v := inventions(seed + 5000)
		j := v.job()
		n, m := fineNet(t)(impl.NewNet(j, 2)), replicaOf(j, 2)
		for range 40 {
			a := v.act(n.Service.Job, 2)
			if next, code := impl.StepNet(n, a); code == impl.OK {
				n = next
				m, _ = m.step(a)
			}
		}
		want := n.Service
		want.Owners = constant(len(j.Terms)-1, -1)
		s, taken, code := impl.Replay(j, n.Journal)
		sameText(t, "the service of the journal", replayed{s, taken, code}, replayed{want, int64(len(n.Journal)), impl.OK})
		for k := range m.lines {
			part := replayAfter(j, m.lines[:k]...)
			sameText(t, "the service of a part of the journal", replayOf(impl.Replay(j, n.Journal[:part.taken])), part)
			if !impl.IsTrue(part.s) {
				t.Errorf("the service behind %v is wrong", m.lines[:k])
			}
		}
		lines += len(m.lines)
	}
	if lines < 500 {
		t.Errorf("just %d lines", lines)
	}
}
