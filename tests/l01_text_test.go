package tests

import (
	"regexp"
	"strconv"
	"strings"
	"testing"

	"loop.example/g01091/impl"
)

func TestP3TextsOfSeries(t *testing.T) {
	ok := got(t)
	for _, order := range orders() {
		for _, list := range someSeries(order) {
			var words []string
			for _, number := range list {
				words = append(words, strconv.FormatInt(number, 10))
			}
			text := strings.Join(words, " ")
			if have := impl.SeriesText(list); have != text {
				t.Errorf("the text of %v is %q", list, have)
			}
			same(t, "read "+text, ok(impl.ReadSeries(text)), list)
		}
	}
	for _, list := range noSeries() {
		if text := impl.SeriesText(list); text != "" {
			t.Errorf("%v, which is no series, has the text %q", list, text)
		}
	}
}

func TestP3NumbersInTexts(t *testing.T) {
	ok := got(t)
	for _, number := range []int64{0, 1, 9, 10, 11, 99, 100, 101, 90909, 99999, 100000, 999999, 1000000, 1000001, 1000002} {
		text := strconv.FormatInt(number, 10)
		if have := impl.SeriesText([]int64{number}); have != text {
			t.Errorf("the text of the series %d is %q", number, have)
		}
		same(t, "read "+text, ok(impl.ReadSeries(text)), []int64{number})
	}
}

func TestP3TextsThatAreOfNoSeries(t *testing.T) {
	texts := []string{
		"", " ", "  ", "\n", "-", "+", "x",
		"00", "01", "007", "1 02", "00 1", "0 00", "1 2 03",
		"-1", "+1", "-0", "+0", "1 -2", "1 +2", "- 1",
		" 1", "1 ", " 1 ", "1  2", "1   2", "1 2 ", " 1 2", "1\t2", "1\n2", "1\n", "\n1", "1 \n", "1\r\n", "1\u00a02", "1\u20032",
		"1000003", "1000004", "9999999", "10000000", "0 1000003", "1000003 0",
		"9223372036854775807", "9223372036854775808", "18446744073709551616", "18446744073709551617", "99999999999999999999999999",
		"1.0", "1e3", "0x1", "1_000", "1,2", "1, 2", "[1 2]", "a", "1 a", "1a",
		"\x00", "1\x00", "\xff", "1 \xff", "\u0661", "\uff11", "1 \u0662", "\u00b2",
		strings.TrimSuffix(strings.Repeat("0 ", impl.MaxOrder+2), " "),
		strings.TrimSuffix(strings.Repeat("0 ", impl.MaxOrder+3), " "),
		strings.Repeat("0 ", impl.MaxOrder+1),
	}
	for _, text := range texts {
		list, code := impl.ReadSeries(text)
		refused(t, strconv.Quote(text), list, code, impl.ErrSyntax)
	}
}

// series is an independent description of the texts of series, but for the
// size of their numbers.
var series = regexp.MustCompile(`^(0|[1-9][0-9]*)( (0|[1-9][0-9]*)){0,12}$`)

func TestP3ReadSeriesTakesJustTheTextsOfSeries(t *testing.T) {
	texts := []string{""}
	for length := range 7 {
		var longer []string
		for _, text := range texts {
			checkText(t, text)
			if length < 6 {
				for _, next := range []string{"0", "1", "9", " ", "-", "+", "x"} {
					longer = append(longer, text+next)
				}
			}
		}
		texts = longer
	}
}

func checkText(t *testing.T, text string) {
	t.Helper()
	list, code := impl.ReadSeries(text)
	if !series.MatchString(text) {
		refused(t, strconv.Quote(text), list, code, impl.ErrSyntax)
		return
	}
	if code != impl.OK || impl.SeriesText(list) != text {
		t.Errorf("%q is read as %v with the code %d", text, list, code)
	}
}
