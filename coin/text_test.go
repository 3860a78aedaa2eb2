package coin

import (
	"errors"
	"math"
	"regexp"
	"strings"
	"testing"

	"statute/api"
)

// checkFault holds an error against what P3 asks of an error with a place.
func checkFault(t *testing.T, text string, n int, err error, want error, at int) {
	t.Helper()
	var f *api.Fault
	if !errors.As(err, &f) {
		t.Errorf("Read(%q): %d, %v: no *api.Fault", text, n, err)
		return
	}
	if n != 0 || f.Err != want || f.At != at {
		t.Errorf("Read(%q): %d, %v at %d; want 0, %v at %d", text, n, f.Err, f.At, want, at)
	}
}

func TestP10ReadTakesAmounts(t *testing.T) {
	for _, c := range []struct {
		text string
		want int
	}{
		{"0", 0}, {"-0", 0}, {"-0.00", 0}, {"5", 500}, {"0.05", 5}, {"-0.05", -5}, {"12.34", 1234},
		{"1,234", 123400}, {"12,345.67", 1234567}, {"123,456", 12345600}, {"-1,234,567.89", -123456789},
		{"1234567.89", 123456789}, {"007", 700}, {"000,001", 100}, {"0,001.00", 100},
		{"10000000000", api.MaxCoin}, {"10,000,000,000.00", api.MaxCoin}, {"-10,000,000,000.00", -api.MaxCoin}, {"9,999,999,999.99", api.MaxCoin - 1},
		{strings.Repeat("0", 5000) + "1.01", 101},
	} {
		if n, err := Read(c.text); err != nil || n != c.want {
			t.Errorf("Read(%q): %d, %v; want %d", c.text, n, err, c.want)
		}
	}
}

func TestP10ReadTellsTheFirstWrongByte(t *testing.T) {
	for _, c := range []struct {
		text string
		at   int
	}{
		{"", 0}, {"-", 1}, {"--1", 1}, {"+1", 0}, {" 1", 0}, {"1 ", 1}, {"x", 0}, {"1x", 1}, {"1-", 1},
		{".", 0}, {".50", 0}, {"-.50", 1}, {"1.", 2}, {"1.5", 3}, {"1.x5", 2}, {"1.5x", 3}, {"1.500", 4}, {"1.50.", 4}, {"1.5,0", 3}, {"1..", 2}, {"1.-5", 2},
		{"\x00", 0}, {"1\xff", 1}, {"12é", 2}, {"\u0661", 0}, {"1.5\u0661", 3}, {"1\u00b7" + "50", 1},
	} {
		n, err := Read(c.text)
		checkFault(t, c.text, n, err, api.ErrText, c.at)
	}
}

func TestP10ReadTellsTheFirstCommaOfWrongGroups(t *testing.T) {
	for _, c := range []struct {
		text string
		at   int
	}{
		{",", 0}, {",123", 0}, {"-,123", 1}, {"1,", 1}, {"1,2", 1}, {"1,23", 1}, {"1,2345", 1}, {"1,,234", 1}, {"1234,567", 4}, {"-1234,567", 5},
		{"12,345,6", 2}, {"1,234,", 1}, {"1,234,,567", 1}, {"1,23,456", 1}, {"1,23.00", 1}, {"1,23x", 1}, {"1,.50", 1},
		// The groups are right here: what stands behind them is wrong.
		{"1,234x", 5}, {"1,234.5", 7}, {"1,234.567", 8}, {"-1,234.", 7},
	} {
		n, err := Read(c.text)
		checkFault(t, c.text, n, err, api.ErrText, c.at)
	}
}

func TestP10ReadRefusesWhatIsTooGreat(t *testing.T) {
	for _, text := range []string{
		"10,000,000,000.01", "-10,000,000,000.01", "10000000001", "92233720368547758.08", "184467440737095516.16",
		strings.Repeat("9", 5000), "1" + strings.Repeat(",000", 5000), "-" + strings.Repeat("9", 19) + ".99",
	} {
		n, err := Read(text)
		checkFault(t, text, n, err, api.ErrCoin, 0)
	}
	text := strings.Repeat("9", 30) + ".9"
	n, err := Read(text)
	checkFault(t, text, n, err, api.ErrText, len(text))
}

// TestP10ReadOfAllShortTexts holds Read against the form as a regular expression, of every text of some bytes.
func TestP10ReadOfAllShortTexts(t *testing.T) {
	amount := regexp.MustCompile(`^-?([0-9]+|[0-9]{1,3}(,[0-9]{3})+)(\.[0-9]{2})?$`)
	begun := regexp.MustCompile(`^-?([0-9]+(\.[0-9]{0,2})?)?$`)
	var check func(text string, more int)
	check = func(text string, more int) {
		_, err := Read(text)
		if (err == nil) != amount.MatchString(text) {
			t.Errorf("Read(%q): %v", text, err)
		}
		var f *api.Fault
		if errors.As(err, &f) && !strings.Contains(text, ",") {
			if !begun.MatchString(text[:f.At]) || f.At < len(text) && begun.MatchString(text[:f.At+1]) {
				t.Errorf("Read(%q): at %d", text, f.At)
			}
		}
		if more == 0 {
			return
		}
		for _, b := range "-,.07x" {
			check(text+string(b), more-1)
		}
	}
	check("", 6)
	check("1,000", 4)
}

func TestP10TextOfAnyInt(t *testing.T) {
	for n, want := range map[int]string{
		0: "0.00", 1: "0.01", -1: "-0.01", -5: "-0.05", 10: "0.10", 99: "0.99", 100: "1.00", -100: "-1.00",
		99999: "999.99", 100000: "1,000.00", -99999: "-999.99", -100000: "-1,000.00", 123456789: "1,234,567.89", 12345678: "123,456.78",
		api.MaxCoin: "10,000,000,000.00", math.MaxInt: "92,233,720,368,547,758.07", math.MinInt: "-92,233,720,368,547,758.08",
	} {
		if got := Text(n); got != want {
			t.Errorf("Text(%d): %s; want %s", n, got, want)
		}
	}
}

func TestP10ReadTakesWhatTextWrites(t *testing.T) {
	for n := 1; n <= api.MaxCoin; n = n*3 + 7 {
		for _, m := range []int{n, -n, n - 1, api.MaxCoin - n} {
			if got, err := Read(Text(m)); err != nil || got != m {
				t.Errorf("Read(Text(%d)): %d, %v", m, got, err)
			}
		}
	}
	for _, n := range []int{api.MaxCoin + 1, -api.MaxCoin - 1, math.MaxInt, math.MinInt} {
		got, err := Read(Text(n))
		checkFault(t, Text(n), got, err, api.ErrCoin, 0)
	}
}
