package script

import (
	"strings"
	"testing"

	"statute/api"
)

// inOrder are labels, each ahead of the next one.
func inOrder() []string {
	return []string{
		"1", "1A", "1B", "1Z", "1AA", "1AB", "1BA", "1ZZ", "2", "9", "9ZZ", "10", "10A", "11", "99", "100", "999", "1000", "9999", "9999ZZ",
		"a", "aA", "aB", "aAA", "b", "bZZ", "z", "zZ", "aa", "aaA", "ab", "ba", "zz", "aaa", "iii", "law", "aaaa", "zzzz", "zzzzA", "zzzzZZ",
	}
}

// noLabels are texts that are none.
func noLabels() []string {
	return []string{
		"", "0", "01", "0A", "00001", "10000", "12345A", "aaaaa", "abcdeA", "A", "AB", "1ABC", "aABC", "aAa", "1A1", "1a", "a1", "1aA", "aa1A", "Aa", "A1",
		" 1", "1 ", "1 A", "-1", "+1", "1.", "1/a", "/", "|", "a_", "ä", "aÄ", "é", "1\n", "\x00", "\xff", "a\xff", "１", "٣", "@", "[", "`", "{", ":", "1@", "1[", "a`", "a{",
		strings.Repeat("a", 1000), strings.Repeat("1", 1000), "a" + strings.Repeat("A", 1000),
	}
}

func TestP30LessOfLabels(t *testing.T) {
	labels := inOrder()
	for i, a := range labels {
		for k, b := range labels {
			if got := Less(a, b); got != (i < k) {
				t.Errorf("Less(%q, %q): %v", a, b, got)
			}
		}
	}
}

func TestP30LessOfWhatIsNoLabel(t *testing.T) {
	others := append(noLabels(), "1", "5B", "a", "zzzzZZ")
	for _, a := range noLabels() {
		for _, b := range others {
			if Less(a, b) || Less(b, a) {
				t.Errorf("%.20q and %.20q", a, b)
			}
		}
	}
}

func TestP30LabelsOfProvisions(t *testing.T) {
	for _, label := range inOrder() {
		if err := Valid(api.Item{Kids: kids(label)}); err != nil {
			t.Errorf("%q: %v", label, err)
		}
	}
	for _, label := range noLabels() {
		if err := Valid(api.Item{Kids: kids(label)}); err != api.ErrName {
			t.Errorf("%.20q: %v", label, err)
		}
	}
}

func TestP30Lines(t *testing.T) {
	for text, want := range map[string]error{
		"":                                   nil,
		"a":                                  nil,
		"!":                                  nil,
		"~":                                  nil,
		"a b":                                nil,
		"a  b":                               nil,
		"| a":                                nil,
		"law":                                nil,
		strings.Repeat("x", api.MaxLine):     nil,
		" ":                                  api.ErrText,
		" a":                                 api.ErrText,
		"a ":                                 api.ErrText,
		"a\nb":                               api.ErrText,
		"a\tb":                               api.ErrText,
		"a\r":                                api.ErrText,
		"\x00":                               api.ErrText,
		"a\x1fb":                             api.ErrText,
		"a\x7fb":                             api.ErrText,
		"ä":                                  api.ErrText,
		"a\x80":                              api.ErrText,
		"\xff":                               api.ErrText,
		"a\u00a0b":                           api.ErrText,
		strings.Repeat("x", api.MaxLine+1):   api.ErrBound,
		strings.Repeat(" ", api.MaxLine+1):   api.ErrBound,
		strings.Repeat("ä", api.MaxLine/2+1): api.ErrBound,
	} {
		for what, it := range map[string]api.Item{"head": {Head: text}, "line": {Lines: []string{"a", text, "b"}}} {
			if err := Valid(it); err != want {
				t.Errorf("title or line of the law, %s %.20q: %v; want %v", what, text, err, want)
			}
			it.Label = "1"
			if err := Valid(api.Item{Kids: []api.Item{it}}); err != want {
				t.Errorf("%s %.20q: %v; want %v", what, text, err, want)
			}
		}
	}
}
