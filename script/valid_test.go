package script

import (
	"reflect"
	"strconv"
	"strings"
	"testing"

	"statute/api"
)

// long is a text with one byte too many.
func long() string { return strings.Repeat("x", api.MaxLine+1) }

func TestP31RightLaws(t *testing.T) {
	full := api.Item{Label: "1", Lines: make([]string, api.MaxLines)}
	for i, l := range []api.Item{
		{},
		{Lines: []string{}, Kids: []api.Item{}},
		house(),
		chain(api.MaxDeep),
		wide(api.MaxItems),
		{Lines: make([]string, api.MaxLines), Kids: []api.Item{full}},
		{Kids: []api.Item{{Label: "2", Kids: kids("1", "2")}, {Label: "1", Kids: kids("2", "1")}, {Label: "1A", Kids: kids("1")}}},
	} {
		if err := Valid(l); err != nil {
			t.Errorf("law %d: %v", i, err)
		}
	}
}

func TestP31Bounds(t *testing.T) {
	nested := wide(10)
	for i := range nested.Kids {
		nested.Kids[i].Kids = wide(29).Kids
	}
	if err := Valid(nested); err != nil {
		t.Errorf("%d provisions: %v", api.MaxItems, err)
	}
	nested.Kids[0].Kids[0].Kids = kids("a")
	for i, l := range []api.Item{
		nested,
		chain(api.MaxDeep + 1),
		wide(api.MaxItems + 1),
		{Lines: make([]string, api.MaxLines+1)},
		{Head: long()},
		{Lines: []string{long()}},
		{Kids: []api.Item{{Label: "1", Lines: make([]string, api.MaxLines+1)}}},
		{Kids: []api.Item{{Label: "1", Head: long()}}},
		{Kids: []api.Item{{Label: "1", Lines: []string{"a", long()}}}},
	} {
		if err := Valid(l); err != api.ErrBound {
			t.Errorf("law %d: %v", i, err)
		}
	}
}

func TestP31Labels(t *testing.T) {
	for i, l := range []api.Item{
		{Label: "1"},
		{Label: "law"},
		{Label: " "},
		{Kids: kids("")},
		{Kids: kids("1", "2", "1")},
		{Kids: []api.Item{{Label: "1", Kids: kids("a", "b", "b")}}},
		{Label: long()},
		{Kids: kids(long())},
	} {
		if err := Valid(l); err != api.ErrName {
			t.Errorf("law %d: %v", i, err)
		}
	}
}

func TestP31InEachTheBoundIsFirstThenTheName(t *testing.T) {
	for i, c := range []struct {
		it   api.Item
		want error
	}{
		{api.Item{Label: "?", Head: " ", Lines: []string{long()}}, api.ErrBound},
		{api.Item{Label: "?", Head: long()}, api.ErrBound},
		{api.Item{Label: "?", Lines: append([]string{" "}, make([]string, api.MaxLines)...)}, api.ErrBound},
		{api.Item{Label: "?", Head: " "}, api.ErrName},
		{api.Item{Label: "?", Lines: []string{"\n"}}, api.ErrName},
		{api.Item{Label: "1", Lines: []string{"\n"}, Kids: kids("?")}, api.ErrText},
		{api.Item{Label: "1", Head: "\n", Kids: []api.Item{{Label: "1", Head: long()}}}, api.ErrText},
		{api.Item{Label: "?", Kids: []api.Item{{Label: "1", Head: long()}}}, api.ErrName},
	} {
		if err := Valid(api.Item{Kids: []api.Item{c.it}}); err != c.want {
			t.Errorf("provision %d: %v; want %v", i, err, c.want)
		}
		// Of the law, a label is wrong, and none is right.
		if c.it.Label == "1" {
			c.it.Label = ""
		}
		if err := Valid(c.it); err != c.want {
			t.Errorf("law %d: %v; want %v", i, err, c.want)
		}
	}
	twice := api.Item{Kids: []api.Item{{Label: "1"}, {Label: "1", Head: " "}}}
	if err := Valid(twice); err != api.ErrName {
		t.Errorf("a sibling's label and a heading that is none: %v", err)
	}
	twice.Kids[1].Lines = []string{long()}
	if err := Valid(twice); err != api.ErrBound {
		t.Errorf("a sibling's label and a line that is too long: %v", err)
	}
}

func TestP31TheFirstThatIsWrong(t *testing.T) {
	text, name, bound := api.Item{Label: "1", Head: " "}, api.Item{Label: "?"}, api.Item{Label: "3", Head: long()}
	for i, c := range []struct {
		kids []api.Item
		want error
	}{
		{[]api.Item{text, name, bound}, api.ErrText},
		{[]api.Item{name, text, bound}, api.ErrName},
		{[]api.Item{bound, name, text}, api.ErrBound},
		{[]api.Item{{Label: "x", Kids: []api.Item{text}}, name}, api.ErrText},
		{[]api.Item{{Label: "x", Kids: []api.Item{name}}, text}, api.ErrName},
		{[]api.Item{{Label: "x", Kids: []api.Item{bound}}, {Label: "x"}}, api.ErrBound},
		{[]api.Item{{Label: "x", Kids: []api.Item{text}}, {Label: "x"}}, api.ErrText},
	} {
		if err := Valid(api.Item{Kids: c.kids}); err != c.want {
			t.Errorf("law %d: %v; want %v", i, err, c.want)
		}
	}
}

func TestP31OneProvisionTooManyIsToldAtIt(t *testing.T) {
	l := wide(api.MaxItems + 1)
	l.Kids[api.MaxItems].Label = "?"
	if err := Valid(l); err != api.ErrBound {
		t.Errorf("its label is none: %v", err)
	}
	l.Kids[api.MaxItems-1].Label = "?"
	if err := Valid(l); err != api.ErrName {
		t.Errorf("the label ahead is none: %v", err)
	}
	deep := chain(api.MaxDeep + 1)
	deep.Kids[0].Kids[0].Head = " "
	if err := Valid(deep); err != api.ErrText {
		t.Errorf("a heading around what is too deep is none: %v", err)
	}
}

func TestP4ValidAndWriteOnlyRead(t *testing.T) {
	l := house()
	Valid(l)
	Write(l)
	if !reflect.DeepEqual(l, house()) {
		t.Errorf("%v", l)
	}
}

func TestP32TheForm(t *testing.T) {
	for want, l := range map[string]api.Item{
		"law\n":            {},
		"law x\n":          {Head: "x"},
		"law x  y\n|\n":    {Head: "x  y", Lines: []string{""}},
		"law\n| |\n1 |\n":  {Lines: []string{"|"}, Kids: []api.Item{{Label: "1", Head: "|"}}},
		"law\n2\n1\n  b\n": {Kids: []api.Item{{Label: "2"}, {Label: "1", Kids: kids("b")}}},
		houseText:          house(),
		"law\na\n  a\n    a\n      a\n        a\n          a\n": chain(6),
	} {
		if text, err := Write(l); text != want || err != nil {
			t.Errorf("%q, %v; want %q", text, err, want)
		}
	}
}

// thick is a law whose form has so many bytes.
func thick(t *testing.T, bytes int) api.Item {
	t.Helper()
	l := api.Item{}
	size := len("law\n")
	for size < bytes {
		label := strconv.Itoa(1000 + len(l.Kids))
		head := min(200, bytes-size-len(label)-len(" \n"))
		if rest := bytes - size - len(label) - len(" \n") - head; rest > 0 && rest < 10 {
			head -= 10
		}
		if head <= 0 {
			t.Fatal("no such law")
		}
		l.Kids = append(l.Kids, api.Item{Label: label, Head: strings.Repeat("x", head)})
		size += len(label) + len(" \n") + head
	}
	return l
}

func TestP32FormsOfManyBytes(t *testing.T) {
	l := thick(t, api.MaxText)
	text, err := Write(l)
	if len(text) != api.MaxText || err != nil {
		t.Errorf("%d bytes, %v", len(text), err)
	}
	if got, err := Read(text); err != nil || !reflect.DeepEqual(got, l) {
		t.Errorf("Read of %d bytes: %v", len(text), err)
	}
	if text, err := Write(thick(t, api.MaxText+1)); text != "" || err != api.ErrBound {
		t.Errorf("%d bytes, %v", len(text), err)
	}
}

func TestP32ErrorsOfValid(t *testing.T) {
	for i, c := range []struct {
		l    api.Item
		want error
	}{
		{api.Item{Label: "1"}, api.ErrName},
		{api.Item{Head: "\n"}, api.ErrText},
		{wide(api.MaxItems + 1), api.ErrBound},
		{api.Item{Kids: []api.Item{thick(t, api.MaxText+1)}}, api.ErrName},
	} {
		if text, err := Write(c.l); text != "" || err != c.want {
			t.Errorf("law %d: %q, %v; want %v", i, text, err, c.want)
		}
	}
}
