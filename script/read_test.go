package script

import (
	"math/rand"
	"reflect"
	"slices"
	"strconv"
	"strings"
	"testing"

	"statute/api"
)

// checkRead holds the law of a text against one; a nil list and an empty one are the same.
func checkRead(t *testing.T, text string, want api.Item) {
	t.Helper()
	got, err := Read(text)
	if err != nil || !same(got, want) {
		t.Errorf("%.60q: %v, %v; want %v", text, got, err, want)
	}
}

func same(a, b api.Item) bool {
	return a.Label == b.Label && a.Head == b.Head && slices.Equal(a.Lines, b.Lines) && slices.EqualFunc(a.Kids, b.Kids, same)
}

// checkFault holds a text that is wrong against the error and its place.
func checkFault(t *testing.T, text string, at int, want error) {
	t.Helper()
	l, err := Read(text)
	f, ok := err.(*api.Fault)
	if !ok || f.Err != want || f.At != at || !reflect.DeepEqual(l, api.Item{}) {
		t.Errorf("%.60q: %v, %#v; want %v at %d", text, l, err, want, at)
	}
}

func TestP33ReadOfForms(t *testing.T) {
	checkRead(t, houseText, house())
	checkRead(t, strings.TrimSuffix(houseText, "\n"), house())
	checkRead(t, "law", api.Item{})
	checkRead(t, "law\nlaw\n  law\n", api.Item{Kids: []api.Item{{Label: "law", Kids: kids("law")}}})
	checkRead(t, "law law", api.Item{Head: "law"})
	checkRead(t, "law a  b\n1 | c  d\n  | |\n", api.Item{Head: "a  b", Kids: []api.Item{{Label: "1", Head: "| c  d", Lines: []string{"|"}}}})
	checkRead(t, "law\n2\n1\n  2\n  1\n3\n", api.Item{Kids: []api.Item{{Label: "2"}, {Label: "1", Kids: kids("2", "1")}, {Label: "3"}}})
	checkRead(t, "law\n1\n  a\n    i\n2", api.Item{Kids: []api.Item{{Label: "1", Kids: []api.Item{{Label: "a", Kids: kids("i")}}}, {Label: "2"}}})
}

func TestP33LinesThatSayNothing(t *testing.T) {
	blank := "\n \n   \n" + strings.Repeat(" ", 1000) + "\n"
	spaced := blank + strings.Join(strings.SplitAfter(houseText, "\n"), blank) + "   "
	checkRead(t, spaced, house())
	checkFault(t, "\n  \n 1\n", 2, api.ErrText)
	checkFault(t, "law\n\n\n1\n\n  \n1\n", 6, api.ErrName)
}

func TestP33NoLaw(t *testing.T) {
	checkFault(t, "", 0, api.ErrText)
	checkFault(t, "\n", 1, api.ErrText)
	checkFault(t, "\n\n  \n", 3, api.ErrText)
	for _, row := range []string{" ", "  ", "     "} {
		for ahead := range 4 {
			// The last line's end may be left out: the place is the same with it.
			text := strings.Repeat("\n", ahead) + row
			checkFault(t, text, ahead+1, api.ErrText)
			checkFault(t, text+"\n", ahead+1, api.ErrText)
		}
	}
	checkFault(t, strings.Repeat("\n", api.MaxText), api.MaxText, api.ErrText)
	for _, text := range []string{"1", "| a", "la", "laws", "lawx", "lAW", "LAW", "law\t", "law|", " law", "  law", "law ", "law  ", "law  a", "law a ", "x law"} {
		checkFault(t, text, 0, api.ErrText)
		checkFault(t, "\n"+text+"\n1 First\n", 1, api.ErrText)
	}
}

func TestP33TooManyBytes(t *testing.T) {
	checkFault(t, strings.Repeat("\n", api.MaxText+1), 0, api.ErrBound)
	checkFault(t, "law\n?"+strings.Repeat("\n", api.MaxText), 0, api.ErrBound)
	checkRead(t, "law\n"+strings.Repeat("\n", api.MaxText-4), api.Item{})
}

func TestP33Bytes(t *testing.T) {
	for _, b := range []string{"\x00", "\t", "\r", "\x1f", "\x7f", "\x80", "\xff", "ä"} {
		for _, row := range []string{"?" + b, b, "  " + b, "| a" + b, "1 a" + b, "1 " + b + long(), " " + b + "1", "      1" + b} {
			checkFault(t, "law\n1\n"+row, 2, api.ErrText)
		}
		checkFault(t, "law a"+b+"\n1\n1", 0, api.ErrText)
	}
	checkFault(t, "law\r\n1\r\n", 0, api.ErrText)
}

func TestP33HowDeep(t *testing.T) {
	const open = "law\n1\n  a\n    i\n"
	for _, row := range []string{
		" 2", "   b", "     ii", "       A", "        A", "          A", " ?", "   ?", "        ?",
		"| x", "  | x", "    | x", "        | x", " | x", "     | x", "       | x", "|", "  |",
		" " + long(), "        1 " + long(), "| " + long(), "|x", "|" + long(), "      |x", "      ||",
	} {
		checkFault(t, open+row, 4, api.ErrText)
	}
	for _, row := range []string{"2", "  b", "    ii", "      x", "      | x", "      |"} {
		if _, err := Read(open + row); err != nil {
			t.Errorf("%q: %v", row, err)
		}
	}
	checkFault(t, "law\n  1", 1, api.ErrText)
	checkFault(t, "law\n  | a", 1, api.ErrText)
	checkFault(t, "law\n1\n2\n    a", 3, api.ErrText)
	checkFault(t, "law\n1\n  a\n2\n  | x\n  b\n  | y", 6, api.ErrText)
	checkFault(t, "law\n1\n| a", 2, api.ErrText)
}

func TestP33Labels(t *testing.T) {
	for _, label := range noLabels() {
		// Of these the line's bytes, its blanks or its mark are wrong, or its label is another one.
		if label == "" || strings.HasPrefix(label, "|") || strings.Contains(label, " ") || !isPlain(label) {
			continue
		}
		checkFault(t, "law\n"+label, 1, api.ErrName)
		checkFault(t, "law\n1\n  "+label+" Head\n", 2, api.ErrName)
		checkFault(t, "law\n"+label+"  "+long()+" \n", 1, api.ErrName)
	}
	for _, label := range inOrder() {
		checkRead(t, "law\n"+label, api.Item{Kids: kids(label)})
		checkFault(t, "law\n"+label+"\n"+label, 2, api.ErrName)
	}
	checkFault(t, "law\n1\n  a\n2\n1", 4, api.ErrName)
	checkFault(t, "law\n1\n  a\n    x\n  b\n  a x", 5, api.ErrName)
	checkFault(t, "law\n1\n1  "+long()+" ", 2, api.ErrName)
	checkRead(t, "law\n1\n  a\n2\n  a\n    a", api.Item{Kids: []api.Item{{Label: "1", Kids: kids("a")}, {Label: "2", Kids: []api.Item{{Label: "a", Kids: kids("a")}}}}})
}

// deepText is the form of chain.
func deepText(deep int) string {
	var rows []string
	for i := range deep {
		rows = append(rows, strings.Repeat("  ", i)+"a\n")
	}
	return "law\n" + strings.Join(rows, "")
}

// wideText is the form of wide.
func wideText(count int) string {
	text := "law\n"
	for i := range count {
		text += strconv.Itoa(i+1) + "\n"
	}
	return text
}

func TestP33Bounds(t *testing.T) {
	checkRead(t, deepText(api.MaxDeep), chain(api.MaxDeep))
	checkFault(t, deepText(api.MaxDeep+1), api.MaxDeep+1, api.ErrBound)
	checkFault(t, deepText(api.MaxDeep)+"            a ", api.MaxDeep+1, api.ErrBound)
	checkFault(t, deepText(api.MaxDeep)+"            ?", api.MaxDeep+1, api.ErrName)
	checkRead(t, wideText(api.MaxItems), wide(api.MaxItems))
	checkFault(t, wideText(api.MaxItems+1), api.MaxItems+1, api.ErrBound)
	checkFault(t, wideText(api.MaxItems)+"  a  ", api.MaxItems+1, api.ErrBound)
	checkFault(t, wideText(api.MaxItems)+"1", api.MaxItems+1, api.ErrName)
	checkFault(t, wideText(api.MaxItems)+"  A", api.MaxItems+1, api.ErrName)
}

func TestP33LinesTooManyOrTooLong(t *testing.T) {
	rows := strings.Repeat("|\n", api.MaxLines)
	checkRead(t, "law\n"+rows+"1\n", api.Item{Lines: make([]string, api.MaxLines), Kids: kids("1")})
	checkFault(t, "law\n"+rows+"|", api.MaxLines+1, api.ErrBound)
	checkFault(t, "law\n"+rows+"|  a ", api.MaxLines+1, api.ErrBound)
	checkFault(t, "law\n"+rows+"|a", api.MaxLines+1, api.ErrBound)
	checkFault(t, "law\n"+rows+"||", api.MaxLines+1, api.ErrBound)
	checkFault(t, "law\n"+rows+"  |a", api.MaxLines+1, api.ErrText)
	checkFault(t, "law\n"+rows+"1\n|a", api.MaxLines+2, api.ErrText)
	inner := strings.ReplaceAll(rows, "|", "  | x")
	checkFault(t, "law\n"+rows+"1\n"+inner+"  | y\n", 2*api.MaxLines+2, api.ErrBound)
	full := strings.Repeat("x", api.MaxLine)
	checkRead(t, "law "+full+"\n| "+full+"\n1 "+full+"\n  | "+full, api.Item{Head: full, Lines: []string{full}, Kids: []api.Item{{Label: "1", Head: full, Lines: []string{full}}}})
	for _, row := range []string{"1 ", "| ", "1AA "} {
		checkFault(t, "law\n"+row+long(), 1, api.ErrBound)
		checkFault(t, "law\n"+row+full+" ", 1, api.ErrBound)
		checkFault(t, "law\n"+row+" "+full, 1, api.ErrBound)
		checkFault(t, "law\n"+row+full[1:]+" ", 1, api.ErrText)
		checkFault(t, "law\n"+row+" "+full[1:], 1, api.ErrText)
	}
	checkFault(t, "law\n|"+long(), 1, api.ErrBound)
	checkFault(t, "law\n|"+full, 1, api.ErrText)
	checkFault(t, "law\n1\n  |"+long(), 2, api.ErrBound)
	checkFault(t, "law\n1\n  |"+full, 2, api.ErrText)
	checkFault(t, "law "+long(), 0, api.ErrBound)
	checkFault(t, "law  "+full, 0, api.ErrBound)
	checkFault(t, "law "+full+" ", 0, api.ErrBound)
	checkFault(t, "law  "+full[1:], 0, api.ErrText)
	checkFault(t, "lawx"+long(), 0, api.ErrText)
}

func TestP33Blanks(t *testing.T) {
	for _, row := range []string{"1 ", "1  ", "1  a", "1 a ", "| ", "|  ", "|  a", "| a ", "|a", "||", "|1 a"} {
		checkFault(t, "law\n"+row, 1, api.ErrText)
		checkFault(t, "law\n"+row+"\n?", 1, api.ErrText)
	}
}

// anyLaw is a law by chance, that is right.
func anyLaw(r *rand.Rand) api.Item {
	left := r.Intn(40)
	return anyItem(r, api.MaxDeep, &left)
}

func anyItem(r *rand.Rand, deep int, left *int) api.Item {
	texts := []string{"", "a", "some words", "two  blanks", "| mark", "law", "1", "~!"}
	it := api.Item{Head: texts[r.Intn(len(texts))]}
	for range r.Intn(4) {
		it.Lines = append(it.Lines, texts[r.Intn(len(texts))])
	}
	labels := inOrder()
	r.Shuffle(len(labels), func(i, k int) { labels[i], labels[k] = labels[k], labels[i] })
	for _, label := range labels[:r.Intn(6)] {
		if deep == 0 || *left == 0 {
			break
		}
		*left--
		kid := anyItem(r, deep-1, left)
		kid.Label = label
		it.Kids = append(it.Kids, kid)
	}
	return it
}

func TestP33ReadOfWhatWriteWrites(t *testing.T) {
	r := rand.New(rand.NewSource(3))
	for range 2000 {
		l := anyLaw(r)
		text, err := Write(l)
		if err != nil {
			t.Fatalf("%v: %v", l, err)
		}
		checkRead(t, text, l)
	}
}

func TestP33WhatIsReadIsRight(t *testing.T) {
	r := rand.New(rand.NewSource(33))
	rows := []string{"1", "2 Two", "a", "b x", "|", "| x", "|x", "A", "law", "", "  ", "1 ", "0"}
	for range 20000 {
		text := "law\n"
		for range r.Intn(8) {
			text += strings.Repeat(" ", []int{0, 0, 0, 2, 2, 2, 4, 4, 1, 6}[r.Intn(10)]) + rows[r.Intn(len(rows))] + "\n"
		}
		l, err := Read(text)
		if err != nil {
			continue
		}
		if err := Valid(l); err != nil {
			t.Fatalf("%q is read, and is %v", text, err)
		}
		again, err := Write(l)
		if err != nil {
			t.Fatalf("%q is read, and is not written: %v", text, err)
		}
		checkRead(t, again, l)
	}
}

// checkItemFault holds lines that are no provision against the error and its place.
func checkItemFault(t *testing.T, rows []string, at int, want error) {
	t.Helper()
	it, err := ReadItem(rows)
	f, ok := err.(*api.Fault)
	if !ok || f.Err != want || f.At != at || !reflect.DeepEqual(it, api.Item{}) {
		t.Errorf("%.60q: %v, %#v; want %v at %d", rows, it, err, want, at)
	}
}

func TestP43ReadItem(t *testing.T) {
	first := house().Kids[0]
	rows := strings.Split(houseText, "\n")[2:9]
	if got, err := ReadItem(rows); err != nil || !same(got, first) {
		t.Errorf("%v, %v", got, err)
	}
	for _, none := range [][]string{nil, {}} {
		checkItemFault(t, none, 0, api.ErrText)
	}
	checkItemFault(t, []string{"| a"}, 0, api.ErrText)
	checkItemFault(t, []string{"|" + long()}, 0, api.ErrText)
	checkItemFault(t, []string{"  a"}, 0, api.ErrText)
	checkItemFault(t, []string{""}, 0, api.ErrName)
	checkItemFault(t, []string{"a\nb"}, 0, api.ErrText)
	checkItemFault(t, append(slices.Clone(rows), "  "), len(rows), api.ErrName)
	checkItemFault(t, append(slices.Clone(rows), " "), len(rows), api.ErrText)
	checkItemFault(t, append(slices.Clone(rows), "2"), len(rows), api.ErrText)
	checkItemFault(t, append(slices.Clone(rows), "1"), len(rows), api.ErrName)
	checkItemFault(t, append(slices.Clone(rows), "| x"), len(rows), api.ErrText)
	checkItemFault(t, strings.Split(wideText(api.MaxItems), "\n")[1:], 1, api.ErrText)
}
