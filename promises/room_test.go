package promises

import (
	"fmt"
	"reflect"
	"slices"
	"testing"
)

// roomBehind is how many places there are behind each list that is handed over.
const roomBehind = 2

// roomy is a value in new memory. Behind each of its lists, also the empty ones, there is room in which something stands.
func roomy[T any](x T) T {
	v := reflect.New(reflect.TypeFor[T]()).Elem()
	v.Set(reflect.ValueOf(&x).Elem())
	giveRoom(v)
	return v.Interface().(T)
}

func giveRoom(v reflect.Value) {
	switch v.Kind() {
	case reflect.Pointer:
		own := reflect.New(v.Type().Elem())
		own.Elem().Set(v.Elem())
		giveRoom(own.Elem())
		v.Set(own)
	case reflect.Struct:
		for i := range v.NumField() {
			giveRoom(v.Field(i))
		}
	case reflect.Slice:
		count := v.Len()
		list := reflect.MakeSlice(v.Type(), count+roomBehind, count+roomBehind)
		reflect.Copy(list, v)
		for i := range count {
			// A table's cell that is nil says something else than one that is empty.
			if kid := list.Index(i); kid.Kind() != reflect.Slice || !kid.IsNil() {
				giveRoom(kid)
			}
		}
		for i := range roomBehind {
			blot(list.Index(count + i))
		}
		v.Set(list.Slice(0, count))
	}
}

// blot makes a value something that stands nowhere else.
func blot(v reflect.Value) {
	switch v.Kind() {
	case reflect.Struct:
		for i := range v.NumField() {
			blot(v.Field(i))
		}
	case reflect.String:
		v.SetString("blot")
	case reflect.Int:
		v.SetInt(7777)
	}
}

// told is all that can be read in a value, with what stands in the room behind its lists.
func told(v reflect.Value) string {
	text := ""
	switch v.Kind() {
	case reflect.Interface, reflect.Pointer:
		text = told(v.Elem())
	case reflect.Struct:
		for i := range v.NumField() {
			text += told(v.Field(i)) + " "
		}
	case reflect.Slice:
		for i := range v.Cap() {
			text += told(v.Slice(0, v.Cap()).Index(i)) + ", "
		}
		text = fmt.Sprintf("%d[%s]", v.Len(), text)
	default:
		text = fmt.Sprint(v)
	}
	return text
}

// stretch of memory: the first byte, and the one behind the last.
type stretch struct{ first, end uintptr }

// addStretches of the lists in a value, with the room behind them, to others. What is kept in a book or the like is gone through, too.
func addStretches(all []stretch, v reflect.Value) []stretch {
	switch v.Kind() {
	case reflect.Interface, reflect.Pointer:
		if !v.IsNil() {
			all = addStretches(all, v.Elem())
		}
	case reflect.Struct:
		for i := range v.NumField() {
			all = addStretches(all, v.Field(i))
		}
	case reflect.Slice:
		if size := uintptr(v.Cap()) * v.Type().Elem().Size(); size > 0 {
			all = append(all, stretch{v.Pointer(), v.Pointer() + size})
		}
		for i := range v.Len() {
			all = addStretches(all, v.Index(i))
		}
	}
	return all
}

// stretchesOf the lists in some values.
func stretchesOf(values []any) []stretch {
	var all []stretch
	for _, x := range values {
		all = addStretches(all, reflect.ValueOf(x))
	}
	return all
}

// meets tells whether two stretches have memory in common.
func (s stretch) meets(other stretch) bool { return s.first < other.end && other.first < s.end }

// all answers of calls, as one list.
func all(answers ...any) []any { return answers }

// checkMemory makes calls, and tells if what was handed over to them has become another, or if a list of what they answered lies in its memory, or in that of another list.
func checkMemory(t *testing.T, name string, args []any, calls func() []any) {
	t.Helper()
	was := told(reflect.ValueOf(args))
	answers := calls()
	if now := told(reflect.ValueOf(args)); now != was {
		t.Errorf("%s: what was handed over is\n%s behind the call; it was\n%s", name, now, was)
	}
	handed, own := stretchesOf(args), stretchesOf(answers)
	for i, s := range own {
		if slices.ContainsFunc(handed, s.meets) {
			t.Errorf("%s: list %d of what is answered lies in the memory of what was handed over", name, i)
			return
		}
		if slices.ContainsFunc(own[:i], s.meets) {
			t.Errorf("%s: list %d of what is answered lies in the memory of another one", name, i)
			return
		}
	}
}

// leaf is what the room is tried with.
type leaf struct {
	Name  string
	Cells [][]int
}

func TestThereIsRoom(t *testing.T) {
	x := roomy([]leaf{{"a", [][]int{nil, {1}}}, {}})
	if len(x) != 2 || x[0].Cells[0] != nil || len(x[1].Cells) != 0 || cap(x[1].Cells) != roomBehind {
		t.Errorf("%v", x)
	}
	if x[:4][3].Name != "blot" || x[0].Cells[1][:3][2] != 7777 {
		t.Errorf("%v", x[:4])
	}
	was := told(reflect.ValueOf(x))
	_ = append(x[0].Cells[1], 1)
	if told(reflect.ValueOf(x)) == was {
		t.Error("what is written into the room is not seen")
	}
}

func TestMemoryInCommonIsSeen(t *testing.T) {
	x := roomy([]leaf{{"a", [][]int{nil, {1}}}, {}})
	for i, c := range []struct {
		a, b []any
		want bool
	}{
		{all(x[0].Cells), all(x[1].Cells), false},
		{all(x[:1]), all(x[1:]), true},
		{all(x[:1:1]), all(x[1:]), false},
		{all(x), all(x[0].Cells[1][:0]), true},
		{all(x), all(&leaf{Cells: [][]int{x[0].Cells[1][1:1]}}), true},
		{all(x), all(leaf{}, nil, (*leaf)(nil), []leaf{}, x[0].Cells[1][:0:0]), false},
	} {
		other := stretchesOf(c.b)
		meets := func(s stretch) bool { return slices.ContainsFunc(other, s.meets) }
		if got := slices.ContainsFunc(stretchesOf(c.a), meets); got != c.want {
			t.Errorf("number %d: %v", i, got)
		}
	}
}
