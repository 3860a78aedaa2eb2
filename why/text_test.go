package why

import (
	"errors"
	"math"
	"math/rand"
	"slices"
	"strings"
	"testing"

	"statute/api"
)

func TestP92Text(t *testing.T) {
	names := []string{"old", "elig", "a_1"}
	for want, l := range map[string][]Step{
		"":                   nil,
		"sure old\n":         {{true, true, 1}},
		"not sure old\n":     {{true, false, 1}},
		"holds elig\n":       {{false, true, 2}},
		"fails a_1\n":        {{false, false, 3}},
		"sure not old\n":     {{true, true, -1}},
		"not sure not a_1\n": {{true, false, -3}},
		"holds not elig\nfails not old\nholds not elig\n": {{false, true, -2}, {false, false, -1}, {false, true, -2}},
	} {
		if got := Text(l, names); got != want {
			t.Errorf("%+v: %q, want %q", l, got, want)
		}
		for _, text := range []string{want, strings.TrimSuffix(want, "\n")} {
			if got, err := Read(text, names); !slices.Equal(got, l) || err != nil {
				t.Errorf("%q: %+v, %v", text, got, err)
			}
		}
	}
}

func TestP92TextWithoutAName(t *testing.T) {
	for _, q := range []int{0, 3, -3, math.MaxInt, math.MinInt, -math.MaxInt} {
		if got := Text([]Step{{true, false, q}, {false, true, -2}}, []string{"p", "q"}); got != "not sure ?\nholds not q\n" {
			t.Errorf("%d: %q", q, got)
		}
	}
	if got := Text([]Step{{false, false, 1}}, nil); got != "fails ?\n" {
		t.Errorf("without names: %q", got)
	}
}

func TestP92Wrong(t *testing.T) {
	names := []string{"p", "q", "sure", "not"}
	for text, want := range map[string]struct {
		at  int
		err error
	}{
		"\n":                                  {0, api.ErrText},
		"\n\n":                                {0, api.ErrText},
		"sure p\n\n":                          {1, api.ErrText},
		"sure p\n\nsure q":                    {1, api.ErrText},
		" sure p":                             {0, api.ErrText},
		"Sure p":                              {0, api.ErrText},
		"sure":                                {0, api.ErrText},
		"surep":                               {0, api.ErrText},
		"sure\tp":                             {0, api.ErrText},
		"not":                                 {0, api.ErrText},
		"not sure":                            {0, api.ErrText},
		"not  sure p":                         {0, api.ErrText},
		"not holds p":                         {0, api.ErrText},
		"not p":                               {0, api.ErrText},
		"hold p":                              {0, api.ErrText},
		"holds":                               {0, api.ErrText},
		"failsp":                              {0, api.ErrText},
		"p":                                   {0, api.ErrText},
		"?":                                   {0, api.ErrText},
		"sure p\r\nholds q x":                 {0, api.ErrName},
		"sure ":                               {0, api.ErrName},
		"sure  p":                             {0, api.ErrName},
		"sure p ":                             {0, api.ErrName},
		"sure P":                              {0, api.ErrName},
		"sure ?":                              {0, api.ErrName},
		"sure not ":                           {0, api.ErrName},
		"sure not  p":                         {0, api.ErrName},
		"not sure not not p":                  {0, api.ErrName},
		"holds r":                             {0, api.ErrName},
		"fails not r":                         {0, api.ErrName},
		"fails p q":                           {0, api.ErrName},
		"sure p\nfails p\nr":                  {2, api.ErrText},
		"sure p\nfails p\nholds r\nholds r\n": {2, api.ErrName},
	} {
		var fault *api.Fault
		l, err := Read(text, names)
		if l != nil || !errors.As(err, &fault) || fault.At != want.at || fault.Err != want.err {
			t.Errorf("%q: %+v, %v", text, l, err)
		}
	}
	if l, err := Read("sure p", nil); l != nil || !errors.Is(err, api.ErrName) {
		t.Errorf("without names: %+v, %v", l, err)
	}
}

func TestP92WordsOfItAsNames(t *testing.T) {
	names := []string{"sure", "not", "holds", "fails"}
	for _, q := range []int{1, -1, 2, -2, 3, -3, 4, -4} {
		l := []Step{{true, true, q}, {true, false, q}, {false, true, q}, {false, false, q}}
		if got, err := Read(Text(l, names), names); !slices.Equal(got, l) || err != nil {
			t.Errorf("%+v: %+v, %v", l, got, err)
		}
	}
}

func TestP92HowLong(t *testing.T) {
	names := []string{"x12", "y"}
	most := strings.Repeat("fails x12\n", api.MaxText/10) // ten bytes each
	for text, want := range map[string]error{
		most:                                 nil,
		most[:len(most)-1]:                   nil,
		most[:len(most)-10] + "sure not y\n": api.ErrBound,
		most[:len(most)-10] + "sure not y":   nil,
		most + "fails x12":                   api.ErrBound,
		most + most + most:                   api.ErrBound,
	} {
		l, err := Read(text, names)
		if want == nil {
			if len(l) != api.MaxText/10 || err != nil {
				t.Errorf("%d bytes: %d, %v", len(text), len(l), err)
			}
			continue
		}
		var fault *api.Fault
		if l != nil || !errors.As(err, &fault) || fault.At != 0 || fault.Err != want {
			t.Errorf("%d bytes: %d, %v", len(text), len(l), err)
		}
	}
}

func TestP92TheOrderOfErrors(t *testing.T) {
	long := strings.Repeat("sure p\n", api.MaxText)
	for text, want := range map[string]api.Fault{
		"sure r\nwrong":   {At: 0, Err: api.ErrName},
		"wrong\nsure r":   {At: 0, Err: api.ErrText},
		long + "wrong":    {At: api.MaxText, Err: api.ErrText},
		long + "sure r\n": {At: api.MaxText, Err: api.ErrName},
		long:              {At: 0, Err: api.ErrBound},
	} {
		var fault *api.Fault
		if _, err := Read(text, []string{"p"}); !errors.As(err, &fault) || *fault != want {
			t.Errorf("%d bytes: %+v", len(text), err)
		}
	}
}

func TestP92BackAndForth(t *testing.T) {
	rng := rand.New(rand.NewSource(92))
	names := make([]string, 0, api.MaxNames)
	for i := range api.MaxNames {
		names = append(names, strings.Repeat("n", 1+i%20)+string(rune('a'+i%26))+string(rune('a'+i/26)))
	}
	for range 2000 {
		var l []Step
		for range rng.Intn(40) {
			l = append(l, Step{rng.Intn(2) == 0, rng.Intn(2) == 0, (1 + rng.Intn(len(names))) * (1 - 2*rng.Intn(2))})
		}
		text := Text(l, names)
		if got, err := Read(text, names); !slices.Equal(got, l) || err != nil {
			t.Fatalf("%q: %+v, %v", text, got, err)
		}
	}
	for _, text := range []string{"", "sure", "\x00", "not sure not", strings.Repeat("\n", api.MaxText+1), "sure \xff\n"} {
		Read(text, names) // P1: it ends
	}
}
