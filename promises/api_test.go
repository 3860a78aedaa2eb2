// Package promises holds the tests of what holds everywhere, and of the packages that are given whole and stay as they are.
package promises

import (
	"errors"
	"slices"
	"testing"

	"statute/api"
	"statute/plain"
)

func TestP5Bounds(t *testing.T) {
	got := []int{
		api.MaxText, api.MaxItems, api.MaxDeep, api.MaxLines, api.MaxLine, api.MaxWord, api.MaxOps, api.MaxActs,
		api.MaxCoin, api.MaxRate, api.MaxDay, api.MaxTerm, api.MaxPeople, api.MaxFacts, api.MaxRules, api.MaxNames,
		api.MaxNest, api.MaxCells, api.MaxRows, api.MaxDuties, api.MaxSteps,
	}
	want := []int{30000, 300, 6, 40, 300, 24, 100, 60, 1000000000000, 1000000, 3652059, 100000, 40, 500, 120, 120, 40, 12, 60, 200, 400}
	if !slices.Equal(got, want) {
		t.Errorf("%v; want %v", got, want)
	}
}

func TestP5Kinds(t *testing.T) {
	for _, c := range []struct {
		what  string
		first int
		got   []int
	}{
		{"ways of rounding", 0, []int{api.Down, api.Up, api.Floor, api.Ceil, api.HalfUp, api.HalfEven}},
		{"units", 0, []int{api.Days, api.Working, api.Weeks, api.Months, api.Years}},
		{"rolls", 0, []int{api.Stay, api.Next, api.Before}},
		{"changes", 1, []int{api.OHead, api.OLine, api.OAdd, api.ODrop, api.OWords, api.OPut, api.ORepeal, api.OLabel, api.OMove}},
		{"rules", 0, []int{api.Strict, api.Defeasible, api.Defeater}},
		{"literals", 0, []int{api.Open, api.Yes, api.No}},
		{"duties", 0, []int{api.Due, api.Met, api.Late, api.Broken, api.Waived}},
	} {
		for i, n := range c.got {
			if n != c.first+i {
				t.Errorf("%s: number %d is %d", c.what, c.first+i, n)
			}
		}
	}
}

// allErrors are those of package api, as plain counts them from 1 on.
func allErrors() []error {
	return []error{api.ErrText, api.ErrBound, api.ErrCoin, api.ErrDay, api.ErrPath, api.ErrWords, api.ErrName, api.ErrOrder, api.ErrKind, api.ErrProof, api.ErrStage}
}

func TestP5Errors(t *testing.T) {
	texts := []string{"text", "bound", "amount", "day", "path", "words", "name", "order", "kind", "explanation", "stage"}
	for i, err := range allErrors() {
		if want := "statute: " + texts[i]; err.Error() != want {
			t.Errorf("%q; want %q", err.Error(), want)
		}
		fault := &api.Fault{At: 7, Err: err}
		if fault.Error() != err.Error() || !errors.Is(fault, err) {
			t.Errorf("a fault of %v is told as %v", err, fault)
		}
	}
}

func TestPlainCodes(t *testing.T) {
	for i, err := range allErrors() {
		if code, at := plain.Code(err); code != i+1 || at != -1 {
			t.Errorf("%v: %d, %d", err, code, at)
		}
		if code, at := plain.Code(&api.Fault{At: 7, Err: err}); code != i+1 || at != 7 {
			t.Errorf("fault of %v: %d, %d", err, code, at)
		}
	}
	if code, at := plain.Code(nil); code != 0 || at != -1 {
		t.Errorf("nil: %d, %d", code, at)
	}
	if code, at := plain.Code(errors.New("another one")); code != -1 || at != -1 {
		t.Errorf("another one: %d, %d", code, at)
	}
}
