package coin

import (
	"math"
	"math/big"
	"slices"
	"testing"

	"statute/api"
)

var allWays = []int{api.Down, api.Up, api.Floor, api.Ceil, api.HalfUp, api.HalfEven}

var noWays = []int{-1, 6, math.MinInt, math.MaxInt}

// expected is x by a way, told as the document tells it: on numbers without bounds.
func expected(x *big.Rat, way int) *big.Int {
	low := new(big.Int).Div(x.Num(), x.Denom())
	if x.IsInt() {
		return low
	}
	high := new(big.Int).Add(low, big.NewInt(1))
	inner, outer := low, high
	if x.Sign() < 0 {
		inner, outer = high, low
	}
	twice := new(big.Rat).Mul(x, big.NewRat(2, 1))
	middle := new(big.Rat).SetInt(new(big.Int).Add(low, high))
	nearer := low
	if twice.Cmp(middle) > 0 {
		nearer = high
	}
	switch way {
	case api.Down:
		return inner
	case api.Up:
		return outer
	case api.Floor:
		return low
	case api.Ceil:
		return high
	}
	if twice.Cmp(middle) != 0 {
		return nearer
	}
	if way == api.HalfUp {
		return outer
	}
	if low.Bit(0) == 0 {
		return low
	}
	return high
}

// checkAnswer holds an answer against a number that may be too great.
func checkAnswer(t *testing.T, what []any, n int, err error, want *big.Int) {
	t.Helper()
	if want.CmpAbs(big.NewInt(api.MaxCoin)) > 0 {
		if n != 0 || err != api.ErrCoin {
			t.Errorf("%v: %d, %v; want %v", what, n, err, api.ErrCoin)
		}
	} else if err != nil || int64(n) != want.Int64() {
		t.Errorf("%v: %d, %v; want %v", what, n, err, want)
	}
}

func TestP11PartByEveryWay(t *testing.T) {
	for _, c := range []struct {
		amount, rate int
		want         [6]int // by way: Down, Up, Floor, Ceil, HalfUp, HalfEven
	}{
		{100, 10000, [6]int{100, 100, 100, 100, 100, 100}},
		{1, 5000, [6]int{0, 1, 0, 1, 1, 0}},
		{3, 5000, [6]int{1, 2, 1, 2, 2, 2}},
		{-1, 5000, [6]int{0, -1, -1, 0, -1, 0}},
		{-3, 5000, [6]int{-1, -2, -2, -1, -2, -2}},
		{3, -5000, [6]int{-1, -2, -2, -1, -2, -2}},
		{-3, -5000, [6]int{1, 2, 1, 2, 2, 2}},
		{1, 4999, [6]int{0, 1, 0, 1, 0, 0}},
		{1, 5001, [6]int{0, 1, 0, 1, 1, 1}},
		{-1, 4999, [6]int{0, -1, -1, 0, 0, 0}},
		{-1, 5001, [6]int{0, -1, -1, 0, -1, -1}},
		{0, 5000, [6]int{}},
		{5000, 0, [6]int{}},
	} {
		for _, way := range allWays {
			if n, err := Part(c.amount, c.rate, way); err != nil || n != c.want[way] {
				t.Errorf("Part(%d, %d, %d): %d, %v; want %d", c.amount, c.rate, way, n, err, c.want[way])
			}
		}
	}
}

func TestP11PartAtTheBounds(t *testing.T) {
	amounts := []int{0, 1, 2, 3, 9999, 10000, 15000, 99999999, 100000000, api.MaxCoin / 2, api.MaxCoin - 1, api.MaxCoin}
	rates := []int{0, 1, 3, 2500, 3333, 4999, 5000, 5001, 7500, 9999, 10000, 10001, 15000, 99999, api.MaxRate - 1, api.MaxRate}
	for _, a := range amounts {
		for _, r := range rates {
			for _, way := range allWays {
				for _, c := range [][2]int{{a, r}, {-a, r}, {a, -r}, {-a, -r}} {
					x := new(big.Rat).SetFrac(new(big.Int).Mul(big.NewInt(int64(c[0])), big.NewInt(int64(c[1]))), big.NewInt(10000))
					n, err := Part(c[0], c[1], way)
					checkAnswer(t, []any{"Part", c, way}, n, err, expected(x, way))
				}
			}
		}
	}
}

func TestP11PartRefuses(t *testing.T) {
	for _, way := range noWays {
		if n, err := Part(math.MinInt, math.MaxInt, way); n != 0 || err != api.ErrKind {
			t.Errorf("way %d: %d, %v", way, n, err)
		}
	}
	for _, c := range [][2]int{
		{api.MaxCoin + 1, 0}, {-api.MaxCoin - 1, 0}, {math.MinInt, 0}, {math.MaxInt, 1},
		{0, api.MaxRate + 1}, {0, -api.MaxRate - 1}, {1, math.MinInt}, {1, math.MaxInt},
		{api.MaxCoin, 10001}, {-api.MaxCoin, 10001}, {api.MaxCoin, api.MaxRate}, {api.MaxCoin, -api.MaxRate},
	} {
		for _, way := range allWays {
			if n, err := Part(c[0], c[1], way); n != 0 || err != api.ErrCoin {
				t.Errorf("Part(%d, %d, %d): %d, %v", c[0], c[1], way, n, err)
			}
		}
	}
}

func TestP110Over(t *testing.T) {
	sums := []int{0, 1, 2, 13, 14, 15, 16, 45, 31 * api.MaxCoin, 31*api.MaxCoin + 15, 31*api.MaxCoin + 16, math.MaxInt}
	for _, sum := range sums {
		for _, parts := range []int{1, 2, 28, 29, 30, 31, math.MaxInt/2 + 1, math.MaxInt - 1, math.MaxInt} {
			for _, way := range allWays {
				for _, n := range []int{sum, -sum, -sum - 1} {
					got, err := Over(n, parts, way)
					checkAnswer(t, []any{"Over", n, parts, way}, got, err, expected(big.NewRat(int64(n), int64(parts)), way))
				}
			}
		}
	}
	for _, way := range noWays {
		if n, err := Over(1, 0, way); n != 0 || err != api.ErrKind || IsWay(way) {
			t.Errorf("way %d: %d, %v", way, n, err)
		}
	}
	for _, parts := range []int{0, -1, math.MinInt} {
		for _, way := range allWays {
			if n, err := Over(0, parts, way); n != 0 || err != api.ErrCoin || !IsWay(way) {
				t.Errorf("%d parts, way %d: %d, %v", parts, way, n, err)
			}
		}
	}
}

// centByCent is what bands take of an amount: of each cent the rate of the last band that it lies above.
func centByCent(amount int, l []Band) *big.Rat {
	sum := int64(0)
	for cent := 1; cent <= amount; cent++ {
		rate := 0
		for _, b := range l {
			if cent > b.From {
				rate = b.Rate
			}
		}
		sum += int64(rate)
	}
	return big.NewRat(sum, 10000)
}

func TestP12BandsTakeOfEachCent(t *testing.T) {
	for _, l := range [][]Band{
		nil, {}, {{0, 5000}}, {{7, 3333}}, {{0, 0}, {1, 10000}}, {{0, 1234}, {10, 2500}, {20, 5000}, {21, api.MaxRate}},
		{{5, 5000}, {6, 0}, {7, 5000}}, {{3, 9999}, {60, 1}}, {{api.MaxCoin, api.MaxRate}}, {{2, 2500}, {api.MaxCoin, 1}},
	} {
		for amount := range 70 {
			for _, way := range allWays {
				n, err := Bands(amount, l, way)
				checkAnswer(t, []any{"Bands", amount, l, way}, n, err, expected(centByCent(amount, l), way))
			}
		}
	}
}

func TestP12BandsAreRoundedOnce(t *testing.T) {
	// A quarter of a cent from each of four bands: one cent, whatever the way.
	l := []Band{{0, 2500}, {1, 2500}, {2, 2500}, {3, 2500}}
	for _, way := range allWays {
		if n, err := Bands(4, l, way); n != 1 || err != nil {
			t.Errorf("way %d: %d, %v", way, n, err)
		}
	}
}

func TestP12BandsAtTheBounds(t *testing.T) {
	most := make([]Band, api.MaxRows)
	for i := range most {
		most[i] = Band{From: i, Rate: 10000}
	}
	tip := []Band{{0, 10000}, {api.MaxCoin - 1, 10001}}
	for _, c := range []struct {
		amount int
		l      []Band
		way    int
		want   int
		err    error
	}{
		{api.MaxCoin, most, api.Up, api.MaxCoin, nil},
		{api.MaxCoin, []Band{{0, 10000}}, api.Up, api.MaxCoin, nil},
		{api.MaxCoin, []Band{{api.MaxCoin - 100, api.MaxRate}}, api.Down, 10000, nil},
		{api.MaxCoin, tip, api.Down, api.MaxCoin, nil},
		{api.MaxCoin, tip, api.HalfUp, api.MaxCoin, nil},
		{api.MaxCoin, tip, api.Up, 0, api.ErrCoin},
		{api.MaxCoin, tip, api.Ceil, 0, api.ErrCoin},
		{api.MaxCoin, []Band{{0, 10001}}, api.Down, 0, api.ErrCoin},
		{api.MaxCoin, []Band{{0, api.MaxRate}}, api.Down, 0, api.ErrCoin},
		{api.MaxCoin, nil, api.Down, 0, nil},
	} {
		if n, err := Bands(c.amount, c.l, c.way); n != c.want || err != c.err {
			t.Errorf("Bands(%d, %v, %d): %d, %v; want %d, %v", c.amount, c.l, c.way, n, err, c.want, c.err)
		}
	}
}

func TestP12BandsRefuse(t *testing.T) {
	long := make([]Band, api.MaxRows+1)
	for i := range long {
		long[i] = Band{From: i, Rate: 1}
	}
	longAndGreat := slices.Clone(long)
	longAndGreat[api.MaxRows].Rate = api.MaxRate
	for _, c := range []struct {
		amount int
		l      []Band
		err    error
	}{
		{-1, nil, api.ErrCoin}, {math.MinInt, nil, api.ErrCoin}, {api.MaxCoin + 1, nil, api.ErrCoin}, {math.MaxInt, []Band{{0, 1}}, api.ErrCoin},
		{1, []Band{{-1, 0}}, api.ErrCoin}, {1, []Band{{api.MaxCoin + 1, 0}}, api.ErrCoin}, {1, []Band{{0, -1}}, api.ErrCoin}, {1, []Band{{0, api.MaxRate + 1}}, api.ErrCoin},
		{1, []Band{{math.MinInt, math.MaxInt}}, api.ErrCoin}, {1, []Band{{0, 1}, {5, 1}, {math.MaxInt, math.MinInt}}, api.ErrCoin},
		{1, []Band{{5, 1}, {5, 1}}, api.ErrOrder}, {1, []Band{{5, 1}, {4, 1}}, api.ErrOrder}, {0, []Band{{0, 0}, {1, 0}, {1, 0}}, api.ErrOrder},
		{1, long, api.ErrOrder}, {0, make([]Band, 100000), api.ErrOrder},
		// The first error that is named is told.
		{1, []Band{{5, 1}, {5, -1}}, api.ErrCoin}, {1, append(slices.Clone(long), Band{-1, 0}), api.ErrCoin}, {-1, long, api.ErrCoin},
		{api.MaxCoin, longAndGreat, api.ErrCoin}, {api.MaxCoin, []Band{{5, api.MaxRate}, {5, api.MaxRate}}, api.ErrCoin},
	} {
		if n, err := Bands(c.amount, c.l, api.Floor); n != 0 || err != c.err {
			t.Errorf("Bands(%d, %d bands %v): %d, %v; want %v", c.amount, len(c.l), c.l[:min(len(c.l), 3)], n, err, c.err)
		}
		for _, way := range noWays {
			if n, err := Bands(c.amount, c.l, way); n != 0 || err != api.ErrKind {
				t.Errorf("way %d: %d, %v", way, n, err)
			}
		}
	}
}

func TestP12BandsInNoOrderDoNotOverflow(t *testing.T) {
	l := make([]Band, 1000)
	for i := range l {
		l[i] = Band{From: i % 2 * api.MaxCoin, Rate: api.MaxRate}
	}
	if n, err := Bands(api.MaxCoin, l, api.Floor); n != 0 || err != api.ErrCoin {
		t.Errorf("%d, %v", n, err)
	}
}

func TestP4BandsOnlyReads(t *testing.T) {
	l := []Band{{1, 2}, {3, 4}}
	if _, err := Bands(5, l, api.Up); err != nil || !slices.Equal(l, []Band{{1, 2}, {3, 4}}) {
		t.Errorf("%v, %v", l, err)
	}
}
