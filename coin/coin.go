// Package coin: amounts and rates: see ../shared/doc/01-coin.md.
package coin

import (
	"slices"

	"statute/api"
)

// Band: of what lies above From.
type Band struct{ From, Rate int }

// Part of an amount by a rate.
func Part(amount, rate, way int) (int, error) {
	if !IsWay(way) {
		return 0, api.ErrKind
	}
	if !IsAmount(amount) || !sized(rate, api.MaxRate) {
		return 0, api.ErrCoin
	}
	answer := rounded(amount*rate, fullRate, way)
	if !IsAmount(answer) {
		return 0, api.ErrCoin
	}
	return answer, nil
}

// Over is one of so many equal parts of a total, which may be greater than an amount. ErrKind: no such way (told first); ErrCoin: no such number of parts, or an answer that is too great.
func Over(total, parts, way int) (int, error) {
	if !IsWay(way) {
		return 0, api.ErrKind
	}
	if parts < 1 {
		return 0, api.ErrCoin
	}
	answer := rounded(total, parts, way)
	if !IsAmount(answer) {
		return 0, api.ErrCoin
	}
	return answer, nil
}

// Bands of an amount, together.
func Bands(amount int, l []Band, way int) (int, error) {
	if !IsWay(way) {
		return 0, api.ErrKind
	}
	wrong := func(b Band) bool { return !upTo(b.From, api.MaxCoin) || !upTo(b.Rate, api.MaxRate) }
	if !upTo(amount, api.MaxCoin) || slices.ContainsFunc(l, wrong) {
		return 0, api.ErrCoin
	}
	// The document names an answer that is too great ahead of the order, so it is told first.
	answer := rounded(takenByBands(amount, l), fullRate, way)
	if answer > api.MaxCoin {
		return 0, api.ErrCoin
	}
	if len(l) > api.MaxRows || !rising(l) {
		return 0, api.ErrOrder
	}
	return answer, nil
}

// takenByBands is what all bands together take of an amount, in ten-thousandths of a cent.
func takenByBands(amount int, l []Band) int {
	// From here on no way of rounding leads back into the bounds. To stop here keeps a list that is too long, or in no order, from overflowing.
	const tooMuch = (api.MaxCoin + 1) * fullRate
	sum := 0
	for i, b := range l {
		top := amount
		if i+1 < len(l) {
			top = min(top, l[i+1].From)
		}
		sum = min(sum+max(top-b.From, 0)*b.Rate, tooMuch)
	}
	return sum
}

// rising tells whether each From is above the one ahead.
func rising(l []Band) bool {
	for i := 1; i < len(l); i++ {
		if l[i].From <= l[i-1].From {
			return false
		}
	}
	return true
}

// IsAmount tells whether a number is an amount.
func IsAmount(n int) bool { return sized(n, api.MaxCoin) }

// sized tells whether a number is of at most that size, below 0 or above.
func sized(n, most int) bool { return -most <= n && n <= most }

// upTo tells whether a number is from 0 to most.
func upTo(n, most int) bool { return 0 <= n && n <= most }
