package readout

import (
	"slices"

	"hodoscope/api"
)

func isAdc(n int) bool {
	return within(n, 0, api.MaxAdc)
}

func areAdcs(l []int) bool {
	return !slices.ContainsFunc(l, func(n int) bool { return !isAdc(n) })
}

// Suppress returns the hits of measurements: what is above the threshold when the pedestal has been subtracted, and is not
// dead.
func Suppress(adc []int, pedestal, threshold int, dead []int) ([]api.Raw, api.Errno) {
	switch {
	case len(adc) > api.MaxChip:
		return nil, api.ErrLong
	case !areAdcs(adc) || !isAdc(pedestal) || !isAdc(threshold):
		return nil, api.ErrArg
	}
	isDead := make([]bool, len(adc))
	for _, i := range dead {
		if within(i, 0, len(adc)-1) {
			isDead[i] = true
		}
	}
	var l []api.Raw
	for i, n := range adc {
		if !isDead[i] && n-pedestal > threshold {
			l = append(l, api.Raw{Addr: i, Adc: n - pedestal})
		}
	}
	return l, api.OK
}

// Pile adds the measurements of two events.
func Pile(a, b []int) ([]int, api.Errno) {
	switch {
	case len(a) > api.MaxChip || len(b) > api.MaxChip:
		return nil, api.ErrLong
	case !areAdcs(a) || !areAdcs(b):
		return nil, api.ErrArg
	}
	sum := make([]int, max(len(a), len(b)))
	for _, l := range [][]int{a, b} {
		for i, n := range l {
			sum[i] = min(sum[i]+n, api.MaxAdc)
		}
	}
	return sum, api.OK
}
