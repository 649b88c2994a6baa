package chain

import (
	"slices"

	"newel/api"
)

// million is how many units of wear one of Worn has.
const million = 1000000

// CheckPart returns the errors of a part and its uses (P2.8).
func CheckPart(p api.Part, l []api.Use) api.Errno {
	if !isPart(p) {
		return api.ErrPart
	}
	if len(l) > api.MaxUses {
		return api.ErrUse
	}
	since := 0
	for _, u := range l {
		if !isUse(p, u, since) {
			return api.ErrUse
		}
		since = u.Day
	}
	return api.OK
}

// Wear returns the wear that there may be behind each use (P2.9).
func Wear(p api.Part, l []api.Use) ([]api.Span, api.Errno) {
	if e := CheckPart(p, l); e != api.OK {
		return nil, e
	}
	wear := reach(p, l)
	if len(wear) < len(l) {
		return nil, api.ErrNone
	}
	lookBack(p, l, wear)
	return wear, api.OK
}

// Refuted reports whether what was measured contradicts the rates, and behind which use it does first (P2.10).
func Refuted(p api.Part, l []api.Use) (use int, is bool, e api.Errno) {
	if e := CheckPart(p, l); e != api.OK {
		return 0, false, e
	}
	possible := len(reach(p, l))
	if possible == len(l) {
		return 0, false, api.OK
	}
	return possible, true, api.OK
}

// Beyond returns the first use behind which a part may be beyond its life (P2.11).
func Beyond(p api.Part, l []api.Use) (use int, e api.Errno) {
	return firstSpent(p, l, func(wear api.Span) int { return wear.High })
}

// Surely returns the first use behind which a part surely is beyond its life (P2.11).
func Surely(p api.Part, l []api.Use) (use int, e api.Errno) {
	return firstSpent(p, l, func(wear api.Span) int { return wear.Low })
}

// Last returns how many uses of a plan a part can still do (P2.12).
func Last(p api.Part, l, plan []api.Use) (int, api.Errno) {
	both := slices.Concat(l, plan)
	if e := CheckPart(p, both); e != api.OK {
		return 0, e
	}
	if slices.ContainsFunc(plan, func(u api.Use) bool { return u.Measured }) {
		return 0, api.ErrArg
	}
	// Nothing is measured in the plan: with it the same wear is possible behind l as without it.
	use, e := Beyond(p, both)
	switch {
	case e != api.OK:
		return 0, e
	case use < 0:
		return len(plan), api.OK
	}
	return max(use-len(l), -1), api.OK
}

// Due returns how many turns more a part can make under a load up to a day (P2.13).
func Due(p api.Part, l []api.Use, class, day int) (int, api.Errno) {
	if e := CheckPart(p, l); e != api.OK {
		return 0, e
	}
	wear, turns, since := 0, 0, 0
	for _, u := range l {
		turns += u.Turns
		since = u.Day
	}
	if !within(class, 0, len(p.Rates)-1) || !within(day, since, api.MaxTime) {
		return 0, api.ErrArg
	}
	spans := reach(p, l)
	if len(spans) < len(l) {
		return 0, api.ErrNone
	}
	if len(spans) > 0 {
		wear = spans[len(spans)-1].High
	}
	if spent(p, wear, turns, day) {
		return 0, api.ErrNone
	}
	due := p.Turns - turns
	if rate := p.Rates[class].High; rate > 0 {
		due = min(due, (p.Worn*million-wear)/rate)
	}
	return due, api.OK
}
