package chain

import (
	"slices"

	"newel/api"
)

func isPart(p api.Part) bool {
	bad := func(s api.Span) bool { return !isSpan(s, api.MaxMicro) }
	return within(len(p.Rates), 1, api.MaxClasses) && !slices.ContainsFunc(p.Rates, bad) &&
		within(p.Worn, 0, api.MaxWorn) && within(p.Turns, 0, api.MaxTurns) && within(p.Age, 0, api.MaxTime)
}

func isUse(p api.Part, u api.Use, since int) bool {
	none := u.Says == api.Span{}
	return within(u.Day, since, api.MaxTime) && within(u.Turns, 0, api.MaxTurns) && within(u.Class, 0, len(p.Rates)-1) &&
		isSpan(u.Says, api.MaxWear) && (u.Measured || none)
}

// added returns by how much a use may wear.
func added(p api.Part, u api.Use) api.Span {
	rate := p.Rates[u.Class]
	return api.Span{Low: u.Turns * rate.Low, High: u.Turns * rate.High}
}

func common(a, b api.Span) api.Span {
	return api.Span{Low: max(a.Low, b.Low), High: min(a.High, b.High)}
}

// reach returns the wear that there may be behind each use as far as the measures up to it tell. It ends before the first use behind which no wear is possible.
func reach(p api.Part, l []api.Use) []api.Span {
	var spans []api.Span
	var wear api.Span
	for _, u := range l {
		add := added(p, u)
		wear = api.Span{Low: wear.Low + add.Low, High: wear.High + add.High}
		if u.Measured {
			wear = common(wear, u.Says)
		}
		if wear.Low > wear.High {
			break
		}
		spans = append(spans, wear)
	}
	return spans
}

// lookBack narrows what reach returned by the later measures: from each wear that is left behind a use, one that is left behind the next use must be within reach.
func lookBack(p api.Part, l []api.Use, spans []api.Span) {
	for back := range len(l) - 1 {
		use := len(l) - 2 - back
		behind, add := spans[use+1], added(p, l[use+1])
		spans[use] = common(spans[use], api.Span{Low: behind.Low - add.High, High: behind.High - add.Low})
	}
}

// spent reports whether a part with this wear and all these turns is beyond its life on a day.
func spent(p api.Part, wear, turns, day int) bool {
	return wear > p.Worn*million || turns > p.Turns || day > p.Age
}

// firstSpent returns the first use behind which the part is beyond its life, if its wear is the end of the span that end gives; -1 if there is none.
func firstSpent(p api.Part, l []api.Use, end func(wear api.Span) int) (int, api.Errno) {
	spans, e := Wear(p, l)
	if e != api.OK {
		return 0, e
	}
	turns := 0
	for i, u := range l {
		turns += u.Turns
		if spent(p, end(spans[i]), turns, u.Day) {
			return i, api.OK
		}
	}
	return -1, api.OK
}
