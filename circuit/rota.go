package circuit

import "newel/api"

// maxRotas is how many lists of trials Rota looks at, at the most.
const maxRotas = 20000

// none stands for no trial in a night.
const none = -1

// CheckRota reports whether a rota tries each switch in each Gap nights; otherwise it returns the first switch, and the first night from which on it does not (P3.9).
func CheckRota(c api.Circuit, l []api.Trial, r api.Rota) (sw, night int, is bool, e api.Errno) {
	if e := checkRota(c, l, r); e != api.OK {
		return 0, 0, false, e
	}
	sets := shownByEach(c, l)
	round := make([]int, len(r.Nights))
	for night := range len(r.Nights) {
		round[night] = union(sets, r.Nights[night])
	}
	sw, night, is = tries(len(c.Switches), round, r.Gap)
	return sw, night, is, api.OK
}

// Rota returns the trial of each night of a rota that CheckRota accepts, with the fewest trials (P3.10).
func Rota(c api.Circuit, l []api.Trial, nights, gap int) ([]int, api.Errno) {
	if e := checkTrials(c, l); e != api.OK {
		return nil, e
	}
	if !within(nights, 1, api.MaxNights) || !within(gap, 1, api.MaxNights) {
		return nil, api.ErrArg
	}
	rotas := countRotas(len(l), nights)
	if rotas > maxRotas {
		return nil, api.ErrMany
	}
	sets := shownByEach(c, l)
	fewest := nights + 1
	var best []int
	for number := range rotas {
		trials := numbered(number, len(l), nights)
		made := those(nights, func(night int) bool { return trials[night] != none })
		if len(made) >= fewest {
			continue
		}
		round := make([]int, nights)
		for _, night := range made {
			round[night] = sets[trials[night]]
		}
		if _, _, is := tries(len(c.Switches), round, gap); is {
			fewest, best = len(made), trials
		}
	}
	if best == nil {
		return nil, api.ErrNone
	}
	return best, api.OK
}

func checkRota(c api.Circuit, l []api.Trial, r api.Rota) api.Errno {
	if e := checkTrials(c, l); e != api.OK {
		return e
	}
	if !within(len(r.Nights), 1, api.MaxNights) || !within(r.Gap, 1, api.MaxNights) {
		return api.ErrRota
	}
	for _, trials := range r.Nights {
		if !ascend(trials, 0, len(l)-1) {
			return api.ErrRota
		}
	}
	return api.OK
}

// tries reports whether each switch is in one of the sets of each gap nights of a round; otherwise it returns the first switch, and the first night from which on it is not.
func tries(switches int, round []int, gap int) (sw, night int, is bool) {
	for sw := range switches {
		for night := range len(round) {
			tried := func(ahead int) bool { return has(round[(night+ahead)%len(round)], sw) }
			if len(those(gap, tried)) == 0 {
				return sw, night, false
			}
		}
	}
	return 0, 0, true
}

// countRotas stops counting above maxRotas, so that no number grows beyond an int.
func countRotas(trials, nights int) int {
	rotas := 1
	for range nights {
		if rotas <= maxRotas {
			rotas *= trials + 1
		}
	}
	return rotas
}

// numbered returns the list of trials with a number, of all lists for so many nights in order: each night is a digit of it, 0 for none.
func numbered(number, trials, nights int) []int {
	l := make([]int, nights)
	for back := range nights {
		l[nights-1-back] = number%(trials+1) + none
		number /= trials + 1
	}
	return l
}
