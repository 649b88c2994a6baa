package circuit

import "newel/api"

// lastNight is the last night that an upset may have; package api has no name for it.
const lastNight = 1000

// Play returns the switches that are stuck behind the trials of each night with an upset, and the upsets that are a Danger and pass (P3.11).
func Play(c api.Circuit, l []api.Trial, r api.Rota, u []api.Upset) (stuck []int, passed []int, e api.Errno) {
	if e := checkRota(c, l, r); e != api.OK {
		return nil, nil, e
	}
	if !areUpsets(c, u) {
		return nil, nil, api.ErrUpset
	}
	closed := 0
	for night := range nightsOf(u) {
		today := those(len(u), func(upset int) bool { return u[upset].Night == night })
		for _, upset := range today {
			if u[upset].Kind == api.Stuck {
				closed |= alone(u[upset].Number)
			}
		}
		closed = behindTrials(c, l, r.Nights[night%len(r.Nights)], closed)
		if len(today) > 0 {
			stuck = append(stuck, closed)
		}
		for _, upset := range today {
			if u[upset].Kind == api.Danger && passes(c, u[upset].Number, closed) {
				passed = append(passed, upset)
			}
		}
	}
	return stuck, passed, api.OK
}

// behindTrials returns what is still stuck closed behind the trials of a night.
func behindTrials(c api.Circuit, l []api.Trial, trials []int, closed int) int {
	for _, trial := range trials {
		if shows(c, l[trial], closed) {
			return 0
		}
	}
	return closed
}

// nightsOf returns how many nights there are up to the last upset.
func nightsOf(u []api.Upset) int {
	if len(u) == 0 {
		return 0
	}
	return u[len(u)-1].Night + 1
}

func areUpsets(c api.Circuit, u []api.Upset) bool {
	if len(u) > api.MaxUpsets {
		return false
	}
	before := api.Upset{Kind: api.Stuck}
	for _, x := range u {
		late := x.Night == before.Night && x.Kind == api.Stuck && before.Kind == api.Danger
		if late || !within(x.Night, before.Night, lastNight) || !isUpset(c, x) {
			return false
		}
		before = x
	}
	return true
}

func isUpset(c api.Circuit, x api.Upset) bool {
	switch x.Kind {
	case api.Stuck:
		return within(x.Number, 0, len(c.Switches)-1)
	case api.Danger:
		return x.Number != 0 && isSet(x.Number, c.Hazards)
	}
	return false
}
