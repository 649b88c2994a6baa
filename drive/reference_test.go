package drive_test

import (
	"math"
	"math/rand"

	"newel/api"
)

// What follows is the chapter's text once more, in other ways than the package's: floats for the quotients (exact, as the numbers are small), and all loads of a span instead of its ends.

func quotient(n, by int) int { return int(math.Floor(float64(n) / float64(by))) }

func refStep(e api.Escalator, v, load, brakes int) int {
	g := e.Pull * load
	if e.Up {
		g = -g
	}
	if v < 0 {
		e.Up = !e.Up
		return -refStep(e, -v, load, brakes)
	}
	f := e.Drag + brakes
	if v == 0 && g <= f && -g <= f {
		return 0
	}
	if v == 0 && -g > f {
		return -quotient(-g-f, e.Empty+load)
	}
	n := v + quotient(g-f, e.Empty+load)
	if n < 0 {
		return 0
	}
	return n
}

func refBrakes(e api.Escalator, s api.Stop, tick int) int {
	sum := 0
	for i, b := range e.Brakes {
		if s.Fail/(1<<i)%2 == 0 && tick >= b.Delay {
			sum += b.Force
		}
	}
	return sum
}

type bounds struct {
	way, ticks api.Span
	long       bool
}

func widen(s *api.Span, first bool, low, high int) {
	if first {
		*s = api.Span{Low: low, High: high}
		return
	}
	s.Low, s.High = min(s.Low, low), max(s.High, high)
}

// refDistance keeps for each speed that there may be behind a tick the least and the greatest way that leads to it.
func refDistance(e api.Escalator, s api.Stop) bounds {
	if s.Speed == 0 {
		return bounds{}
	}
	var b bounds
	rested := false
	now := map[int]api.Span{s.Speed: {}}
	for tick := 0; tick < 100; tick++ {
		behind := map[int]api.Span{}
		for v, way := range now {
			for load := s.Loads.Low; load <= s.Loads.High; load++ {
				n := refStep(e, v, load, refBrakes(e, s, tick))
				old, known := behind[n]
				widen(&old, !known, way.Low+n, way.High+n)
				behind[n] = old
			}
		}
		if way, is := behind[0]; is {
			widen(&b.way, !rested, way.Low, way.High)
			widen(&b.ticks, !rested, tick+1, tick+1)
			rested = true
			delete(behind, 0)
		}
		now = behind
	}
	if len(now) > 0 {
		return bounds{long: true}
	}
	return b
}

// refBack keeps for each speed the greatest run back that leads to it.
func refBack(e api.Escalator, s api.Stop) (most int, long bool) {
	now := map[int]int{s.Speed: 0}
	for tick := 0; tick < 100; tick++ {
		behind := map[int]int{}
		for v, run := range now {
			for load := s.Loads.Low; load <= s.Loads.High; load++ {
				n := refStep(e, v, load, refBrakes(e, s, tick))
				r := run + max(0, -n)
				if old, known := behind[n]; !known || r > old {
					behind[n] = r
				}
			}
		}
		now = behind
	}
	for v, run := range now {
		long = long || v < 0
		most = max(most, run)
	}
	if long {
		return 0, true
	}
	return most, false
}

func refHolds(e api.Escalator, s api.Stop) bool {
	for load := s.Loads.Low; load <= s.Loads.High; load++ {
		if e.Pull*load > e.Drag+refBrakes(e, s, 1000) {
			return false
		}
	}
	return true
}

func refStops(e api.Escalator, s api.Stop, limit int) bool {
	b := refDistance(e, s)
	return !b.long && b.way.High <= limit
}

func refCritical(e api.Escalator, s api.Stop, way, back int) []int {
	var l []int
	for i := range e.Brakes {
		if s.Fail/(1<<i)%2 == 1 {
			continue
		}
		w := s
		w.Fail += 1 << i
		run, long := refBack(e, w)
		if !refStops(e, w, way) || long || run > back || !refHolds(e, w) {
			l = append(l, i)
		}
	}
	return l
}

// anyCase draws an escalator and a stop whose spans of loads are narrow enough to try all of them.
func anyCase(r *rand.Rand) (api.Escalator, api.Stop) {
	e := api.Escalator{Up: r.Intn(2) == 0, Empty: 1 + r.Intn(40), Pull: r.Intn(12), Drag: r.Intn(60), Motor: r.Intn(300)}
	for range r.Intn(4) {
		e.Brakes = append(e.Brakes, api.Brake{Force: r.Intn(160), Delay: r.Intn(6)})
	}
	s := api.Stop{Speed: r.Intn(50), Fail: r.Intn(1 << len(e.Brakes))}
	if r.Intn(4) == 0 {
		s.Speed = 0
	}
	if r.Intn(2) == 0 {
		s.Fail = 0
	}
	s.Loads.Low = r.Intn(20)
	s.Loads.High = s.Loads.Low + r.Intn(15)
	return e, s
}

func anyLoads(r *rand.Rand, s api.Stop, ticks int) []int {
	l := make([]int, ticks)
	ends := r.Intn(2) == 0
	for i := range l {
		l[i] = s.Loads.Low + r.Intn(s.Loads.High-s.Loads.Low+1)
		if ends && r.Intn(2) == 0 {
			l[i] = s.Loads.Low
		} else if ends {
			l[i] = s.Loads.High
		}
	}
	return l
}
