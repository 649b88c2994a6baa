package drive

import "newel/api"

// ride is a history until the band comes to rest, or for MaxTicks ticks.
type ride struct {
	loads []int
	way   int
	rests bool
}

func within(n, low, high int) bool { return low <= n && n <= high }

func checkStop(e api.Escalator, s api.Stop) api.Errno {
	if f := Check(e); f != api.OK {
		return f
	}
	loads := within(s.Loads.High, 0, api.MaxWeight) && within(s.Loads.Low, 0, s.Loads.High)
	if !loads || !within(s.Speed, 0, api.MaxSpeed) || !within(s.Fail, 0, 1<<len(e.Brakes)-1) {
		return api.ErrStop
	}
	return api.OK
}

// floor rounds down below 0, too, where Go's own division rounds towards 0; the divisor is above 0.
func floor(n, by int) int {
	q := n / by
	if n%by < 0 {
		return q - 1
	}
	return q
}

// next returns what a speed becomes in a tick, if the brakes oppose motion with this force together.
func next(e api.Escalator, speed, load, brakes int) int {
	along := e.Pull * load
	if e.Up {
		along = -along
	}
	against := e.Drag + brakes
	mass := e.Empty + load
	switch {
	case speed > 0:
		return max(0, speed+floor(along-against, mass))
	case speed < 0:
		return -max(0, -speed+floor(-along-against, mass))
	case along > against:
		return floor(along-against, mass)
	case -along > against:
		return -floor(-along-against, mass)
	}
	return 0
}

func fails(s api.Stop, number int) bool { return s.Fail>>number&1 == 1 }

// force returns the force of those brakes together of which grips says so.
func force(e api.Escalator, grips func(number int) bool) int {
	sum := 0
	for number := range len(e.Brakes) {
		if grips(number) {
			sum += e.Brakes[number].Force
		}
	}
	return sum
}

func grip(e api.Escalator, s api.Stop, tick int) int {
	return force(e, func(number int) bool { return !fails(s, number) && e.Brakes[number].Delay <= tick })
}

// extreme returns the load that makes the speed greater (most), or less, and this speed. Only the ends of the span are asked: as a function of the load the change of speed is a quotient of two linear functions whose divisor is above 0, so it goes one way only.
func extreme(e api.Escalator, s api.Stop, speed, tick int, most bool) (load, behind int) {
	brakes := grip(e, s, tick)
	low := next(e, speed, s.Loads.Low, brakes)
	high := next(e, speed, s.Loads.High, brakes)
	if most && high > low || !most && high < low {
		return s.Loads.High, high
	}
	return s.Loads.Low, low
}

// roll plays the history with the greatest (most), or the least way. A greater speed never makes the next speed less, so what is greatest (or least) in each tick is so over all ticks.
func roll(e api.Escalator, s api.Stop, most bool) ride {
	var r ride
	speed := s.Speed
	for tick := range api.MaxTicks {
		if speed == 0 {
			break
		}
		load, behind := extreme(e, s, speed, tick, most)
		r.loads = append(r.loads, load)
		r.way += behind
		speed = behind
	}
	r.rests = speed == 0
	return r
}

// runBack returns the greatest run back, and whether it ends: the least speed of each tick comes from the least one of the tick before it.
func runBack(e api.Escalator, s api.Stop) (way int, ends bool) {
	speed := s.Speed
	for tick := range api.MaxTicks {
		_, speed = extreme(e, s, speed, tick, false)
		way += max(0, -speed)
	}
	return way, speed >= 0
}

// holds asks only about the greatest load: none of the others pulls more.
func holds(e api.Escalator, s api.Stop) bool {
	brakes := force(e, func(number int) bool { return !fails(s, number) })
	return e.Pull*s.Loads.High <= e.Drag+brakes
}

func stopsWithin(e api.Escalator, s api.Stop, limit int) bool {
	r := roll(e, s, true)
	return r.rests && r.way <= limit
}

// safe reports whether the band stops within the way, does not run back farther than back, and holds.
func safe(e api.Escalator, s api.Stop, way, back int) bool {
	run, ends := runBack(e, s)
	return stopsWithin(e, s, way) && ends && run <= back && holds(e, s)
}
