package calls

import "newel/api"

// onWay is a car on its way.
type onWay struct {
	api.Car
	api.Ride
}

func begin(c api.Car) onWay {
	return onWay{c, api.Ride{Floor: c.Start, Up: true}}
}

// run lets the car run for a tick in which these floors are pressed.
func (w *onWay) run(pressed ...int) {
	w.goOn()
	for _, floor := range pressed {
		if w.Doing != api.Stands || floor != w.Floor {
			w.Wants |= 1 << floor
		}
	}
	if w.Doing == api.Rests && w.Wants != 0 {
		w.choose()
	}
}

// goOn goes on with what the car does.
func (w *onWay) goOn() {
	if w.Doing == api.Rests {
		return
	}
	w.Left--
	if w.Left > 0 {
		return
	}
	if w.Doing == api.Moves {
		w.Floor = next(w.Ride)
		w.Stood = false
	}
	w.Doing = api.Rests
}

// choose lets a car that rests, and is wanted, stand or move.
func (w *onWay) choose() {
	others := w.Wants &^ (1 << w.Floor)
	if wants(w.Ride, w.Floor) && (!w.Stood || others == 0) {
		w.Doing, w.Left = api.Stands, w.Stop
		w.Stood, w.Wants = true, others
		return
	}
	if !wantsAhead(w.Ride) {
		w.Up = !w.Up
	}
	w.Doing, w.Left = api.Moves, w.Move
}

func wants(r api.Ride, floor int) bool { return r.Wants>>floor&1 == 1 }

// wantsAhead reports whether a floor is wanted in the car's direction.
func wantsAhead(r api.Ride) bool {
	if r.Up {
		return r.Wants>>(r.Floor+1) != 0
	}
	return r.Wants&(1<<r.Floor-1) != 0
}

// next returns the next floor in the car's direction.
func next(r api.Ride) int {
	if r.Up {
		return r.Floor + 1
	}
	return r.Floor - 1
}

// play returns how a car stands at the end of each of so many ticks.
func play(c api.Car, l []api.Press, ticks int) []api.Ride {
	rides := make([]api.Ride, ticks)
	w := begin(c)
	for tick := range rides {
		now := pressedAt(l, tick)
		w.run(floors(now)...)
		rides[tick] = w.Ride
		l = l[len(now):]
	}
	return rides
}

// waits returns the wait of each press. Where the car stands at the end of a tick nobody waits any more, whether it came to stand in this
// tick, or stood before.
func waits(c api.Car, l []api.Press) []int {
	list := make([]int, len(l))
	waiting := map[int][]int{} // the numbers of the presses at each floor
	w := begin(c)
	for tick, first := 0, 0; first < len(l) || len(waiting) > 0; tick++ {
		now := pressedAt(l[first:], tick)
		for number, p := range now {
			waiting[p.Floor] = append(waiting[p.Floor], first+number)
		}
		first += len(now)
		w.run(floors(now)...)
		if w.Doing != api.Stands {
			continue
		}
		for _, number := range waiting[w.Floor] {
			list[number] = tick - l[number].At
		}
		delete(waiting, w.Floor)
	}
	return list
}

// pressedAt returns the presses of a tick; none of an earlier one is left in the list.
func pressedAt(l []api.Press, tick int) []api.Press {
	many := 0
	for many < len(l) && l[many].At == tick {
		many++
	}
	return l[:many]
}

func floors(l []api.Press) []int {
	var list []int
	for _, p := range l {
		list = append(list, p.Floor)
	}
	return list
}
