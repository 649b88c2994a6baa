package lift

import (
	"slices"

	"newel/api"
)

// What a door does.
const (
	opens = iota
	waits
	closes
	closed
)

// movingDoor is a door as it moves: how far it is open, and how many ticks it still waits.
type movingDoor struct {
	api.Door
	doing, open, left int
}

// play returns how far a door is open behind each tick, until it is closed.
func play(d api.Door, breaks []int) []int {
	var widths []int
	m := movingDoor{Door: d}
	for tick := 0; m.doing != closed; tick++ {
		_, broken := slices.BinarySearch(breaks, tick)
		if broken {
			m.disturb()
		}
		m.move()
		widths = append(widths, m.open)
	}
	return widths
}

// disturb lets a door that waits or closes open again, as far as it is not open.
func (m *movingDoor) disturb() {
	m.doing = opens
	if m.open == m.Wide {
		m.wait()
	}
}

// wait lets a door wait from the beginning, if it waits at all.
func (m *movingDoor) wait() {
	m.doing, m.left = waits, m.Wait
	if m.Wait == 0 {
		m.doing = closes
	}
}

func (m *movingDoor) move() {
	switch m.doing {
	case opens:
		m.open++
		if m.open == m.Wide {
			m.wait()
		}
	case waits:
		m.left--
		if m.left == 0 {
			m.doing = closes
		}
	case closes:
		m.open--
		if m.open == 0 {
			m.doing = closed
		}
	}
}

// dwell returns how long a door can be kept open. A break delays it the most when it is open by 1 only and closes: it opens wide, waits
// and comes back; before that, more of this lies still ahead of it. So it does with each break anew.
func dwell(d api.Door, n int) int {
	return 2*d.Wide + d.Wait + n*(2*(d.Wide-1)+d.Wait)
}
