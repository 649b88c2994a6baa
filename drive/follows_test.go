package drive_test

import (
	"math/rand"
	"testing"

	"newel/api"
	"newel/drive"
)

// played returns the way, the ticks until rest (-1: it does not come to rest), and the run back of a history.
func played(t *testing.T, e api.Escalator, s api.Stop, loads []int) (way, ticks, back int) {
	l, f := drive.Play(e, s, loads)
	if f != api.OK {
		t.Fatalf("Play(%+v, %+v, %v): %d", e, s, loads, f)
	}
	ticks = -1
	if s.Speed == 0 {
		ticks = 0
	}
	for i, v := range l {
		if ticks < 0 {
			way += v
		}
		if ticks < 0 && v == 0 {
			ticks = i + 1
		}
		if v < 0 {
			back -= v
		}
	}
	return way, ticks, back
}

// TestEachHistoryIsWithinBounds is P1.12, and of P1.13 that none runs back farther.
func TestEachHistoryIsWithinBounds(t *testing.T) {
	r := rand.New(rand.NewSource(11))
	for range 3000 {
		e, s := anyCase(r)
		if r.Intn(4) == 0 {
			s.Loads.High += r.Intn(99000)
		}
		loads := anyLoads(r, s, api.MaxTicks)
		way, ticks, back := played(t, e, s, loads)
		span, many, f := drive.Distance(e, s)
		if f == api.OK && (way < span.Low || way > span.High || ticks < many.Low || ticks > many.High) {
			t.Fatalf("%+v, %+v: the way %d in %d ticks with %v, Distance = %v, %v", e, s, way, ticks, loads, span, many)
		}
		if most, f := drive.Back(e, s); f == api.OK && back > most {
			t.Fatalf("%+v, %+v: it runs back %d with %v, Back = %d", e, s, back, loads, most)
		}
	}
}

// TestWitnessesHaveTheWays is of P1.12 that a witness has just the way of Distance.
func TestWitnessesHaveTheWays(t *testing.T) {
	r := rand.New(rand.NewSource(12))
	for range 1000 {
		e, s := anyCase(r)
		s.Loads.High += r.Intn(2000)
		span, many, f := drive.Distance(e, s)
		if f != api.OK {
			continue
		}
		for _, most := range []bool{false, true} {
			l, _ := drive.Witness(e, s, most)
			way, ticks, _ := played(t, e, s, l)
			if most && (way != span.High || ticks != many.High) || !most && (way != span.Low || ticks != many.Low) {
				t.Fatalf("Witness(%+v, %+v, %v) has the way %d in %d ticks, Distance = %v, %v", e, s, most, way, ticks, span, many)
			}
		}
	}
}

// TestWhatHoldsAtOnceDoesNotRunBack is the rest of P1.13.
func TestWhatHoldsAtOnceDoesNotRunBack(t *testing.T) {
	r := rand.New(rand.NewSource(13))
	held := 0
	for range 3000 {
		e, s := anyCase(r)
		for i := range e.Brakes {
			if s.Fail>>i&1 == 0 {
				e.Brakes[i].Delay = 0
			}
		}
		if is, _ := drive.Holds(e, s); !is {
			continue
		}
		held++
		if n, f := drive.Back(e, s); n != 0 || f != api.OK {
			t.Fatalf("Back(%+v, %+v) = %d, %d", e, s, n, f)
		}
		l, _ := drive.Play(e, s, anyLoads(r, s, api.MaxTicks))
		rests := s.Speed == 0
		for i, v := range l {
			rests = rests || v == 0
			if rests && v != 0 {
				t.Fatalf("%+v, %+v: it moves again in the tick %d: %v", e, s, i, l)
			}
		}
	}
	if held < 300 {
		t.Errorf("only %d of them hold", held)
	}
}

// improve changes one thing that makes a stop better.
func improve(r *rand.Rand, e *api.Escalator, s *api.Stop) {
	kind := r.Intn(6)
	if kind < 3 && len(e.Brakes) == 0 {
		kind += 3
	}
	switch kind {
	case 0:
		e.Brakes[r.Intn(len(e.Brakes))].Force += r.Intn(60)
	case 1:
		i := r.Intn(len(e.Brakes))
		e.Brakes[i].Delay = r.Intn(e.Brakes[i].Delay + 1)
	case 2:
		s.Fail &^= 1 << r.Intn(len(e.Brakes))
	case 3:
		s.Loads.Low += r.Intn(s.Loads.High - s.Loads.Low + 1)
	case 4:
		s.Loads.High -= r.Intn(s.Loads.High - s.Loads.Low + 1)
	case 5:
		s.Speed = r.Intn(s.Speed + 1)
	}
}

// TestBetterBrakes is P1.14: one that is long has a way beyond all others.
func TestBetterBrakes(t *testing.T) {
	r := rand.New(rand.NewSource(14))
	for range 20000 {
		e, s := anyCase(r)
		before, _, f := drive.Distance(e, s)
		now, stop := e, s
		now.Brakes = append([]api.Brake{}, e.Brakes...)
		improve(r, &now, &stop)
		behind, _, g := drive.Distance(now, stop)
		if f == api.OK && (g != api.OK || behind.High > before.High) {
			t.Fatalf("Distance(%+v, %+v) = %v, but (%+v, %+v) = %v, %d", e, s, before, now, stop, behind, g)
		}
	}
}

// TestFastestIsTheBound is P1.15.
func TestFastestIsTheBound(t *testing.T) {
	r := rand.New(rand.NewSource(15))
	for range 2000 {
		e, s := anyCase(r)
		s.Loads.High += r.Intn(1000)
		limit := r.Intn(2000)
		n, f := drive.Fastest(e, s, limit)
		if f != api.OK || n < 0 || n > api.MaxSpeed {
			t.Fatalf("Fastest(%+v, %+v, %d) = %d, %d", e, s, limit, n, f)
		}
		s.Speed = n
		if way, _, f := drive.Distance(e, s); f != api.OK || way.High > limit {
			t.Fatalf("Fastest(%+v, %+v, %d) = %d: the way %v, %d", e, s, limit, n, way, f)
		}
		s.Speed = n + 1
		if n == api.MaxSpeed {
			continue
		}
		if way, _, f := drive.Distance(e, s); f == api.OK && way.High <= limit {
			t.Fatalf("Fastest(%+v, %+v, %d) = %d: one more has the way %v", e, s, limit, n, way)
		}
	}
}

// TestNoSingleFault is P1.16.
func TestNoSingleFault(t *testing.T) {
	r := rand.New(rand.NewSource(16))
	checked := 0
	for range 5000 {
		e, s := anyCase(r)
		for i := range e.Brakes {
			e.Brakes[i].Force += 100
		}
		way, back := r.Intn(600), r.Intn(30)
		if l, f := drive.Critical(e, s, way, back); len(l) > 0 || f != api.OK {
			continue
		}
		for i := range e.Brakes {
			if s.Fail>>i&1 == 1 {
				continue
			}
			checked++
			fault := s
			fault.Fail |= 1 << i
			span, _, f := drive.Distance(e, fault)
			run, g := drive.Back(e, fault)
			is, h := drive.Holds(e, fault)
			if f != api.OK || g != api.OK || h != api.OK || span.High > way || run > back || !is {
				t.Fatalf("%+v, %+v, %d, %d: without the brake %d the way %v, %d, back %d, %d, holds %v", e, s, way, back, i, span, f, run, g, is)
			}
		}
	}
	if checked < 300 {
		t.Errorf("only %d faults checked", checked)
	}
}

// TestGreaterSpeedsAndForces is P1.17.
func TestGreaterSpeedsAndForces(t *testing.T) {
	r := rand.New(rand.NewSource(17))
	for range 300 {
		e, _ := anyCase(r)
		load := r.Intn(60)
		for range 10 {
			force := r.Intn(300)
			last := -1000
			for speed := -60; speed <= 60; speed++ {
				n, _ := drive.Step(e, speed, load, force)
				if n < last {
					t.Fatalf("Step(%+v, %d, %d, %d) = %d, and from one less %d", e, speed, load, force, n, last)
				}
				last = n
				more, _ := drive.Step(e, speed, load, force+1+r.Intn(50))
				if max(more, -more) > max(n, -n) || more*n < 0 {
					t.Fatalf("Step(%+v, %d, %d, %d) = %d, and with more force %d", e, speed, load, force, n, more)
				}
			}
		}
	}
}
