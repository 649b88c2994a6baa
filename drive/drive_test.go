package drive_test

import (
	"math"
	"math/rand"
	"slices"
	"testing"

	"newel/api"
	"newel/drive"
)

// up and down are the escalators U and D of the chapter's examples.
func up() api.Escalator {
	return api.Escalator{Up: true, Empty: 1000, Pull: 20, Drag: 2000, Motor: 20000, Brakes: []api.Brake{{Force: 12000, Delay: 1}, {Force: 16000, Delay: 3}}}
}

func down() api.Escalator {
	e := up()
	e.Up = false
	return e
}

func from(speed int) api.Stop { return api.Stop{Speed: speed, Loads: api.Span{High: 500}} }

func failing(s api.Stop, brakes int) api.Stop {
	s.Fail = brakes
	return s
}

func TestCheck(t *testing.T) {
	brakes := func(n int) []api.Brake { return make([]api.Brake, n) }
	one := func(force, delay int) []api.Brake {
		return []api.Brake{{Force: 1, Delay: 1}, {Force: force, Delay: delay}}
	}
	for i, x := range []struct {
		e    api.Escalator
		want api.Errno
	}{
		{api.Escalator{}, api.ErrDrive},
		{api.Escalator{Empty: 1}, api.OK},
		{api.Escalator{Empty: -1}, api.ErrDrive},
		{api.Escalator{Empty: 100000}, api.OK},
		{api.Escalator{Empty: 100001}, api.ErrDrive},
		{api.Escalator{Empty: 1, Pull: 100}, api.OK},
		{api.Escalator{Empty: 1, Pull: 101}, api.ErrDrive},
		{api.Escalator{Empty: 1, Pull: -1}, api.ErrDrive},
		{api.Escalator{Empty: 1, Drag: 10000000}, api.OK},
		{api.Escalator{Empty: 1, Drag: 10000001}, api.ErrDrive},
		{api.Escalator{Empty: 1, Drag: -1}, api.ErrDrive},
		{api.Escalator{Empty: 1, Motor: 10000000}, api.OK},
		{api.Escalator{Empty: 1, Motor: 10000001}, api.ErrDrive},
		{api.Escalator{Empty: 1, Motor: -1}, api.ErrDrive},
		{api.Escalator{Empty: 1, Brakes: brakes(0)}, api.OK},
		{api.Escalator{Empty: 1, Brakes: brakes(3)}, api.OK},
		{api.Escalator{Empty: 1, Brakes: brakes(4)}, api.ErrDrive},
		{api.Escalator{Empty: 1, Brakes: one(10000000, 20)}, api.OK},
		{api.Escalator{Empty: 1, Brakes: one(10000001, 0)}, api.ErrDrive},
		{api.Escalator{Empty: 1, Brakes: one(-1, 0)}, api.ErrDrive},
		{api.Escalator{Empty: 1, Brakes: one(0, 21)}, api.ErrDrive},
		{api.Escalator{Empty: 1, Brakes: one(0, -1)}, api.ErrDrive},
	} {
		for range 2 {
			if f := drive.Check(x.e); f != x.want {
				t.Errorf("%d: Check(%+v) = %d, want %d", i, x.e, f, x.want)
			}
			x.e.Up = true
		}
	}
}

func TestStep(t *testing.T) {
	steep := api.Escalator{Empty: 3, Pull: 100}
	for _, x := range []struct {
		e                        api.Escalator
		speed, load, force, want int
	}{
		{up(), 60, 500, 0, 52},
		{up(), 60, 500, 12000, 44},
		{down(), 60, 500, 0, 65},
		{down(), 60, 500, 12000, 57},
		{up(), 0, 500, 0, -5},
		{up(), -5, 500, 12000, -2},
		{up(), -2, 500, 12000, 0},
		{up(), 0, 100, 0, 0},   // -G equals F: it stays
		{down(), 0, 100, 0, 0}, // G equals F
		{down(), 0, 101, 0, 0}, // G is above F, but by less than M
		{up(), 0, 101, 0, 0},   // the same back
		{down(), 0, 0, 30000000, 0},
		{up(), 60, 0, 1, 57},     // -2001 / 1000 is -3
		{up(), 60, 0, 0, 58},     // -2000 / 1000 is -2
		{down(), -60, 0, 1, -57}, // and the same against the direction
		{up(), -60, 0, 0, -58},
		{up(), 2, 0, 0, 0},
		{up(), 1, 0, 30000000, 0}, // never beyond 0
		{up(), -1, 0, 30000000, 0},
		{down(), -5, 500, 0, 0}, // what runs back against the load comes to 0, not beyond
		{steep, 10000000, 100000, 0, 10000099},
		{steep, -10000000, 100000, 0, -9999900},
		{steep, 0, 100000, 0, 99},
	} {
		if n, f := drive.Step(x.e, x.speed, x.load, x.force); n != x.want || f != api.OK {
			t.Errorf("Step(up %v, %d, %d, %d) = %d, %d, want %d", x.e.Up, x.speed, x.load, x.force, n, f, x.want)
		}
	}
}

func TestStepErrors(t *testing.T) {
	for _, x := range []struct {
		speed, load, force int
		want               api.Errno
	}{
		{10000000, 0, 0, api.OK}, {10000001, 0, 0, api.ErrArg}, {-10000000, 0, 0, api.OK}, {-10000001, 0, 0, api.ErrArg},
		{0, 100000, 0, api.OK}, {0, 100001, 0, api.ErrArg}, {0, -1, 0, api.ErrArg},
		{0, 0, 30000000, api.OK}, {0, 0, 30000001, api.ErrArg}, {0, 0, -1, api.ErrArg},
	} {
		n, f := drive.Step(up(), x.speed, x.load, x.force)
		if f != x.want || f != api.OK && n != 0 {
			t.Errorf("Step(%d, %d, %d) = %d, %d, want %d", x.speed, x.load, x.force, n, f, x.want)
		}
	}
	if n, f := drive.Step(api.Escalator{}, 0, -1, 0); n != 0 || f != api.ErrDrive {
		t.Errorf("Step of no escalator = %d, %d", n, f)
	}
}

func TestStepIsAsTheTextSays(t *testing.T) {
	r := rand.New(rand.NewSource(1))
	for range 20000 {
		e, _ := anyCase(r)
		speed, load, force := r.Intn(81)-40, r.Intn(60), r.Intn(300)
		if n, f := drive.Step(e, speed, load, force); f != api.OK || n != refStep(e, speed, load, force) {
			t.Fatalf("Step(%+v, %d, %d, %d) = %d, %d, want %d", e, speed, load, force, n, f, refStep(e, speed, load, force))
		}
	}
}

func TestPlay(t *testing.T) {
	for _, x := range []struct {
		e           api.Escalator
		s           api.Stop
		loads, want []int
	}{
		{up(), from(60), nil, nil},
		{up(), from(60), []int{}, nil},
		{up(), from(60), []int{0, 0, 0, 500, 0}, []int{58, 44, 30, 3, 0}},
		{up(), from(60), []int{500, 500, 500, 0}, []int{52, 36, 20, 0}},
		{up(), from(0), []int{500, 500, 500, 500}, []int{-5, -2, 0, 0}},
		{up(), failing(from(10), 3), []int{500, 500, 500, 0, 500}, []int{2, 0, -5, -3, -8}},
		{up(), failing(from(60), 1), []int{0, 0, 0, 0}, []int{58, 56, 54, 36}},
		{up(), failing(from(60), 2), []int{0, 0, 0, 0}, []int{58, 44, 30, 16}},
		{down(), from(0), []int{500, 500, 500}, []int{5, 2, 0}},
	} {
		if l, f := drive.Play(x.e, x.s, x.loads); f != api.OK || !slices.Equal(l, x.want) {
			t.Errorf("Play(%+v, %v) = %v, %d, want %v", x.s, x.loads, l, f, x.want)
		}
	}
	s := from(60)
	s.Loads.Low = 100
	for i, x := range []struct {
		loads []int
		want  api.Errno
	}{{[]int{100, 500}, api.OK}, {[]int{100, 99}, api.ErrArg}, {[]int{501}, api.ErrArg}, {slices.Repeat([]int{100}, 100), api.OK}, {slices.Repeat([]int{100}, 101), api.ErrArg}} {
		l, f := drive.Play(up(), s, x.loads)
		if f != x.want || f == api.OK && len(l) != len(x.loads) || f != api.OK && len(l) > 0 {
			t.Errorf("%d: Play = %v, %d", i, l, f)
		}
	}
}

func TestPlayKeepsItsArguments(t *testing.T) {
	e, loads := up(), []int{0, 0, 0, 500, 0}
	l, _ := drive.Play(e, from(60), loads)
	again, _ := drive.Play(e, from(60), loads)
	for i := range l {
		l[i] = -1
	}
	if !slices.Equal(loads, []int{0, 0, 0, 500, 0}) || !slices.Equal(e.Brakes, up().Brakes) || !slices.Equal(again, []int{58, 44, 30, 3, 0}) {
		t.Errorf("Play changed its arguments: %v, %v, %v", loads, e.Brakes, again)
	}
}

func TestPlayIsAsTheTextSays(t *testing.T) {
	r := rand.New(rand.NewSource(2))
	for range 500 {
		e, s := anyCase(r)
		loads := anyLoads(r, s, r.Intn(101))
		want := make([]int, len(loads))
		speed := s.Speed
		for i, load := range loads {
			speed = refStep(e, speed, load, refBrakes(e, s, i))
			want[i] = speed
		}
		if l, f := drive.Play(e, s, loads); f != api.OK || !slices.Equal(l, want) {
			t.Fatalf("Play(%+v, %+v, %v) = %v, %d, want %v", e, s, loads, l, f, want)
		}
	}
}

func TestDistance(t *testing.T) {
	alone := from(60)
	alone.Loads.Low = 500
	for _, x := range []struct {
		e          api.Escalator
		s          api.Stop
		way, ticks api.Span
		want       api.Errno
	}{
		{up(), from(60), api.Span{Low: 108, High: 135}, api.Span{Low: 4, High: 5}, api.OK},
		{down(), from(60), api.Span{Low: 132, High: 282}, api.Span{Low: 4, High: 8}, api.OK},
		{up(), alone, api.Span{Low: 108, High: 108}, api.Span{Low: 4, High: 4}, api.OK},
		{up(), from(0), api.Span{}, api.Span{}, api.OK},
		{down(), failing(from(0), 3), api.Span{}, api.Span{}, api.OK},
		{down(), failing(from(60), 3), api.Span{}, api.Span{}, api.ErrLong},
		{down(), failing(from(1), 3), api.Span{}, api.Span{}, api.ErrLong},
		{api.Escalator{Empty: 1, Drag: 1}, api.Stop{Speed: 100}, api.Span{Low: 4950, High: 4950}, api.Span{Low: 100, High: 100}, api.OK},
		{api.Escalator{Empty: 1, Drag: 1}, api.Stop{Speed: 101}, api.Span{}, api.Span{}, api.ErrLong},
		{api.Escalator{Empty: 1}, api.Stop{Speed: 1000}, api.Span{}, api.Span{}, api.ErrLong},
		{api.Escalator{Empty: 1, Drag: 1000}, api.Stop{Speed: 1000}, api.Span{}, api.Span{Low: 1, High: 1}, api.OK},
	} {
		way, ticks, f := drive.Distance(x.e, x.s)
		if way != x.way || ticks != x.ticks || f != x.want {
			t.Errorf("Distance(%+v, %+v) = %v, %v, %d, want %v, %v, %d", x.e, x.s, way, ticks, f, x.way, x.ticks, x.want)
		}
	}
}

func TestDistanceIsThatOfAllHistories(t *testing.T) {
	r := rand.New(rand.NewSource(3))
	long := 0
	for range 1500 {
		e, s := anyCase(r)
		b := refDistance(e, s)
		way, ticks, f := drive.Distance(e, s)
		if way != b.way || ticks != b.ticks || (f == api.ErrLong) != b.long || f != api.OK && f != api.ErrLong {
			t.Fatalf("Distance(%+v, %+v) = %v, %v, %d, want %+v", e, s, way, ticks, f, b)
		}
		if b.long {
			long++
		}
	}
	if long < 100 || long > 1400 {
		t.Errorf("%d of 1500 stops are long", long)
	}
}

func TestWitness(t *testing.T) {
	level := api.Escalator{Empty: 1, Drag: 1000}
	for _, x := range []struct {
		e    api.Escalator
		s    api.Stop
		most bool
		want []int
	}{
		{up(), from(60), true, []int{0, 0, 0, 500, 0}},
		{up(), from(60), false, []int{500, 500, 500, 0}},
		{up(), from(0), true, nil},
		{up(), from(0), false, nil},
		{level, api.Stop{Speed: 1, Loads: api.Span{Low: 2, High: 7}}, true, []int{2}},  // both make 0: the lower one
		{level, api.Stop{Speed: 1, Loads: api.Span{Low: 2, High: 7}}, false, []int{2}}, // and here
	} {
		if l, f := drive.Witness(x.e, x.s, x.most); f != api.OK || !slices.Equal(l, x.want) {
			t.Errorf("Witness(%+v, %v) = %v, %d, want %v", x.s, x.most, l, f, x.want)
		}
	}
	// With the least load this one stops, with the greatest it does not: there is no witness of the least way either.
	for _, most := range []bool{true, false} {
		if l, f := drive.Witness(down(), failing(from(60), 3), most); len(l) > 0 || f != api.ErrLong {
			t.Errorf("Witness(%v) of a long stop = %v, %d", most, l, f)
		}
	}
}

// better says which of two loads a witness takes in a tick.
func better(s api.Stop, low, high int, most bool) int {
	if most && high > low || !most && high < low {
		return s.Loads.High
	}
	return s.Loads.Low
}

func TestWitnessHasTheWaysOfDistance(t *testing.T) {
	r := rand.New(rand.NewSource(4))
	for range 2000 {
		e, s := anyCase(r)
		span, ticks, f := drive.Distance(e, s)
		for _, most := range []bool{true, false} {
			l, g := drive.Witness(e, s, most)
			if f != g {
				t.Fatalf("Witness(%+v, %+v, %v): %d, but Distance: %d", e, s, most, g, f)
			}
			if f != api.OK {
				continue
			}
			speed, sum := s.Speed, 0
			for i, load := range l {
				low, high := refStep(e, speed, s.Loads.Low, refBrakes(e, s, i)), refStep(e, speed, s.Loads.High, refBrakes(e, s, i))
				if want := better(s, low, high, most); load != want || speed == 0 {
					t.Fatalf("Witness(%+v, %+v, %v) = %v: %d in the tick %d at %d", e, s, most, l, load, i, speed)
				}
				speed = refStep(e, speed, load, refBrakes(e, s, i))
				sum += speed
			}
			way, many := span.Low, ticks.Low
			if most {
				way, many = span.High, ticks.High
			}
			if speed != 0 || sum != way || len(l) != many {
				t.Fatalf("Witness(%+v, %+v, %v) = %v: the way %d, want %d", e, s, most, l, sum, way)
			}
		}
	}
}

func TestBack(t *testing.T) {
	slow := api.Escalator{Up: true, Empty: 1, Pull: 2, Brakes: []api.Brake{{Force: 2, Delay: 20}}}
	for _, x := range []struct {
		e    api.Escalator
		s    api.Stop
		n    int
		want api.Errno
	}{
		{up(), from(60), 0, api.OK},
		{up(), from(0), 7, api.OK},
		{down(), from(0), 0, api.OK},
		{down(), failing(from(60), 3), 0, api.OK}, // it does not stop, but it does not run back
		{up(), failing(from(60), 3), 0, api.ErrLong},
		{up(), failing(from(0), 3), 0, api.ErrLong},
		{slow, api.Stop{Loads: api.Span{Low: 1, High: 1}}, 0, api.ErrLong},
		{slow, api.Stop{Loads: api.Span{Low: 0, High: 3}}, 0, api.ErrLong},
		{slow, api.Stop{}, 0, api.OK},
	} {
		if n, f := drive.Back(x.e, x.s); n != x.n || f != x.want {
			t.Errorf("Back(%+v, %+v) = %d, %d, want %d, %d", x.e, x.s, n, f, x.n, x.want)
		}
	}
}

// TestBackCountsAllTicks: a band that comes to rest and then runs back counts, too.
func TestBackCountsAllTicks(t *testing.T) {
	e := api.Escalator{Up: true, Empty: 1, Pull: 20, Brakes: []api.Brake{{Force: 1000, Delay: 4}}}
	s := api.Stop{Speed: 20, Loads: api.Span{Low: 1, High: 1}}
	if l, _ := drive.Play(e, s, []int{1, 1, 1, 1, 1}); !slices.Equal(l, []int{10, 0, -10, -20, 0}) {
		t.Errorf("Play = %v", l)
	}
	if n, f := drive.Back(e, s); n != 30 || f != api.OK {
		t.Errorf("Back = %d, %d", n, f)
	}
}

// TestBackBehindTheLastTick: the first band comes to rest in the last tick, the second one would in one more.
func TestBackBehindTheLastTick(t *testing.T) {
	e := api.Escalator{Up: true, Empty: 1, Pull: 10, Brakes: []api.Brake{{Force: 4, Delay: 16}, {Force: 7, Delay: 17}}}
	s := api.Stop{Loads: api.Span{Low: 1, High: 1}}
	if n, f := drive.Back(e, s); n != 680+83+3403 || f != api.OK {
		t.Errorf("Back = %d, %d", n, f)
	}
	e.Brakes = []api.Brake{{Force: 2, Delay: 16}, {Force: 9, Delay: 17}}
	if n, f := drive.Back(e, s); n != 0 || f != api.ErrLong {
		t.Errorf("Back = %d, %d", n, f)
	}
}

func TestBackIsThatOfAllHistories(t *testing.T) {
	r := rand.New(rand.NewSource(5))
	long, some := 0, 0
	for range 1500 {
		e, s := anyCase(r)
		e.Up = e.Up || r.Intn(3) > 0
		want, is := refBack(e, s)
		n, f := drive.Back(e, s)
		if n != want || (f == api.ErrLong) != is || f != api.OK && f != api.ErrLong {
			t.Fatalf("Back(%+v, %+v) = %d, %d, want %d, %v", e, s, n, f, want, is)
		}
		if is {
			long++
		}
		if want > 0 {
			some++
		}
	}
	if long < 50 || some < 50 {
		t.Errorf("%d stops are long, %d run back", long, some)
	}
}

func TestHolds(t *testing.T) {
	for fail, want := range []bool{true, true, true, false} {
		if is, f := drive.Holds(up(), failing(from(60), fail)); is != want || f != api.OK {
			t.Errorf("Holds without the brakes %d = %v, %d", fail, is, f)
		}
	}
	late := api.Escalator{Empty: 1, Pull: 2, Drag: 3, Brakes: []api.Brake{{Force: 7, Delay: 20}}}
	for high, want := range map[int]bool{5: true, 6: false} {
		for _, loads := range []api.Span{{High: high}, {Low: high, High: high}} {
			if is, f := drive.Holds(late, api.Stop{Loads: loads}); is != want || f != api.OK {
				t.Errorf("Holds with loads %v = %v, %d", loads, is, f)
			}
		}
	}
	r := rand.New(rand.NewSource(6))
	for range 2000 {
		e, s := anyCase(r)
		if is, f := drive.Holds(e, s); is != refHolds(e, s) || f != api.OK {
			t.Fatalf("Holds(%+v, %+v) = %v, %d", e, s, is, f)
		}
	}
}

func TestFastest(t *testing.T) {
	for _, x := range []struct {
		e        api.Escalator
		s        api.Stop
		limit, n int
		want     api.Errno
	}{
		{down(), from(60), 200, 46, api.OK},
		{down(), from(0), 200, 46, api.OK},
		{down(), from(60), 195, 46, api.OK},
		{down(), from(60), 194, 45, api.OK},
		{down(), from(60), 0, 0, api.OK},
		{down(), failing(from(60), 3), 10000000, 0, api.OK},
		{api.Escalator{Empty: 1, Drag: 1000}, api.Stop{}, 0, 1000, api.OK},
		{api.Escalator{Empty: 1, Drag: 999}, api.Stop{}, 0, 999, api.OK},
		{api.Escalator{Empty: 1, Drag: 999}, api.Stop{}, 1, 1000, api.OK},
		{api.Escalator{Empty: 1, Drag: 1}, api.Stop{}, 10000000, 100, api.OK},
		{down(), from(60), -1, 0, api.ErrArg},
		{down(), from(60), 10000001, 0, api.ErrArg},
		{down(), from(1001), -1, 0, api.ErrStop},
	} {
		if n, f := drive.Fastest(x.e, x.s, x.limit); n != x.n || f != x.want {
			t.Errorf("Fastest(%+v, %d) = %d, %d, want %d, %d", x.s, x.limit, n, f, x.n, x.want)
		}
	}
}

func TestFastestIsTheGreatest(t *testing.T) {
	r := rand.New(rand.NewSource(7))
	for range 200 {
		e, s := anyCase(r)
		limit := r.Intn(300)
		n, f := drive.Fastest(e, s, limit)
		if f != api.OK {
			t.Fatalf("Fastest(%+v, %+v, %d): %d", e, s, limit, f)
		}
		s.Speed = n
		if !refStops(e, s, limit) {
			t.Fatalf("Fastest(%+v, %+v, %d) = %d", e, s, limit, n)
		}
		for s.Speed < min(n+20, 1000) {
			s.Speed++
			if refStops(e, s, limit) {
				t.Fatalf("Fastest(%+v, %+v, %d) = %d, but from %d it stops, too", e, s, limit, n, s.Speed)
			}
		}
	}
}

func TestLegal(t *testing.T) {
	weak := api.Escalator{Empty: 1, Pull: 1, Drag: 9}
	ten := api.Stop{Speed: 1, Loads: api.Span{Low: 10, High: 10}}
	for _, x := range []struct {
		e         api.Escalator
		s         api.Stop
		low, high int
		reason    int
	}{
		{down(), from(60), 100, 282, 0},
		{down(), from(60), 132, 282, 0},
		{down(), from(60), 132, 281, 2},
		{down(), from(60), 133, 282, 3},
		{down(), from(60), 100, 200, 2},
		{down(), from(60), 140, 300, 3},
		{down(), from(60), 140, 200, 2},
		{up(), failing(from(60), 3), 0, 1000, 4},
		{up(), failing(from(60), 3), 1000, 1000, 3},
		{up(), failing(from(60), 3), 0, 0, 2},
		{down(), failing(from(60), 3), 0, 10000000, 1},
		{down(), failing(from(60), 3), 0, 0, 1},
		{weak, api.Stop{}, 0, 0, 0},
		{weak, ten, 0, 0, 1},
	} {
		n, is, f := drive.Legal(x.e, x.s, api.Span{Low: x.low, High: x.high})
		if n != x.reason || is != (x.reason == 0) || f != api.OK {
			t.Errorf("Legal(%+v, %d to %d) = %d, %v, %d, want %d", x.s, x.low, x.high, n, is, f, x.reason)
		}
	}
	for i, limits := range []api.Span{{Low: -1, High: 1}, {Low: 2, High: 1}, {High: 10000001}, {Low: -2, High: -1}} {
		if n, is, f := drive.Legal(up(), from(60), limits); n != 0 || is || f != api.ErrArg {
			t.Errorf("%d: Legal = %d, %v, %d", i, n, is, f)
		}
	}
	if n, is, f := drive.Legal(up(), from(60), api.Span{Low: 10000000, High: 10000000}); n != 3 || is || f != api.OK {
		t.Errorf("Legal = %d, %v, %d", n, is, f)
	}
}

func TestLegalIsAsTheTextSays(t *testing.T) {
	r := rand.New(rand.NewSource(8))
	var seen [5]int
	for range 1500 {
		e, s := anyCase(r)
		limits := api.Span{Low: r.Intn(20)}
		limits.High = limits.Low + r.Intn(400)
		b, want := refDistance(e, s), 0
		switch {
		case b.long:
			want = 1
		case b.way.High > limits.High:
			want = 2
		case b.way.Low < limits.Low:
			want = 3
		case !refHolds(e, s):
			want = 4
		}
		seen[want]++
		if n, is, f := drive.Legal(e, s, limits); n != want || is != (want == 0) || f != api.OK {
			t.Fatalf("Legal(%+v, %+v, %v) = %d, %v, %d, want %d", e, s, limits, n, is, f, want)
		}
	}
	if slices.Min(seen[:]) < 20 {
		t.Errorf("reasons seen: %v", seen)
	}
}

func TestCritical(t *testing.T) {
	none := api.Escalator{Empty: 1, Drag: 1}
	for _, x := range []struct {
		e         api.Escalator
		s         api.Stop
		way, back int
		brakes    []int
	}{
		{down(), from(60), 400, 0, []int{0, 1}},
		{down(), from(60), 642, 0, []int{1}},
		{down(), from(60), 641, 0, []int{0, 1}},
		{down(), from(60), 700, 0, []int{1}},
		{down(), from(60), 736, 0, []int{1}},
		{down(), from(60), 737, 0, nil},
		{down(), failing(from(60), 1), 10000000, 10000000, []int{1}},
		{down(), failing(from(60), 3), 0, 0, nil},
		{none, api.Stop{Speed: 1000}, 0, 0, nil},
		{up(), from(0), 0, 6, []int{0, 1}}, // without the brake 1 it runs back 5, 2
		{up(), from(0), 0, 7, []int{0}},
		{up(), from(0), 0, 41, []int{0}}, // without the brake 0: 5, 10, 15, 9, 3
		{up(), from(0), 0, 42, nil},
		{up(), failing(from(0), 1), 0, 10000000, []int{1}},
	} {
		if l, f := drive.Critical(x.e, x.s, x.way, x.back); f != api.OK || !slices.Equal(l, x.brakes) {
			t.Errorf("Critical(%+v, %d, %d) = %v, %d, want %v", x.s, x.way, x.back, l, f, x.brakes)
		}
	}
	for _, x := range [][2]int{{-1, 0}, {0, -1}, {10000001, 0}, {0, 10000001}} {
		if l, f := drive.Critical(up(), from(60), x[0], x[1]); len(l) > 0 || f != api.ErrArg {
			t.Errorf("Critical(%v) = %v, %d", x, l, f)
		}
	}
}

func TestCriticalIsAsTheTextSays(t *testing.T) {
	r := rand.New(rand.NewSource(9))
	none := 0
	for range 700 {
		e, s := anyCase(r)
		way, back := r.Intn(800), r.Intn(60)
		want := refCritical(e, s, way, back)
		if l, f := drive.Critical(e, s, way, back); f != api.OK || !slices.Equal(l, want) {
			t.Fatalf("Critical(%+v, %+v, %d, %d) = %v, %d, want %v", e, s, way, back, l, f, want)
		}
		if len(want) == 0 {
			none++
		}
	}
	if none < 50 || none > 650 {
		t.Errorf("%d of 700 have none", none)
	}
}

func TestCapacity(t *testing.T) {
	for _, x := range []struct {
		up                bool
		pull, drag, motor int
		n                 int
		want              api.Errno
	}{
		{true, 20, 2000, 20000, 900, api.OK},
		{true, 20, 2000, 20019, 900, api.OK},
		{true, 20, 2000, 20020, 901, api.OK},
		{false, 20, 2000, 20000, 1100, api.OK},
		{false, 20, 2000, 19999, 1099, api.OK},
		{true, 20, 2000, 2000, 0, api.OK},
		{true, 20, 2000, 1999, 0, api.ErrArg},
		{true, 0, 2000, 2000, 100000, api.OK},
		{true, 0, 2000, 1999, 0, api.ErrArg},
		{false, 0, 0, 0, 100000, api.OK},
		{false, 1, 0, 0, 0, api.OK},
		{false, 1, 2000, 0, 2000, api.OK},
		{true, 100, 0, 10000000, 100000, api.OK},
		{true, 100, 0, 9999999, 99999, api.OK},
		{true, 1, 0, 10000000, 100000, api.OK},
	} {
		e := api.Escalator{Up: x.up, Empty: 1, Pull: x.pull, Drag: x.drag, Motor: x.motor}
		if n, f := drive.Capacity(e); n != x.n || f != x.want {
			t.Errorf("Capacity(%+v) = %d, %d, want %d, %d", e, n, f, x.n, x.want)
		}
	}
	if n, f := drive.Capacity(api.Escalator{}); n != 0 || f != api.ErrDrive {
		t.Errorf("Capacity of no escalator = %d, %d", n, f)
	}
}

func TestRefusals(t *testing.T) {
	bad, stop := api.Escalator{}, api.Stop{Fail: 4}
	for _, x := range []struct {
		e    api.Escalator
		s    api.Stop
		want api.Errno
	}{
		{bad, stop, api.ErrDrive}, // the escalator before the stop, and the stop before the other arguments
		{up(), stop, api.ErrStop},
		{up(), api.Stop{Fail: -1}, api.ErrStop},
		{api.Escalator{Empty: 1}, api.Stop{Fail: 1}, api.ErrStop},
		{up(), api.Stop{Speed: -1}, api.ErrStop},
		{up(), api.Stop{Speed: 1001}, api.ErrStop},
		{up(), api.Stop{Loads: api.Span{Low: -1}}, api.ErrStop},
		{up(), api.Stop{Loads: api.Span{Low: 2, High: 1}}, api.ErrStop},
		{up(), api.Stop{Loads: api.Span{High: 100001}}, api.ErrStop},
		{up(), api.Stop{Loads: api.Span{Low: -2, High: -1}}, api.ErrStop},
	} {
		for name, f := range errorsOf(x.e, x.s) {
			if f != x.want {
				t.Errorf("%s(%+v): %d, want %d", name, x.s, f, x.want)
			}
		}
	}
	widest := api.Stop{Speed: 1000, Fail: 3, Loads: api.Span{Low: 100000, High: 100000}}
	if is, f := drive.Holds(up(), widest); is || f != api.OK {
		t.Errorf("Holds = %v, %d", is, f)
	}
}

// errorsOf gives each function with a stop other arguments that are wrong, too; a result beside an error counts as an error of its own.
func errorsOf(e api.Escalator, s api.Stop) map[string]api.Errno {
	out := map[string]api.Errno{}
	put := func(name string, f api.Errno, zero bool) {
		if f != api.OK && !zero {
			f = -1
		}
		out[name] = f
	}
	l, f := drive.Play(e, s, []int{-1})
	put("Play", f, len(l) == 0)
	way, ticks, f := drive.Distance(e, s)
	put("Distance", f, way == api.Span{} && ticks == api.Span{})
	l, f = drive.Witness(e, s, true)
	put("Witness", f, len(l) == 0)
	n, f := drive.Back(e, s)
	put("Back", f, n == 0)
	is, f := drive.Holds(e, s)
	put("Holds", f, !is)
	n, f = drive.Fastest(e, s, -1)
	put("Fastest", f, n == 0)
	n, is, f = drive.Legal(e, s, api.Span{Low: -1})
	put("Legal", f, n == 0 && !is)
	l, f = drive.Critical(e, s, -1, -1)
	put("Critical", f, len(l) == 0)
	return out
}

// TestAnyArguments: no argument makes a function panic, or return something beside an error.
func TestAnyArguments(t *testing.T) {
	r := rand.New(rand.NewSource(10))
	numbers := []int{math.MinInt, -10000001, -10000000, -1, 0, 1, 2, 3, 4, 20, 21, 100, 101, 1000, 1001, 100000, 100001, 10000000, 10000001, math.MaxInt}
	any := func() int {
		if r.Intn(3) > 0 {
			return r.Intn(21)
		}
		return numbers[r.Intn(len(numbers))]
	}
	for range 20000 {
		e := api.Escalator{Up: r.Intn(2) == 0, Empty: any(), Pull: any(), Drag: any(), Motor: any()}
		for range r.Intn(5) {
			e.Brakes = append(e.Brakes, api.Brake{Force: any(), Delay: any()})
		}
		s := api.Stop{Speed: any(), Loads: api.Span{Low: any(), High: any()}, Fail: any()}
		if s.Loads.Low > s.Loads.High && r.Intn(2) == 0 {
			s.Loads.Low, s.Loads.High = s.Loads.High, s.Loads.Low
		}
		before := slices.Clone(e.Brakes)
		errors := errorsOf(e, s)
		n, f := drive.Step(e, any(), any(), any())
		if f != api.OK && n != 0 {
			t.Fatalf("Step(%+v) = %d, %d", e, n, f)
		}
		n, f = drive.Capacity(e)
		if f != api.OK && n != 0 {
			t.Fatalf("Capacity(%+v) = %d, %d", e, n, f)
		}
		first := drive.Check(e)
		for name, f := range errors {
			if f < 0 || first != api.OK && f != first || first == api.OK && f == api.ErrDrive {
				t.Fatalf("%s(%+v, %+v): %d", name, e, s, f)
			}
		}
		if !slices.Equal(before, e.Brakes) {
			t.Fatalf("the brakes are changed: %v", e.Brakes)
		}
	}
}
