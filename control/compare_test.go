package control_test

import (
	"math/rand"
	"slices"
	"testing"

	"newel/api"
	"newel/control"
)

// drawn is a machine with conditions that are valid for it.
type drawn struct {
	m             api.Machine
	assume, never api.Cond
}

func draw(r *rand.Rand, x limits) drawn {
	m := lively(r, x)
	if r.Intn(4) == 0 {
		m = anyMachine(r, x)
	}
	y := drawn{m, anyCond(r, m, true), anyCond(r, m, true)}
	if r.Intn(2) == 0 {
		y.assume = nil
	}
	if r.Intn(2) == 0 { // a never that does not hold too soon
		y.never = all(in(r.Intn(len(m.States))))
		if len(m.Counters) > 0 {
			y.never[0] = append(y.never[0], least(0, m.Counters[0].Max))
		}
	}
	return y
}

func TestStepIsAsTheTextSays(t *testing.T) {
	r := rand.New(rand.NewSource(11))
	moved := 0
	for range 3000 {
		m := anyMachine(r, whole)
		for _, p := range anyPlaces(r, m, 5) {
			input := r.Intn(1 << len(m.Inputs))
			want := refStep(m, p, input)
			if got, e := control.Step(m, p, input); got != want || e != api.OK {
				t.Fatalf("Step(%v, %v, %d) = %v, %d, want %v", m, p, input, got, e, want)
			}
			if want != p {
				moved++
			}
		}
	}
	if moved < 5000 {
		t.Errorf("%d of 15000 steps lead on", moved)
	}
}

func TestRunIsAsTheTextSays(t *testing.T) {
	r := rand.New(rand.NewSource(12))
	for range 1000 {
		m := anyMachine(r, whole)
		var inputs []int
		var want []api.Place
		p := api.Place{}
		for range r.Intn(30) {
			inputs = append(inputs, r.Intn(1<<len(m.Inputs)))
			p = refStep(m, p, inputs[len(inputs)-1])
			want = append(want, p)
		}
		if l, e := control.Run(m, inputs); !slices.Equal(l, want) || e != api.OK {
			t.Fatalf("Run(%v, %v) = %v, %d, want %v", m, inputs, l, e, want)
		}
	}
}

func TestReachIsAsTheTextSays(t *testing.T) {
	r := rand.New(rand.NewSource(13))
	reached := 0
	for i := range 1500 {
		x := draw(r, small)
		if i%30 == 0 {
			x = draw(r, limits{3, 3, 2, 3, 6, 20})
		}
		want := refReach(x.m, x.assume)
		if l, e := control.Reach(x.m, x.assume); !slices.Equal(l, want) || e != api.OK {
			t.Fatalf("Reach(%v, %v) = %v, %d, want %v", x.m, x.assume, l, e, want)
		}
		if len(want) > 3 {
			reached++
		}
	}
	if reached < 300 {
		t.Errorf("%d machines reach more than three situations", reached)
	}
}

func TestBreachAndStuckAreAsTheTextSays(t *testing.T) {
	r := rand.New(rand.NewSource(14))
	long, stuck := 0, 0
	for range 2500 {
		x := draw(r, small)
		want, is := refBreach(x.m, x.assume, x.never, unstuck)
		if run, got, e := control.Breach(x.m, x.assume, x.never); !slices.Equal(run, want) || got != is || e != api.OK {
			t.Fatalf("Breach(%v) = %v, %v, %d, want %v, %v", x, run, got, e, want, is)
		}
		if len(want) > 1 {
			long++
		}
		at, value, run, are := refStuck(x.m, x.assume, x.never)
		if i, v, l, got, e := control.Stuck(x.m, x.assume, x.never); i != at || v != value || !slices.Equal(l, run) || got != are || e != api.OK {
			t.Fatalf("Stuck(%v) = %d, %d, %v, %v, %d, want %d, %d, %v, %v", x, i, v, l, got, e, at, value, run, are)
		}
		if are && (at > 0 || value > 0) {
			stuck++
		}
	}
	if long < 100 || stuck < 50 {
		t.Errorf("%d runs are longer than one step, %d times not the first input is stuck at 0", long, stuck)
	}
}

func TestProvesIsAsTheTextSays(t *testing.T) {
	r := rand.New(rand.NewSource(15))
	accepted, later := 0, 0
	for range 4000 {
		x := draw(r, small)
		l := refReach(x.m, x.assume)
		r.Shuffle(len(l), func(i, k int) { l[i], l[k] = l[k], l[i] })
		switch r.Intn(4) {
		case 0:
			l = l[1:]
		case 1:
			l = append(l, anyPlaces(r, x.m, 1)...)
		case 2:
			l = anyPlaces(r, x.m, 12)
		}
		if r.Intn(2) == 0 {
			x.never = nil
		}
		at, is := refProves(x.m, x.assume, x.never, l)
		if i, got, e := control.Proves(x.m, x.assume, x.never, l); i != at || got != is || e != api.OK {
			t.Fatalf("Proves(%v, %v) = %d, %v, %d, want %d, %v", x, l, i, got, e, at, is)
		}
		if is {
			accepted++
		} else if at > 0 {
			later++
		}
	}
	if accepted < 300 || later < 300 {
		t.Errorf("%d certificates, %d errors behind the first situation", accepted, later)
	}
}

func TestTrapIsAsTheTextSays(t *testing.T) {
	r := rand.New(rand.NewSource(16))
	found, none := 0, 0
	for range 2000 {
		x := draw(r, small)
		want, is := refTrap(x.m, x.assume, x.never)
		if run, got, e := control.Trap(x.m, x.assume, x.never); !slices.Equal(run, want) || got != is || e != api.OK {
			t.Fatalf("Trap(%v) = %v, %v, %d, want %v, %v", x, run, got, e, want, is)
		}
		if len(want) > 0 {
			found++
		} else if !is {
			none++
		}
	}
	if found < 100 || none < 100 {
		t.Errorf("%d traps behind the beginning, %d times none", found, none)
	}
}

// alike draws a machine that shows much the same as another one: states come twice, and a rule is changed.
func alike(r *rand.Rand, m api.Machine) api.Machine {
	n := copyMachine(m)
	many := len(m.States)
	if r.Intn(2) == 0 {
		for i, s := range m.States {
			n.States = append(n.States, api.State{Name: "x" + string(rune('a'+i)), Shows: s.Shows})
		}
		for i, x := range n.Rules {
			n.Rules[i].To += many * r.Intn(2)
			if x.From >= 0 {
				x.From += many
				n.Rules = append(n.Rules, x)
			}
		}
	}
	if len(n.Rules) > 0 && r.Intn(2) == 0 {
		n.Rules[r.Intn(len(n.Rules))] = anyRule(r, n)
	}
	return n
}

func TestSameIsAsTheTextSays(t *testing.T) {
	r := rand.New(rand.NewSource(17))
	same, differ := 0, 0
	for range 1500 {
		x := draw(r, small)
		b := alike(r, x.m)
		if !refCheck(b) {
			continue
		}
		if r.Intn(2) == 0 {
			x.assume = nil
		}
		a := x.m
		want, is := refSame(a, b, x.assume)
		if run, got, e := control.Same(a, b, x.assume); !slices.Equal(run, want) || got != is || e != api.OK {
			t.Fatalf("Same(%v, %v, %v) = %v, %v, %d, want %v, %v", a, b, x.assume, run, got, e, want, is)
		}
		if is {
			same++
		} else if len(want) > 1 {
			differ++
		}
	}
	if same < 100 || differ < 30 {
		t.Errorf("%d are the same, %d are not behind more than one input", same, differ)
	}
}

func TestClassesAreAsTheTextSays(t *testing.T) {
	r := rand.New(rand.NewSource(18))
	joined := 0
	for range 700 {
		m := alike(r, draw(r, small).m)
		if !refCheck(m) {
			continue
		}
		want := refClasses(m)
		if l, e := control.Classes(m); !slices.Equal(l, want) || e != api.OK {
			t.Fatalf("Classes(%v) = %v, %d, want %v", m, l, e, want)
		}
		if many := slices.Max(want) + 1; many > 1 && many < len(want) {
			joined++
		}
	}
	if joined < 100 {
		t.Errorf("%d machines have more than one class, and one of more than one situation", joined)
	}
}
