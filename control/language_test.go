package control_test

import (
	"fmt"
	"math/rand"
	"slices"
	"strings"
	"testing"

	"newel/api"
	"newel/control"
)

// written is a machine as text in which nil and empty lists are the same.
func written(m api.Machine) string { return fmt.Sprintf("%v", m) }

func TestFormat(t *testing.T) {
	odd := states("state", "inputs")
	odd.Counters = []api.Counter{{Name: "counter", Max: 7}, {Name: "abcdefgh", Max: 1}}
	odd.Outputs = []string{"z", "a"}
	odd.States[0].Shows, odd.States[1].Shows = 3, 2
	odd.Rules = []api.Rule{{From: -1, To: 1}, {From: 0, To: 0, When: yes()}, {From: 1, To: 0, When: api.Cond{nil, {shown(1), not(shown(0))}, {}}},
		{From: 1, To: 1, When: when(api.Term{least(0, 0)}, api.Term{not(least(1, 1))}), Sets: []api.Set{zero(0), more(1), less(0), less(0)}}}
	for i, x := range []struct {
		m    api.Machine
		want string
		e    api.Errno
	}{
		{d(), text, api.OK},
		{states("a"), "inputs\noutputs\nstate a\n", api.OK},
		{odd, `inputs
outputs z a
counter counter 7
counter abcdefgh 1
state state z a
state inputs a
rule any to inputs if no
rule state to state if yes
rule inputs to state if yes | a !z | yes
rule inputs to inputs zero counter more abcdefgh less counter less counter if counter>=0 | !abcdefgh>=1
`, api.OK},
		{states("any"), "", api.ErrMachine},
		{api.Machine{}, "", api.ErrMachine},
	} {
		s, e := control.Format(x.m)
		if s != x.want || e != x.e {
			t.Errorf("%d: Format = %q, %d, want %q, %d", i, s, e, x.want, x.e)
		}
		if m, line, f := control.Parse(s); e == api.OK && (written(m) != written(x.m) || line != 0 || f != api.OK) {
			t.Errorf("%d: Parse of it = %v, %d, %d", i, m, line, f)
		}
	}
}

func TestParse(t *testing.T) {
	if m, line, e := control.Parse(text); written(m) != written(d()) || line != 0 || e != api.OK {
		t.Errorf("Parse = %v, %d, %d", m, line, e)
	}
	twice := states("a")
	twice.Outputs, twice.States[0].Shows = []string{"x", "y"}, 3
	for i, s := range []string{"x y", "x x y", "x y y", "x x x y"} { // ascending: the same output may come again
		if m, line, e := control.Parse("inputs\noutputs x y\nstate a " + s + "\n"); written(m) != written(twice) || line != 0 || e != api.OK {
			t.Errorf("%d: Parse = %v, %d, %d", i, m, line, e)
		}
	}
}

func TestParseLines(t *testing.T) {
	const head = "inputs i j\noutputs o p\ncounter n 2\nstate a\nstate b o\n"
	// long has as many bytes as there may be.
	long := "inputs\noutputs\nstate a\n"
	for len(long) < 40000-22 {
		long += "rule a to a if yes\n"
	}
	long += "rule a to a if " + strings.Repeat("y", 39999-len(long)-len("rule a to a if ")) + "\n"
	for i, x := range []struct {
		s    string
		line int
		e    api.Errno
	}{
		{"", 1, api.ErrForm},
		{"inputs", 1, api.ErrForm},
		{"inputs\n", 2, api.ErrForm}, // outputs are missing
		{"inputs\noutputs", 2, api.ErrForm},
		{"inputs\noutputs\n", 0, api.ErrMachine}, // no state
		{"inputs\noutputs\nstate a\n", 0, api.OK},
		{"inputs\noutputs\nstate a", 3, api.ErrForm},
		{"inputs\noutputs\nstate a\n\n", 4, api.ErrForm},
		{"inputs\noutputs\n\nstate a\n", 3, api.ErrForm},
		{"\ninputs\noutputs\nstate a\n", 1, api.ErrForm},
		{"\n", 1, api.ErrForm},
		{"outputs\ninputs\nstate a\n", 1, api.ErrForm},
		{"outputs\nstate a\n", 1, api.ErrForm},
		{"state a\n", 1, api.ErrForm},
		{"inputs\nstate a\n", 2, api.ErrForm},
		{"inputs\ninputs\noutputs\nstate a\n", 2, api.ErrForm},
		{"inputs\noutputs\noutputs\nstate a\n", 3, api.ErrForm},
		{"inputs\noutputs\nstate a\ncounter n 1\n", 4, api.ErrForm},
		{"inputs\noutputs\nstate a\nrule a to a if yes\nstate b\n", 5, api.ErrForm},
		{"inputs\noutputs\nstate a\nrule a to a if yes\ncounter n 1\n", 5, api.ErrForm},
		{"inputs\noutputs\nrule a to a if yes\nstate a\n", 3, api.ErrForm},
		{"inputs\noutputs\nstate a\nrule a to b if yes\nstate b\n", 4, api.ErrForm},
		{"inputs\noutputs\nstate a\nstates b\n", 4, api.ErrForm},
		{"inputs\noutputs\nState a\n", 3, api.ErrForm},
		{"inputs \noutputs\nstate a\n", 1, api.ErrForm},
		{" inputs\noutputs\nstate a\n", 1, api.ErrForm},
		{"inputs  i\noutputs\nstate a\n", 1, api.ErrForm},
		{"inputs\ti\noutputs\nstate a\n", 1, api.ErrForm},
		{"inputs i\r\noutputs\nstate a\n", 1, api.ErrForm},
		{"inputs I\noutputs\nstate a\n", 1, api.ErrForm},
		{"inputs i1\noutputs\nstate a\n", 1, api.ErrForm},
		{"inputs ä\noutputs\nstate a\n", 1, api.ErrForm},
		{"inputs i\x00\noutputs\nstate a\n", 1, api.ErrForm},
		{"inputs any\noutputs\nstate a\n", 1, api.ErrForm},
		{"inputs i to\noutputs\nstate a\n", 1, api.ErrForm},
		{"inputs\noutputs zero\nstate a\n", 2, api.ErrForm},
		{"inputs\noutputs\ncounter more 1\nstate a\n", 3, api.ErrForm},
		{"inputs\noutputs\nstate less\n", 3, api.ErrForm},
		{"inputs\noutputs\nstate if\n", 3, api.ErrForm},
		{"inputs yes\noutputs\nstate a\n", 1, api.ErrForm},
		{"inputs no\noutputs\nstate a\n", 1, api.ErrForm},
		{"inputs inputs\noutputs outputs\ncounter counter 1\nstate state\nstate rule outputs\nrule rule to state if inputs\n", 0, api.OK},
		{"inputs i i\noutputs\nstate a\n", 0, api.ErrMachine}, // the same name twice
		{"inputs i\noutputs i\nstate a\n", 0, api.ErrMachine},
		{"inputs abcdefghi\noutputs\nstate a\n", 0, api.ErrMachine}, // names of any length have the form
		{"inputs i j k l m\noutputs\nstate a\n", 0, api.ErrMachine},
		{"inputs\noutputs i j k l m n o\nstate a o\n", 0, api.ErrMachine},
		{"inputs\noutputs" + strings.Repeat(" x", 100) + " y\nstate a y\n", 0, api.ErrMachine},
		{"inputs\noutputs\ncounter n 0\nstate a\n", 0, api.ErrMachine},
		{"inputs\noutputs\ncounter n 7\nstate a\n", 0, api.OK},
		{"inputs\noutputs\ncounter n 8\nstate a\n", 0, api.ErrMachine},
		{"inputs\noutputs\ncounter n 10\nstate a\n", 3, api.ErrForm},
		{"inputs\noutputs\ncounter n 01\nstate a\n", 3, api.ErrForm},
		{"inputs\noutputs\ncounter n -1\nstate a\n", 3, api.ErrForm},
		{"inputs\noutputs\ncounter n x\nstate a\n", 3, api.ErrForm},
		{"inputs\noutputs\ncounter n\nstate a\n", 3, api.ErrForm},
		{"inputs\noutputs\ncounter\nstate a\n", 3, api.ErrForm},
		{"inputs\noutputs\ncounter n 1 1\nstate a\n", 3, api.ErrForm},
		{"inputs\noutputs\nstate\n", 3, api.ErrForm},
		{"inputs\noutputs\nstate a\nstate a\n", 0, api.ErrMachine},
		{"inputs\noutputs x y\nstate a x y\n", 0, api.OK},
		{"inputs\noutputs x y\nstate a y x\n", 3, api.ErrForm},
		{"inputs\noutputs x y\nstate a x y x\n", 3, api.ErrForm},
		{"inputs\noutputs x y\nstate a z\n", 3, api.ErrForm},
		{"inputs x\noutputs\nstate a x\n", 3, api.ErrForm},
		{"inputs\noutputs x y x\nstate a x y\n", 0, api.ErrMachine}, // the first one that has the name
		{"inputs\noutputs x y x\nstate a y x\n", 3, api.ErrForm},
		{head, 0, api.OK},
		{head + "rule any to a if yes\n", 0, api.OK},
		{head + "rule a to b zero n more n less n more n if !i j | !n>=2 n>=0 | o !p | yes\n", 0, api.OK},
		{head + "rule a to b zero n more n less n more n zero n if yes\n", 0, api.ErrMachine},
		{head + "rule a to b if n>=3\n", 0, api.ErrMachine},
		{head + "rule a to b if n>=9\n", 0, api.ErrMachine},
		{head + "rule a to b if i i i i i i i\n", 0, api.ErrMachine},
		{head + "rule a to b if i | i | i | i | i | i | i\n", 0, api.ErrMachine},
		{head + strings.Repeat("rule a to b if no\n", 40), 0, api.OK},
		{head + strings.Repeat("rule a to b if no\n", 41), 0, api.ErrMachine},
		{head + "rule a to b if n>=10\n", 6, api.ErrForm},
		{head + "rule a to b if n>=\n", 6, api.ErrForm},
		{head + "rule a to b if n>=i\n", 6, api.ErrForm},
		{head + "rule a to b if n>2\n", 6, api.ErrForm},
		{head + "rule a to b if n >= 2\n", 6, api.ErrForm},
		{head + "rule a to b if n>=1>=1\n", 6, api.ErrForm},
		{head + "rule a to b if >=1\n", 6, api.ErrForm},
		{head + "rule a to b if n\n", 6, api.ErrForm},
		{head + "rule a to b if i>=1\n", 6, api.ErrForm},
		{head + "rule a to b if a\n", 6, api.ErrForm}, // no words for In
		{head + "rule a to b if q\n", 6, api.ErrForm},
		{head + "rule a to b if !!i\n", 6, api.ErrForm},
		{head + "rule a to b if ! i\n", 6, api.ErrForm},
		{head + "rule a to b if !\n", 6, api.ErrForm},
		{head + "rule a to b if !yes\n", 6, api.ErrForm},
		{head + "rule a to b if !no\n", 6, api.ErrForm},
		{head + "rule a to b if yes yes\n", 6, api.ErrForm},
		{head + "rule a to b if yes i\n", 6, api.ErrForm},
		{head + "rule a to b if i yes\n", 6, api.ErrForm},
		{head + "rule a to b if no no\n", 6, api.ErrForm},
		{head + "rule a to b if no | i\n", 6, api.ErrForm},
		{head + "rule a to b if i | no\n", 6, api.ErrForm},
		{head + "rule a to b if i |\n", 6, api.ErrForm},
		{head + "rule a to b if i | \n", 6, api.ErrForm},
		{head + "rule a to b if | i\n", 6, api.ErrForm},
		{head + "rule a to b if i | | j\n", 6, api.ErrForm},
		{head + "rule a to b if i|j\n", 6, api.ErrForm},
		{head + "rule a to b if i || j\n", 6, api.ErrForm},
		{head + "rule a to b if i j \n", 6, api.ErrForm},
		{head + "rule a to b if i  j\n", 6, api.ErrForm},
		{head + "rule a to b if\n", 6, api.ErrForm},
		{head + "rule a to b if \n", 6, api.ErrForm},
		{head + "rule a to b\n", 6, api.ErrForm},
		{head + "rule a to b yes\n", 6, api.ErrForm},
		{head + "rule a to b zero if yes\n", 6, api.ErrForm},
		{head + "rule a to b zero\n", 6, api.ErrForm},
		{head + "rule a to b zero q if yes\n", 6, api.ErrForm},
		{head + "rule a to b zero i if yes\n", 6, api.ErrForm},
		{head + "rule a to b none n if yes\n", 6, api.ErrForm},
		{head + "rule a to b n if yes\n", 6, api.ErrForm},
		{head + "rule a to any if yes\n", 6, api.ErrForm},
		{head + "rule a to q if yes\n", 6, api.ErrForm},
		{head + "rule q to a if yes\n", 6, api.ErrForm},
		{head + "rule n to a if yes\n", 6, api.ErrForm},
		{head + "rule a b if yes\n", 6, api.ErrForm},
		{head + "rule a to\n", 6, api.ErrForm},
		{head + "rule a\n", 6, api.ErrForm},
		{head + "rule\n", 6, api.ErrForm},
		{head + "rule a to b if yes\nrule a to b if maybe\nrule\n", 7, api.ErrForm}, // the first one
		{head + "rule a to b if yes", 6, api.ErrForm},
		{"inputs i i\noutputs\nstate a\nrule\n", 4, api.ErrForm}, // before ErrMachine
		{strings.Repeat("x", 40000), 1, api.ErrForm},
		{strings.Repeat("\n", 40000), 1, api.ErrForm},
		{strings.Repeat("x", 40001), 0, api.ErrMany},
		{long, strings.Count(long, "\n"), api.ErrForm},
		{long + "\n", 0, api.ErrMany},
	} {
		m, line, e := control.Parse(x.s)
		if line != x.line || e != x.e || e != api.OK && written(m) != written(api.Machine{}) {
			t.Errorf("%d: Parse(%q) = %v, %d, %d, want %d, %d", i, x.s[max(0, len(x.s)-60):], m, line, e, x.line, x.e)
		}
		if n, at, f := refParse(x.s); at != x.line || f != x.e || written(n) != written(m) {
			t.Errorf("%d: the reference says %v, %d, %d", i, n, at, f)
		}
	}
}

// garble changes a text at one place.
func garble(r *rand.Rand, s string) string {
	lines := strings.SplitAfter(s, "\n")
	i, k := r.Intn(len(lines)), r.Intn(len(lines))
	words := strings.Split(s, " ")
	v, w := r.Intn(len(words)), r.Intn(len(words))
	at := r.Intn(len(s) + 1)
	switch r.Intn(9) {
	case 0:
		lines = slices.Delete(lines, i, i+1)
	case 1:
		lines = slices.Insert(lines, i, lines[k])
	case 2:
		lines[i], lines[k] = lines[k], lines[i]
	case 3:
		words[v], words[w] = words[w], words[v]
		return strings.Join(words, " ")
	case 4:
		words[v] = words[w]
		return strings.Join(words, " ")
	case 5:
		kept := []string{"any", "to", "zero", "more", "less", "if", "yes", "no", "|", "", "x", "!", "9", "inputs", "rule"}
		words[v] = kept[r.Intn(len(kept))]
		return strings.Join(words, " ")
	case 6:
		return s[:at] + string(" \n|!>=0129az\x00"[r.Intn(13)]) + s[at:]
	case 7:
		return s[:max(0, at-1)] + s[at:]
	case 8:
		return s[:at]
	}
	return strings.Join(lines, "")
}

func TestParseIsAsTheTextSays(t *testing.T) {
	r := rand.New(rand.NewSource(1))
	times := map[api.Errno]int{}
	for range 20000 {
		s, e := control.Format(anyMachine(r, limits{2, 2, 2, 7, 4, 5}))
		if e != api.OK {
			t.Fatalf("Format: %d", e)
		}
		for range r.Intn(4) {
			s = garble(r, s)
		}
		wanted, at, f := refParse(s)
		m, line, e := control.Parse(s)
		if written(m) != written(wanted) || line != at || e != f {
			t.Fatalf("Parse(%q) = %v, %d, %d, want %v, %d, %d", s, m, line, e, wanted, at, f)
		}
		times[e]++
		if line > 5 {
			times[-1]++
		}
	}
	for _, e := range []api.Errno{api.OK, api.ErrForm, api.ErrMachine, -1} {
		if times[e] < 100 {
			t.Errorf("the error %d came %d times", e, times[e])
		}
	}
}

// TestParseOfFormat is P4.16.
func TestParseOfFormat(t *testing.T) {
	r := rand.New(rand.NewSource(2))
	for range 2000 {
		m := anyMachine(r, whole)
		s, e := control.Format(m)
		n, line, f := control.Parse(s)
		if e != api.OK || line != 0 || f != api.OK || written(n) != written(m) {
			t.Fatalf("Parse of Format of %v = %v, %d, %d", m, n, line, f)
		}
		if again, e := control.Format(n); again != s || e != api.OK {
			t.Fatalf("Format of %v = %q, %d, not %q", n, again, e, s)
		}
	}
}

// TestTheLongestText: each valid machine has a text that Parse takes.
func TestTheLongestText(t *testing.T) {
	m := largest()
	for i := range m.Inputs {
		m.Inputs[i] = strings.Repeat(m.Inputs[i], 8)
	}
	for i := range m.Outputs {
		m.Outputs[i] = strings.Repeat(m.Outputs[i], 4)
	}
	for i := range m.Counters {
		m.Counters[i].Name = strings.Repeat(m.Counters[i].Name, 8)
	}
	for i := range m.States {
		m.States[i].Name, m.States[i].Shows = strings.Repeat(m.States[i].Name, 4), 63
	}
	for i := range m.Rules {
		m.Rules[i].When = slices.Repeat(api.Cond{slices.Repeat(api.Term{not(least(1, 7))}, 6)}, 6)
		m.Rules[i].Sets = slices.Repeat([]api.Set{zero(1)}, 4)
	}
	s, e := control.Format(m)
	if n, line, f := control.Parse(s); e != api.OK || f != api.OK || line != 0 || written(n) != written(m) {
		t.Errorf("Parse of Format = %v, %d, %d, %d", n, line, f, e)
	}
}
