package control_test

import (
	"cmp"
	"fmt"
	"maps"
	"math/rand"
	"regexp"
	"slices"
	"strings"

	"newel/api"
)

// What follows is the chapter's text once more, in other ways than the package's: questions are words that are looked up among all that is so, the best run to each situation is made better as long as it can be, situations are told apart pair by pair, and lines are compared with patterns.

// place is a situation by its state and values.
func place(state int, values ...int) api.Place {
	p := api.Place{State: state}
	copy(p.Values[:], values)
	return p
}

// facts are all words that are so in a situation with an input.
func facts(m api.Machine, p api.Place, input int) map[string]bool {
	so := map[string]bool{fmt.Sprint("in ", p.State): true}
	for i := range m.Inputs {
		so[fmt.Sprint("input ", i)] = input/(1<<i)%2 == 1
	}
	for i := range m.Outputs {
		so[fmt.Sprint("shown ", i)] = m.States[p.State].Shows/(1<<i)%2 == 1
	}
	for i := range m.Counters {
		for value := range p.Values[i] + 1 {
			so[fmt.Sprint("least ", i, value)] = true
		}
	}
	return so
}

func refHolds(m api.Machine, c api.Cond, p api.Place, input int) bool {
	so := facts(m, p, input)
	for _, t := range c {
		wrong := 0
		for _, l := range t {
			word := fmt.Sprint([]string{"", "input ", "least ", "in ", "shown "}[l.Kind], l.Number)
			if l.Kind == api.Least {
				word = fmt.Sprint("least ", l.Number, l.Value)
			}
			if so[word] == l.Not {
				wrong++
			}
		}
		if wrong == 0 {
			return true
		}
	}
	return false
}

func refPossible(m api.Machine, assume api.Cond, p api.Place, input int) bool {
	return len(assume) == 0 || refHolds(m, assume, p, input)
}

func refStep(m api.Machine, p api.Place, input int) api.Place {
	fit := slices.DeleteFunc(slices.Clone(m.Rules), func(r api.Rule) bool {
		return r.From != -1 && r.From != p.State || !refHolds(m, r.When, p, input)
	})
	if len(fit) == 0 {
		return p
	}
	for _, s := range fit[0].Sets {
		switch most := m.Counters[s.Counter].Max; {
		case s.Kind == 1:
			p.Values[s.Counter] = 0
		case s.Kind == 2 && p.Values[s.Counter] < most:
			p.Values[s.Counter]++
		case s.Kind == 3 && p.Values[s.Counter] > 0:
			p.Values[s.Counter]--
		}
	}
	p.State = fit[0].To
	return p
}

func better(a, b []int) int { return cmp.Or(cmp.Compare(len(a), len(b)), slices.Compare(a, b)) }

// best returns the best run to each of what can be reached: the shortest one, of several the first.
func best[K comparable](first K, inputs int, next func(at K, input int) (K, bool)) map[K][]int {
	runs := map[K][]int{first: {}}
	for changed := true; changed; {
		changed = false
		for _, at := range slices.Collect(maps.Keys(runs)) {
			for input := range 1 << inputs {
				to, is := next(at, input)
				if !is {
					continue
				}
				run := append(slices.Clone(runs[at]), input)
				if old, is := runs[to]; !is || better(run, old) < 0 {
					runs[to], changed = run, true
				}
			}
		}
	}
	return runs
}

// order returns all of what can be reached by their best runs.
func order[K comparable](runs map[K][]int) []K {
	return slices.SortedFunc(maps.Keys(runs), func(a, b K) int { return better(runs[a], runs[b]) })
}

// unstuck is what is heard if no input is stuck.
func unstuck(input int) int { return input }

func refRuns(m api.Machine, assume api.Cond, hears func(int) int) map[api.Place][]int {
	return best(api.Place{}, len(m.Inputs), func(p api.Place, input int) (api.Place, bool) {
		return refStep(m, p, hears(input)), refPossible(m, assume, p, input)
	})
}

func refReach(m api.Machine, assume api.Cond) []api.Place { return order(refRuns(m, assume, unstuck)) }

func refBreach(m api.Machine, assume, never api.Cond, hears func(int) int) ([]int, bool) {
	runs := refRuns(m, assume, hears)
	for _, p := range order(runs) {
		if refHolds(m, never, p, 0) {
			return runs[p], true
		}
	}
	return nil, false
}

func refStuck(m api.Machine, assume, never api.Cond) (int, int, []int, bool) {
	for input := range m.Inputs {
		for value := range 2 {
			run, is := refBreach(m, assume, never, func(given int) int {
				return given - given/(1<<input)%2*(1<<input) + value*(1<<input)
			})
			if is {
				return input, value, run, true
			}
		}
	}
	return 0, 0, nil, false
}

func refProves(m api.Machine, assume, never api.Cond, l []api.Place) (int, bool) {
	for at, p := range l {
		out := refHolds(m, never, p, 0)
		for input := range 1 << len(m.Inputs) {
			out = out || refPossible(m, assume, p, input) && !slices.Contains(l, refStep(m, p, input))
		}
		if out {
			return at, false
		}
	}
	if slices.Contains(l, api.Place{}) {
		return 0, true
	}
	return len(l), false
}

func refTrap(m api.Machine, assume, rest api.Cond) ([]int, bool) {
	runs := refRuns(m, assume, unstuck)
	for _, p := range order(runs) {
		on := best(p, len(m.Inputs), func(p api.Place, input int) (api.Place, bool) {
			return refStep(m, p, input), refPossible(m, assume, p, input)
		})
		if !slices.ContainsFunc(order(on), func(p api.Place) bool { return refHolds(m, rest, p, 0) }) {
			return runs[p], true
		}
	}
	return nil, false
}

func refSame(a, b api.Machine, assume api.Cond) ([]int, bool) {
	runs := best([2]api.Place{}, len(a.Inputs), func(at [2]api.Place, input int) ([2]api.Place, bool) {
		return [2]api.Place{refStep(a, at[0], input), refStep(b, at[1], input)}, refPossible(a, assume, at[0], input)
	})
	for _, at := range order(runs) {
		if a.States[at[0].State].Shows != b.States[at[1].State].Shows {
			return runs[at], false
		}
	}
	return nil, true
}

func refClasses(m api.Machine) []int {
	l := refReach(m, nil)
	apart := map[[2]api.Place]bool{}
	for changed := true; changed; {
		changed = false
		for _, p := range l {
			for _, q := range l {
				is := m.States[p.State].Shows != m.States[q.State].Shows
				for input := range 1 << len(m.Inputs) {
					is = is || apart[[2]api.Place{refStep(m, p, input), refStep(m, q, input)}]
				}
				if is && !apart[[2]api.Place{p, q}] {
					apart[[2]api.Place{p, q}], changed = true, true
				}
			}
		}
	}
	out, many := make([]int, len(l)), 0
	for i, p := range l {
		first := slices.IndexFunc(l, func(q api.Place) bool { return !apart[[2]api.Place{p, q}] })
		if first < i {
			out[i] = out[first]
			continue
		}
		out[i] = many
		many++
	}
	return out
}

var (
	kept    = regexp.MustCompile(`^(any|to|zero|more|less|if|yes|no)$`)
	name    = regexp.MustCompile(`^[a-z]{1,8}$`)
	listing = regexp.MustCompile(`^(inputs|outputs)((?: [a-z]+)*)$`)
	counted = regexp.MustCompile(`^counter ([a-z]+) ([0-9])$`)
	stated  = regexp.MustCompile(`^state ([a-z]+)((?: [a-z]+)*)$`)
	ruled   = regexp.MustCompile(`^rule ([a-z]+) to ([a-z]+)((?: (?:zero|more|less) [a-z]+)*) if (no|(?:yes|[a-z>=0-9 !]+)(?: \| (?:yes|[a-z>=0-9 !]+))*)$`)
	literal = regexp.MustCompile(`^(!?)([a-z]+)(?:>=([0-9]))?$`)
)

func refName(s string) bool { return name.MatchString(s) && !kept.MatchString(s) }

func between(n, low, high int) bool { return n >= low && n <= high }

// number returns the number of the first element with a name.
func number[T any](l []T, s string, of func(T) string) int {
	for i, x := range l {
		if of(x) == s {
			return i
		}
	}
	return -1
}

func self(s string) string           { return s }
func ofState(s api.State) string     { return s.Name }
func ofCounter(c api.Counter) string { return c.Name }

func refLiteral(m api.Machine, l api.Literal) bool {
	if l.Kind == 2 {
		return between(l.Number, 0, len(m.Counters)-1) && between(l.Value, 0, m.Counters[l.Number].Max)
	}
	many := map[int]int{1: len(m.Inputs), 3: len(m.States), 4: len(m.Outputs)}[l.Kind]
	return l.Number >= 0 && l.Number < many && l.Value == 0
}

func refCond(m api.Machine, c api.Cond) bool {
	is := len(c) <= 6
	for _, t := range c {
		is = is && len(t) <= 6
		for _, l := range t {
			is = is && refLiteral(m, l)
		}
	}
	return is
}

func refCheck(m api.Machine) bool {
	if len(m.Inputs) > 4 || len(m.Outputs) > 6 || len(m.Counters) > 2 || len(m.States) < 1 || len(m.States) > 12 || len(m.Rules) > 40 {
		return false
	}
	is, times := true, map[string]int{}
	put := func(s string) {
		times[s]++
		is = is && refName(s) && times[s] == 1
	}
	for _, s := range slices.Concat(m.Inputs, m.Outputs) {
		put(s)
	}
	for _, c := range m.Counters {
		put(c.Name)
		is = is && between(c.Max, 1, 7)
	}
	for _, s := range m.States {
		put(s.Name)
		is = is && s.Shows>>len(m.Outputs) == 0
	}
	for _, r := range m.Rules {
		is = is && between(r.From, -1, len(m.States)-1) && between(r.To, 0, len(m.States)-1) && refCond(m, r.When) && len(r.Sets) <= 4
		for _, t := range r.When {
			is = is && !slices.ContainsFunc(t, func(l api.Literal) bool { return l.Kind == 3 })
		}
		for _, s := range r.Sets {
			is = is && between(s.Kind, 1, 3) && between(s.Counter, 0, len(m.Counters)-1)
		}
	}
	return is
}

// refParse goes through the lines with patterns.
func refParse(s string) (m api.Machine, line int, e api.Errno) {
	if len(s) > 40000 {
		return api.Machine{}, 0, api.ErrMany
	}
	lines := strings.Split(s, "\n")
	part := 0 // how many kinds of lines there have been
	for i, text := range lines {
		last := i == len(lines)-1
		if last && text == "" {
			break
		}
		if last || !refLine(&m, text, &part) {
			return api.Machine{}, i + 1, api.ErrForm
		}
	}
	if part < 2 {
		return api.Machine{}, len(lines), api.ErrForm // the last one is empty
	}
	if !refCheck(m) {
		return api.Machine{}, 0, api.ErrMachine
	}
	return m, 0, api.OK
}

func refLine(m *api.Machine, text string, part *int) bool {
	first, _, _ := strings.Cut(text, " ")
	now := slices.Index([]string{"inputs", "outputs", "counter", "state", "rule"}, first) + 1
	if now == 0 || now < *part || now > *part+1 && *part < 2 || now == *part && now < 3 {
		return false
	}
	*part = now
	switch now {
	case 1, 2:
		x := listing.FindStringSubmatch(text)
		if x == nil || slices.ContainsFunc(strings.Fields(x[2]), kept.MatchString) {
			return false
		}
		if now == 1 {
			m.Inputs = strings.Fields(x[2])
		} else {
			m.Outputs = strings.Fields(x[2])
		}
	case 3:
		x := counted.FindStringSubmatch(text)
		if x == nil || kept.MatchString(x[1]) {
			return false
		}
		m.Counters = append(m.Counters, api.Counter{Name: x[1], Max: int(x[2][0]) - '0'})
	case 4:
		x := stated.FindStringSubmatch(text)
		if x == nil || kept.MatchString(x[1]) {
			return false
		}
		shows, on := 0, []int{}
		for _, s := range strings.Fields(x[2]) {
			n := number(m.Outputs, s, self)
			on = append(on, n)
			if n >= 0 {
				shows |= 1 << n
			}
		}
		m.States = append(m.States, api.State{Name: x[1], Shows: shows})
		return slices.IsSorted(on) && !slices.Contains(on, -1)
	case 5:
		x := ruled.FindStringSubmatch(text)
		return x != nil && refRule(m, x)
	}
	return true
}

func refRule(m *api.Machine, x []string) bool {
	rule := api.Rule{From: number(m.States, x[1], ofState), To: number(m.States, x[2], ofState)}
	if rule.From < 0 && x[1] != "any" || rule.To < 0 {
		return false
	}
	sets := strings.Fields(x[3])
	for i := 0; i < len(sets); i += 2 {
		set := api.Set{Kind: slices.Index([]string{"", "zero", "more", "less"}, sets[i]), Counter: number(m.Counters, sets[i+1], ofCounter)}
		if set.Counter < 0 {
			return false
		}
		rule.Sets = append(rule.Sets, set)
	}
	for _, text := range strings.Split(x[4], " | ") {
		term := api.Term{}
		for _, s := range strings.Split(text, " ") {
			if x[4] == "no" || text == "yes" {
				break
			}
			l, is := refWord(m, s)
			if !is {
				return false
			}
			term = append(term, l)
		}
		if x[4] != "no" {
			rule.When = append(rule.When, term)
		}
	}
	m.Rules = append(m.Rules, rule)
	return true
}

func refWord(m *api.Machine, s string) (api.Literal, bool) {
	x := literal.FindStringSubmatch(s)
	if x == nil {
		return api.Literal{}, false
	}
	l := api.Literal{Kind: 1, Number: number(m.Inputs, x[2], self), Not: x[1] == "!"}
	if x[3] != "" {
		l.Kind, l.Number, l.Value = 2, number(m.Counters, x[2], ofCounter), int(x[3][0])-'0'
	} else if l.Number < 0 {
		l.Kind, l.Number = 4, number(m.Outputs, x[2], self)
	}
	return l, l.Number >= 0
}

// limits are how large what is drawn may be.
type limits struct{ inputs, outputs, counters, most, states, rules int }

var (
	small = limits{2, 2, 2, 2, 5, 16}
	whole = limits{4, 6, 2, 7, 12, 40}
)

// anyMachine draws a machine that is valid.
func anyMachine(r *rand.Rand, x limits) api.Machine {
	used := map[string]bool{}
	draw := func() string {
		for {
			var b []byte
			for range 1 + r.Intn(8) {
				b = append(b, "abcdefghijklmnopqrstuvwxyz"[r.Intn(26)])
			}
			if s := string(b); refName(s) && !used[s] {
				used[s] = true
				return s
			}
		}
	}
	var m api.Machine
	for range r.Intn(x.inputs + 1) {
		m.Inputs = append(m.Inputs, draw())
	}
	for range r.Intn(x.outputs + 1) {
		m.Outputs = append(m.Outputs, draw())
	}
	for range r.Intn(x.counters + 1) {
		m.Counters = append(m.Counters, api.Counter{Name: draw(), Max: 1 + r.Intn(x.most)})
	}
	for range 1 + r.Intn(x.states) {
		m.States = append(m.States, api.State{Name: draw(), Shows: r.Intn(1 << len(m.Outputs))})
	}
	for range r.Intn(x.rules + 1) {
		m.Rules = append(m.Rules, anyRule(r, m))
	}
	return m
}

// lively draws a machine that goes through many situations: most rules lead from one state, on a question or two.
func lively(r *rand.Rand, x limits) api.Machine {
	m := api.Machine{Inputs: []string{"i", "j", "k", "l"}[:1+r.Intn(x.inputs)], Outputs: []string{"o", "p", "q"}[:1+r.Intn(min(3, x.outputs))]}
	for i := range r.Intn(x.counters + 1) {
		m.Counters = append(m.Counters, api.Counter{Name: []string{"m", "n"}[i], Max: 1 + r.Intn(x.most)})
	}
	for i := range 2 + r.Intn(x.states-1) {
		m.States = append(m.States, api.State{Name: "s" + string(rune('a'+i)), Shows: r.Intn(2) * r.Intn(1<<len(m.Outputs))})
	}
	for range x.rules/2 + r.Intn(x.rules/2+1) {
		y := api.Rule{From: r.Intn(len(m.States)), To: r.Intn(len(m.States)), When: api.Cond{{}}}
		if r.Intn(12) == 0 {
			y.From = -1
		}
		for range 1 + r.Intn(2) {
			l := api.Literal{Kind: 1, Number: r.Intn(len(m.Inputs)), Not: r.Intn(2) == 0}
			if len(m.Counters) > 0 && r.Intn(3) == 0 {
				l = api.Literal{Kind: 2, Value: 1 + r.Intn(m.Counters[0].Max), Not: r.Intn(2) == 0}
			}
			y.When[0] = append(y.When[0], l)
		}
		for i := range m.Counters {
			if r.Intn(2) == 0 {
				y.Sets = append(y.Sets, api.Set{Kind: []int{1, 2, 2, 2, 3}[r.Intn(5)], Counter: i})
			}
		}
		m.Rules = append(m.Rules, y)
	}
	return m
}

func anyRule(r *rand.Rand, m api.Machine) api.Rule {
	x := api.Rule{From: r.Intn(len(m.States)+1) - 1, To: r.Intn(len(m.States)), When: anyCond(r, m, false)}
	for range r.Intn(5) {
		if len(m.Counters) > 0 {
			x.Sets = append(x.Sets, api.Set{Kind: 1 + r.Intn(3), Counter: r.Intn(len(m.Counters))})
		}
	}
	return x
}

// anyCond draws a condition that is valid; in says whether it may ask for states.
func anyCond(r *rand.Rand, m api.Machine, in bool) api.Cond {
	var c api.Cond
	for range []int{0, 1, 1, 1, 2, 3, 6}[r.Intn(7)] {
		t := api.Term{}
		for range []int{0, 1, 1, 2, 2, 3, 6}[r.Intn(7)] {
			if l := anyLiteral(r, m); refLiteral(m, l) && (in || l.Kind != 3) {
				t = append(t, l)
			}
		}
		c = append(c, t)
	}
	return c
}

// anyLiteral draws one that is often valid.
func anyLiteral(r *rand.Rand, m api.Machine) api.Literal {
	l := api.Literal{Kind: 1 + r.Intn(4), Not: r.Intn(2) == 0}
	l.Number = r.Intn(1 + []int{0, len(m.Inputs), len(m.Counters), len(m.States), len(m.Outputs)}[l.Kind])
	if l.Kind == 2 {
		l.Value = r.Intn(8)
	}
	return l
}

// anyPlaces draws situations of a machine.
func anyPlaces(r *rand.Rand, m api.Machine, many int) []api.Place {
	var l []api.Place
	for range many {
		p := api.Place{State: r.Intn(len(m.States))}
		for i, c := range m.Counters {
			p.Values[i] = r.Intn(c.Max + 1)
		}
		l = append(l, p)
	}
	return l
}
