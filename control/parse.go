package control

import (
	"strings"

	"newel/api"
)

// Parse returns the machine that a text of the language tells of. With ErrForm line is the first line that does not have the form, or may not stand there (P4.2).
func Parse(s string) (m api.Machine, line int, e api.Errno) {
	if len(s) > api.MaxText {
		return api.Machine{}, 0, api.ErrMany
	}
	m, line = read(s)
	if line > 0 {
		return api.Machine{}, line, api.ErrForm
	}
	if e := Check(m); e != api.OK {
		return api.Machine{}, 0, e
	}
	return m, 0, api.OK
}

// malformed is what the reader panics with where a line does not have the form, or may not stand there.
type malformed struct{ line int }

// read returns a machine that need not be valid, or the number of the first line that is malformed.
func read(s string) (m api.Machine, line int) {
	defer func() {
		thrown := recover()
		if thrown == nil {
			return
		}
		bad, is := thrown.(malformed)
		if !is {
			panic(thrown)
		}
		m, line = api.Machine{}, bad.line
	}()
	r := reader{left: s}
	r.lines()
	return r.m, 0
}

// reader reads a text line by line, and each line word by word.
type reader struct {
	m     api.Machine
	left  string   // the lines behind the one that is read
	line  int      // the number of that one
	words []string // those of its words that have not been read
}

func (r *reader) lines() {
	r.needNext(r.begins("inputs"))
	r.m.Inputs = r.names()
	r.needNext(r.begins("outputs"))
	r.m.Outputs = r.names()
	for r.begins("counter") {
		r.counter()
	}
	for r.begins("state") {
		r.state()
	}
	for r.begins("rule") {
		r.rule()
	}
	r.needNext(r.left == "")
}

// need panics unless the line that is read is as it should be.
func (r *reader) need(is bool) {
	if !is {
		panic(malformed{r.line})
	}
}

// needNext panics unless the line behind it is as it should be.
func (r *reader) needNext(is bool) {
	if !is {
		panic(malformed{r.line + 1})
	}
}

// begins goes on to the next line, if it begins with a word, and reads the word.
func (r *reader) begins(word string) bool {
	text, left, ends := strings.Cut(r.left, "\n")
	words := strings.Split(text, " ")
	if words[0] != word {
		return false
	}
	r.left, r.words = left, words[1:]
	r.line++
	r.need(ends)
	return true
}

func (r *reader) isAtEnd() bool { return len(r.words) == 0 }

// isAt reports whether the next word is this one.
func (r *reader) isAt(word string) bool { return !r.isAtEnd() && r.words[0] == word }

// skips reads the next word, if it is this one.
func (r *reader) skips(word string) bool {
	is := r.isAt(word)
	if is {
		r.words = r.words[1:]
	}
	return is
}

func (r *reader) word() string {
	r.need(!r.isAtEnd())
	word := r.words[0]
	r.words = r.words[1:]
	return word
}

// name reads a new name.
func (r *reader) name() string {
	word := r.word()
	r.need(isName(word))
	return word
}

func (r *reader) names() []string {
	var names []string
	for !r.isAtEnd() {
		names = append(names, r.name())
	}
	return names
}

// known returns the number that was found for a name, and panics if there is none.
func (r *reader) known(number int) int {
	r.need(number != none)
	return number
}

func (r *reader) knownOutput(name string) int { return r.known(find(r.m.Outputs, itself, name)) }

func (r *reader) knownCounter(name string) int { return r.known(find(r.m.Counters, counterName, name)) }

func (r *reader) knownState(name string) int { return r.known(find(r.m.States, stateName, name)) }

func (r *reader) digit(word string) int {
	r.need(len(word) == 1 && '0' <= word[0] && word[0] <= '9')
	return int(word[0] - '0')
}

func (r *reader) counter() {
	c := api.Counter{Name: r.name()}
	c.Max = r.digit(r.word())
	r.need(r.isAtEnd())
	r.m.Counters = append(r.m.Counters, c)
}

func (r *reader) state() {
	s := api.State{Name: r.name()}
	before := 0
	for !r.isAtEnd() {
		output := r.knownOutput(r.word())
		// Ascending, not strictly: the same output may come again.
		r.need(before <= output)
		s.Shows |= 1 << output
		before = output
	}
	r.m.States = append(r.m.States, s)
}

func (r *reader) rule() {
	x := api.Rule{From: anyState}
	if !r.skips("any") {
		x.From = r.knownState(r.word())
	}
	r.need(r.skips("to"))
	x.To = r.knownState(r.word())
	for !r.skips("if") {
		x.Sets = append(x.Sets, r.set())
	}
	x.When = r.cond()
	r.m.Rules = append(r.m.Rules, x)
}

func (r *reader) set() api.Set {
	var s api.Set
	switch r.word() {
	case "zero":
		s.Kind = api.Zero
	case "more":
		s.Kind = api.More
	case "less":
		s.Kind = api.Less
	}
	r.need(s.Kind != 0)
	s.Counter = r.knownCounter(r.word())
	return s
}

// cond reads a condition, which is all that is left of the line.
func (r *reader) cond() api.Cond {
	if r.skips("no") {
		r.need(r.isAtEnd())
		return nil
	}
	c := api.Cond{r.term()}
	for !r.isAtEnd() {
		r.need(r.skips("|"))
		c = append(c, r.term())
	}
	return c
}

// term reads up to what must be the end of a term.
func (r *reader) term() api.Term {
	if r.skips("yes") {
		return api.Term{}
	}
	t := api.Term{r.literal()}
	for !r.isAtEnd() && !r.isAt("|") {
		t = append(t, r.literal())
	}
	return t
}

func (r *reader) literal() api.Literal {
	word, not := strings.CutPrefix(r.word(), "!")
	name, value, isLeast := strings.Cut(word, ">=")
	if isLeast {
		return api.Literal{Kind: api.Least, Number: r.knownCounter(name), Value: r.digit(value), Not: not}
	}
	if input := find(r.m.Inputs, itself, name); input != none {
		return api.Literal{Kind: api.Input, Number: input, Not: not}
	}
	return api.Literal{Kind: api.Shown, Number: r.knownOutput(name), Not: not}
}
