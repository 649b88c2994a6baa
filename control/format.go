package control

import (
	"slices"
	"strconv"
	"strings"

	"newel/api"
)

// Format returns a machine in the language (P4.1).
func Format(m api.Machine) (string, api.Errno) {
	v, e := checked(m)
	if e != api.OK {
		return "", e
	}
	var text strings.Builder
	write := func(words ...string) { text.WriteString(strings.Join(words, " ") + "\n") }
	write(slices.Concat([]string{"inputs"}, v.Inputs)...)
	write(slices.Concat([]string{"outputs"}, v.Outputs)...)
	for _, c := range v.Counters {
		write("counter", c.Name, strconv.Itoa(c.Max))
	}
	for _, s := range v.States {
		write(slices.Concat([]string{"state", s.Name}, v.namesOn(s))...)
	}
	for _, r := range v.Rules {
		write(slices.Concat([]string{"rule", v.fromName(r), "to", v.States[r.To].Name}, v.setWords(r), []string{"if", v.condText(r.When)})...)
	}
	return text.String(), api.OK
}

// namesOn returns the names of the outputs that are on in a state.
func (m machine) namesOn(s api.State) []string {
	var names []string
	for output, name := range m.Outputs {
		if has(s.Shows, output) {
			names = append(names, name)
		}
	}
	return names
}

func (m machine) fromName(r api.Rule) string {
	if r.From == anyState {
		return "any"
	}
	return m.States[r.From].Name
}

func (m machine) setWords(r api.Rule) []string {
	var words []string
	for _, s := range r.Sets {
		words = append(words, setWord(s.Kind), m.Counters[s.Counter].Name)
	}
	return words
}

func setWord(kind int) string {
	switch kind {
	case api.Zero:
		return "zero"
	case api.More:
		return "more"
	}
	return "less"
}

func (m machine) condText(c api.Cond) string { return joined(c, m.termText, " | ", "no") }

func (m machine) termText(t api.Term) string { return joined(t, m.literalWord, " ", "yes") }

// joined returns the texts of all elements, or what is written if there are none.
func joined[T any](l []T, text func(x T) string, between, empty string) string {
	if len(l) == 0 {
		return empty
	}
	var texts []string
	for _, x := range l {
		texts = append(texts, text(x))
	}
	return strings.Join(texts, between)
}

// literalWord has no word for the Kind In, which no rule of a valid machine has.
func (m machine) literalWord(l api.Literal) string {
	not := ""
	if l.Not {
		not = "!"
	}
	switch l.Kind {
	case api.Input:
		return not + m.Inputs[l.Number]
	case api.Least:
		return not + m.Counters[l.Number].Name + ">=" + strconv.Itoa(l.Value)
	}
	return not + m.Outputs[l.Number]
}
