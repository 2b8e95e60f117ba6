package pack

import (
	"chaffcutter/api"
	"chaffcutter/gram"
	"chaffcutter/mean"
)

// spot: a rule at a place.
type spot struct{ rule, at int }

// memory: what came of rules at places of a text, none of which is tried twice.
type memory struct {
	grammar api.Grammar
	trier   mean.Trier
	known   map[spot]api.Outcome
	steps   []api.Step // what is known, in the order in which it came to be
}

// newMemory: nothing is known yet of g on s; told, if it is one, is told of each node when it has been tried.
func newMemory(g api.Grammar, s string, told func(node *api.Expr, at int, out api.Outcome)) *memory {
	m := &memory{grammar: g, known: map[spot]api.Outcome{}}
	m.trier = mean.Trier{Text: s, Rule: m.named, Told: told}
	return m
}

func (m *memory) named(name string, at int) api.Outcome {
	return m.rule(gram.Find(m.grammar, name), at)
}

// rule: what comes of rule i at at.
func (m *memory) rule(i, at int) api.Outcome {
	here := spot{i, at}
	if out, again := m.known[here]; again {
		return out
	}
	out := m.trier.Try(&m.grammar.Rules[i].Body, at)
	m.known[here] = out
	m.steps = append(m.steps, api.Step{Rule: i, At: at, Out: out})
	return out
}
