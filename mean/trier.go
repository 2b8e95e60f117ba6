package mean

import (
	"strings"

	"chaffcutter/api"
	"chaffcutter/set"
)

// Trier tries expressions on a text. What comes of a rule that is named is for Rule to say, so that who remembers it need not try it again. Told, if there is one, is told of each node when it has been tried. Nodes are handed on by their addresses, for they are large and gone to again and again; nobody may change them.
type Trier struct {
	Text string
	Rule func(name string, at int) api.Outcome
	Told func(node *api.Expr, at int, out api.Outcome)
}

// Try: what comes of node at a place of the text. It must be a node of a grammar that is well: of others there may be no end.
func (t *Trier) Try(node *api.Expr, at int) api.Outcome {
	out := t.comesOf(node, at)
	if t.Told != nil {
		t.Told(node, at, out)
	}
	return out
}

func (t *Trier) comesOf(node *api.Expr, at int) api.Outcome {
	switch node.Kind {
	case api.EEmpty:
		return took(0)
	case api.ESet:
		return t.oneByte(node.Set, at)
	case api.ELit:
		return t.literal(node.Text, at)
	case api.ERef:
		return t.Rule(node.Text, at)
	case api.ESeq:
		return t.allOf(node.Kids, at)
	case api.EAlt:
		return t.firstOf(node.Kids, at)
	}
	return t.withKid(node.Kind, &node.Kids[0], at)
}

func (t *Trier) oneByte(s api.Set, at int) api.Outcome {
	if at == len(t.Text) || !set.Has(s, t.Text[at]) {
		return failed()
	}
	return took(1)
}

func (t *Trier) literal(text string, at int) api.Outcome {
	if !strings.HasPrefix(t.Text[at:], text) {
		return failed()
	}
	return took(len(text))
}

func (t *Trier) allOf(kids []api.Expr, at int) api.Outcome {
	n := 0
	for i := range kids {
		out := t.Try(&kids[i], at+n)
		if !out.Ok {
			return failed()
		}
		n += out.N
	}
	return took(n)
}

func (t *Trier) firstOf(kids []api.Expr, at int) api.Outcome {
	for i := range kids {
		if out := t.Try(&kids[i], at); out.Ok {
			return out
		}
	}
	return failed()
}

// withKid: what comes of a node of that kind whose only Kid is kid.
func (t *Trier) withKid(kind int, kid *api.Expr, at int) api.Outcome {
	first := t.Try(kid, at)
	switch kind {
	case api.EStar:
		return t.goOn(kid, at, first)
	case api.EPlus:
		if first.Ok {
			return t.goOn(kid, at, first)
		}
	case api.EOpt:
		// A Kid that fails took no byte, so N is right for that too.
		return took(first.N)
	case api.EAnd:
		return api.Outcome{Ok: first.Ok}
	case api.ENot:
		return api.Outcome{Ok: !first.Ok}
	}
	return failed()
}

// goOn: what comes of kid again and again, if first came of it at at.
func (t *Trier) goOn(kid *api.Expr, at int, first api.Outcome) api.Outcome {
	n := 0
	for out := first; out.Ok; out = t.Try(kid, at+n) {
		n += out.N
	}
	return took(n)
}

func took(n int) api.Outcome {
	return api.Outcome{Ok: true, N: n}
}

func failed() api.Outcome {
	return api.Outcome{}
}
