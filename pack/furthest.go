package pack

import (
	"chaffcutter/api"
	"chaffcutter/set"
)

const noPlace = -1

// furthest: the greatest place of a text at which a byte was missed so far, and all bytes that were missed there.
type furthest struct {
	text   string
	at     int
	missed api.Set
}

// told hears of node, when it has been tried at at. Only sets and literals that fail miss a byte.
func (f *furthest) told(node *api.Expr, at int, out api.Outcome) {
	switch {
	case out.Ok:
		return
	case node.Kind == api.ESet:
		f.miss(at, node.Set)
	case node.Kind == api.ELit:
		n := alike(node.Text, f.text[at:])
		b := int(node.Text[n])
		f.miss(at+n, set.Range(b, b))
	}
}

// miss: one of those bytes was missed at at. If they are none, the place counts all the same.
func (f *furthest) miss(at int, bytes api.Set) {
	if at > f.at {
		f.at, f.missed = at, api.Set{}
	}
	if at == f.at {
		f.missed = set.Join(f.missed, bytes)
	}
}

// alike: how many bytes s and t have in common from their beginnings on.
func alike(s, t string) int {
	n := 0
	for n < len(s) && n < len(t) && s[n] == t[n] {
		n++
	}
	return n
}
