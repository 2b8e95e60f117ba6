package well

import "chaffcutter/api"

// may: what e may do, if ofRule says what the rules that it names may.
func may(e api.Expr, ofRule func(name string) api.Facts) api.Facts {
	switch e.Kind {
	case api.EEmpty:
		return api.Facts{Empty: true}
	case api.ESet:
		return api.Facts{Eats: e.Set != api.Set{}, Fails: true}
	case api.ELit:
		return api.Facts{Eats: true, Fails: true}
	case api.ERef:
		return ofRule(e.Text)
	}
	kids := make([]api.Facts, len(e.Kids))
	for i, kid := range e.Kids {
		kids[i] = may(kid, ofRule)
	}
	return withKids(e.Kind, kids)
}

// withKids: what an expression of that kind may do, if its Kids, of which there is one at least, may do that.
func withKids(kind int, kids []api.Facts) api.Facts {
	first := kids[0]
	switch kind {
	case api.ESeq:
		return fold(kids, then)
	case api.EAlt:
		return fold(kids, orElse)
	case api.EStar:
		return again(first)
	case api.EPlus:
		return then(first, again(first))
	case api.EOpt:
		return orElse(first, api.Facts{Empty: true})
	case api.EAnd:
		return api.Facts{Empty: succeeds(first), Fails: first.Fails}
	case api.ENot:
		return api.Facts{Empty: first.Fails, Fails: succeeds(first)}
	}
	return api.Facts{}
}

// fold: the first of all with the others as one.
func fold(all []api.Facts, two func(first, second api.Facts) api.Facts) api.Facts {
	if len(all) == 1 {
		return all[0]
	}
	return two(all[0], fold(all[1:], two))
}

func then(first, second api.Facts) api.Facts {
	return api.Facts{
		Empty: first.Empty && second.Empty,
		Eats:  first.Eats && succeeds(second) || second.Eats && succeeds(first),
		Fails: first.Fails || succeeds(first) && second.Fails,
	}
}

func orElse(first, second api.Facts) api.Facts {
	return api.Facts{
		Empty: first.Empty || first.Fails && second.Empty,
		Eats:  first.Eats || first.Fails && second.Eats,
		Fails: first.Fails && second.Fails,
	}
}

// again: f repeated. It takes nothing only if f fails at once; whether f fails later on is not asked of what takes something.
func again(f api.Facts) api.Facts {
	return api.Facts{Empty: f.Fails, Eats: f.Eats}
}

func succeeds(f api.Facts) bool {
	return f.Empty || f.Eats
}
