package well

import (
	"fmt"
	"slices"
	"strings"
	"testing"

	"chaffcutter/api"
	"chaffcutter/gram"
	"chaffcutter/set"
	"chaffcutter/show"
)

func of(kind int, kids ...api.Expr) api.Expr { return api.Expr{Kind: kind, Kids: kids} }

func lit(s string) api.Expr { return api.Expr{Kind: api.ELit, Text: s} }

func ref(s string) api.Expr { return api.Expr{Kind: api.ERef, Text: s} }

func bytesOf(s api.Set) api.Expr { return api.Expr{Kind: api.ESet, Set: s} }

func empty() api.Expr { return of(api.EEmpty) }

func rule(name string, body api.Expr) api.Rule { return api.Rule{Name: name, Body: body} }

func rules(list ...api.Rule) api.Grammar { return api.Grammar{Rules: list} }

func load(t *testing.T, s string) api.Grammar {
	t.Helper()
	g, at, err := gram.Read(s)
	if err != api.OK {
		t.Fatalf("%s: %d at %d", s, err, at)
	}
	return g
}

// What may come of an expression, a letter each; facts are told as a text of them, in this order.
const (
	empties = 'e'
	eats    = 'a'
	fails   = 'f'
)

func letters(f api.Facts) string {
	var s string
	for _, c := range []struct {
		may    bool
		letter rune
	}{{f.Empty, empties}, {f.Eats, eats}, {f.Fails, fails}} {
		if c.may {
			s += string(c.letter)
		}
	}
	return s
}

// inOrder: the letters of s, each once, in the order of letters.
func inOrder(s string) string {
	return letters(api.Facts{Empty: strings.ContainsRune(s, empties), Eats: strings.ContainsRune(s, eats), Fails: strings.ContainsRune(s, fails)})
}

// hasFacts: that the rules of s have these facts.
func hasFacts(t *testing.T, s string, want ...string) {
	t.Helper()
	l, err := Facts(load(t, s))
	var got []string
	for _, f := range l {
		got = append(got, letters(f))
	}
	if !slices.Equal(got, want) || err != api.OK {
		t.Errorf("Facts of %s = %q, %d, want %q", s, got, err, want)
	}
}

// is: that Well answers so of s.
func is(t *testing.T, s string, wantRule int, want api.Errno) {
	t.Helper()
	if i, err := Well(load(t, s)); i != wantRule || err != want {
		t.Errorf("Well of %s = %d, %d, want %d, %d", s, i, err, wantRule, want)
	}
}

func TestP23Leaves(t *testing.T) {
	hasFacts(t, "a <- ()", "e")
	hasFacts(t, "a <- ''", "e")
	hasFacts(t, "a <- 'x'", "af")
	hasFacts(t, "a <- '123456789012'", "af")
	hasFacts(t, "a <- [x]", "af")
	// At the end of a text there is no byte.
	hasFacts(t, "a <- .", "af")
	hasFacts(t, "a <- []", "f")
	for b := range 256 {
		l, err := Facts(rules(rule("a", bytesOf(set.Range(b, b)))))
		if len(l) != 1 || letters(l[0]) != "af" || err != api.OK {
			t.Errorf("a set of byte %d: %v, %d", b, l, err)
		}
	}
}

func TestP23Ordinary(t *testing.T) {
	hasFacts(t, "a <- 'a' a 'b' / ()", "ea")
	hasFacts(t, "a <- 'x' a / b\nb <- !'y'\nc <- b c1*\nc1 <- .", "eaf", "ef", "eaf", "af")
	hasFacts(t, "sum <- num ('+' num)*\nnum <- [0-9]+ / '(' sum ')'", "af", "af")
	hasFacts(t, "list <- (item ',')* item?\nitem <- !',' .", "ea", "af")
	hasFacts(t, "a <- &b 'x'  b <- c+  c <- !d  d <- .*", "f", "f", "f", "ea")
	hasFacts(t, "a <- 'x'?  b <- 'x'*  c <- 'x'+  d <- &'x'  e <- !'x'", "ea", "ea", "af", "ef", "ef")
}

// TestP23TheLeast: rules that come to themselves may do no more than what follows.
func TestP23TheLeast(t *testing.T) {
	for s, want := range map[string]string{
		"a": "", "a a": "", "a / a": "", "a*": "", "a+": "", "&a": "", "!a": "", "!!a": "", "a 'x'": "", "a / 'x'": "", "a / ()": "",
		// A rule of which nothing is known is not known to fail either, so nothing may be left out.
		"a?": "", "(a 'x')*": "", "(a 'x')?": "", "'x'? a": "", "'x'* a": "", "() a": "", "'x' a / a": "",
		"'x' a": "f", "'x' a a": "f", "'x' !a": "af", "'x' a 'y'": "f", "'x' a*": "af", "'x' a?": "af", "[] a": "f", "&'x' a": "f", "('x' a)+": "f",
		"'x' / a": "a", "'x' a / 'y'": "af", "'x' a / 'y' a": "f", "'x' a / !'y'": "eaf", "[] a / 'x'": "af",
		"'x' a / ()": "ea", "('x' a)*": "ea", "('x' a)?": "ea", "&'x' a / ()": "e", "!'x' a / 'y'": "af", "!('x' a)": "ef", "!('x' a) 'y'": "af",
	} {
		hasFacts(t, "a <- "+s, want)
	}
	hasFacts(t, "a <- b  b <- a", "", "")
	hasFacts(t, "a <- !b  b <- !a", "", "")
	hasFacts(t, "a <- b / 'x'  b <- 'y' / a", "a", "a")
	hasFacts(t, "a <- 'x' b  b <- a / ()  c <- c / a", "af", "ea", "")
}

// TestP23FromRuleToRule: what follows goes through all rules, whichever way they stand.
func TestP23FromRuleToRule(t *testing.T) {
	for last, want := range map[string]string{"()": "e", "'x'": "af", "[]": "f", "'x'*": "ea", "!'x'": "ef", "'x' / !'y'": "eaf", "'x' / j": "a", "j": ""} {
		all := slices.Repeat([]string{want}, 10)
		hasFacts(t, "a <- b b <- c c <- d d <- e e <- f f <- g g <- h h <- i i <- j j <- "+last, all...)
		hasFacts(t, "j <- "+last+" a <- j b <- a c <- b d <- c e <- d f <- e g <- f h <- g i <- h", all...)
		hasFacts(t, "a <- j c <- b e <- d g <- f i <- h b <- a d <- c f <- e h <- g j <- "+last, all...)
	}
}

// eight: rules of which each may do something else, and what.
var (
	eight  = "n0 <- n0  n1 <- ()  n2 <- 'x' / n2  n3 <- []  n4 <- 'x'?  n5 <- !'x'  n6 <- 'x'  n7 <- 'x' / !'y'"
	mayBe8 = []string{"", "e", "a", "f", "ea", "ef", "af", "eaf"}
)

// comesOf: what may come of an expression of that kind, told a second time by what may come of its Kids.
func comesOf(kind int, kids []string) string {
	first := kids[0]
	if len(kids) > 1 {
		others := comesOf(kind, kids[1:])
		if kind == api.ESeq {
			return comesOfTwo(first, others)
		}
		return inOrder(strings.ReplaceAll(first, "f", others))
	}
	switch kind {
	case api.ESeq, api.EAlt:
		return first
	case api.EStar:
		return inOrder(strings.ReplaceAll(strings.ReplaceAll(first, "e", ""), "f", "e"))
	case api.EPlus:
		return comesOfTwo(first, comesOf(api.EStar, []string{first}))
	case api.EOpt:
		return inOrder(strings.ReplaceAll(first, "f", "e"))
	case api.EAnd:
		return inOrder(strings.ReplaceAll(first, "a", "e"))
	}
	return inOrder(strings.NewReplacer("e", "f", "a", "f", "f", "e").Replace(first))
}

// comesOfTwo: what may come of two, one behind the other.
func comesOfTwo(first, second string) string {
	var all string
	for _, x := range first {
		if x == fails {
			all += "f"
			continue
		}
		for _, y := range second {
			if x == eats && y == empties {
				y = eats
			}
			all += string(y)
		}
	}
	return inOrder(all)
}

// TestP23EachKind: each kind with Kids that may do all that there is.
func TestP23EachKind(t *testing.T) {
	hasFacts(t, eight, mayBe8...)
	g := load(t, eight)
	g.Rules = append(g.Rules, rule("t", empty()))
	tried := func(kind int, which ...int) {
		var kids []api.Expr
		var theirs []string
		for _, i := range which {
			kids = append(kids, ref(g.Rules[i].Name))
			theirs = append(theirs, mayBe8[i])
		}
		g.Rules[8].Body = of(kind, kids...)
		want := comesOf(kind, theirs)
		if l, err := Facts(g); err != api.OK || letters(l[8]) != want {
			t.Errorf("kind %d of %v: %v, %d, want %q", kind, which, l, err, want)
		}
	}
	for i := range 8 {
		for kind := api.EStar; kind <= api.ENot; kind++ {
			tried(kind, i)
		}
		for k := range 8 {
			tried(api.ESeq, i, k)
			tried(api.EAlt, i, k)
			for m := range 8 {
				tried(api.ESeq, i, k, m)
				tried(api.EAlt, i, k, m)
			}
		}
	}
	for n := range 3000 {
		var which []int
		for left := n * 104729; len(which) < 8; left /= 7 {
			which = append(which, left%8)
		}
		tried(api.ESeq, which...)
		tried(api.EAlt, which...)
	}
}

func TestP23Sentences(t *testing.T) {
	for s, want := range map[string]string{
		"n1 n1": "e", "n4 n4": "ea", "n1 n6": "af", "n6 n1": "af", "n6 n6": "af", "n6 n0": "f", "n0 n6": "", "n2 n0": "", "n2 n3": "f", "n4 n3": "f", "n3 n4": "f", "n5 n5": "ef", "n5 n4": "eaf", "n2 n1": "a", "n1 n2": "a", "n2 n5": "af",
		"n1 n1 n0": "", "n1 n1 n6": "af", "n1 n2 n1": "a", "n3 n0 n0": "f", "n2 n3 n0": "f", "n2 n0 n3": "", "n4 n4 n4 n4 n4 n4 n4 n5": "eaf",
		"n1 / n6": "e", "n6 / n1": "ea", "n2 / n3": "a", "n3 / n2": "a", "n3 / n3": "f", "n3 / n0": "", "n0 / n1": "", "n6 / n6": "af", "n5 / n2": "ea", "n5 / n3": "ef", "n4 / n3": "ea",
		"n6 / n3 / n1": "ea", "n6 / n2 / n1": "a", "n3 / n3 / n3 / n3 / n3 / n3 / n3 / n7": "eaf", "n3 / n0 / n1": "",
		"n1*": "", "n2*": "a", "n3*": "e", "n4*": "a", "n5*": "e", "n6*": "ea", "n7*": "ea", "n0*": "",
		"n1+": "", "n2+": "a", "n3+": "f", "n4+": "a", "n5+": "ef", "n6+": "af", "n7+": "eaf", "n0+": "",
		"n1?": "e", "n2?": "a", "n3?": "e", "n4?": "ea", "n5?": "e", "n6?": "ea", "n7?": "ea", "n0?": "",
		"&n1": "e", "&n2": "e", "&n3": "f", "&n4": "e", "&n5": "ef", "&n6": "ef", "&n7": "ef", "&n0": "",
		"!n1": "f", "!n2": "f", "!n3": "e", "!n4": "f", "!n5": "ef", "!n6": "ef", "!n7": "ef", "!n0": "",
		// In nodes that stand in nodes, as in rules.
		"(n6 / n1)*": "a", "!(n6 n1)+": "ef", "&(n3 / n2) n5?": "e", "(n6* n6)?": "ea", "!!n1": "e", "(n1 n3 / n1)+": "", "('x' / !'x' n3)+": "af",
	} {
		hasFacts(t, eight+" t <- "+s, append(slices.Clone(mayBe8), want)...)
	}
}

func TestP24Ordinary(t *testing.T) {
	for _, s := range []string{
		"a <- ()", "a <- ''", "a <- []", "a <- .", "a <- 'x'", "a <- 'a' a 'b' / ()", "a <- 'x' a / ()", "a <- 'x'*", "a <- ('x' / 'y')+", "a <- !'x' a1  a1 <- 'y'",
		"a <- 'x' b\nb <- &. a", "a <- 'x' a / b\nb <- !'y'\nc <- b c1*\nc1 <- .", "sum <- num ('+' num)*\nnum <- [0-9]+ / '(' sum ')'",
		"a <- b c  b <- 'x'  c <- a / d  d <- b* a1  a1 <- 'y' d", "a <- ('x'+ 'y')* !.", "a <- 'x'? b  b <- 'y' a", "a <- j b <- () c <- b d <- c e <- d f <- e g <- f h <- g i <- h j <- i",
	} {
		is(t, s, 0, api.OK)
	}
}

// TestP24Loop: an EStar or EPlus whose Kid may be Empty.
func TestP24Loop(t *testing.T) {
	for i, may := range mayBe8 {
		for _, form := range []string{"%s*", "%s+", "'y' %s*", "'y' / %s+", "!(%s*)", "&(%s+)", "(%s+ 'y')*", "('y' 'z'? (%s*)? / ())", "[] 'y' / !(&(() 'y' %s+) 'y')"} {
			s := eight + " t <- " + fmt.Sprintf(form, fmt.Sprint("n", i))
			if strings.Contains(may, "e") {
				is(t, s, 8, api.ErrLoop)
			} else {
				// There n0 and n2 come to themselves.
				is(t, s, 0, api.ErrLeft)
			}
		}
	}
	for _, s := range []string{"('x'?)*", "('x'*)*", "('x'*)+", "('x'?)+", "()*", "()+", "(!'x')*", "(&'x')+", "('x' / ())*", "([] / ())+", "('x'? 'y'?)*", "(('x'?)*)?", "!(()*)", "'x' ()*", "[] ()*", "'x' / ()*", "() / ()*", "('x' (()+)?)*", "((('x' / !'x')+)?)?"} {
		is(t, "a <- "+s, 0, api.ErrLoop)
		is(t, "a <- 'x'  b <- a  c <- "+s, 2, api.ErrLoop)
		is(t, "a <- 'x' c  b <- "+s+"  c <- b  d <- a", 1, api.ErrLoop)
	}
	for _, s := range []string{"('x' 'y'?)*", "('x'? 'y')*", "('x'+)*", "('x'+)+", "('x'*)?", "('x'+)?", "[]*", "[]+", "(() [])*", "([] / [])+", "([] ())*", "(!. .)*", "(&'x' 'x')+", "!('x'*)", "&'x'*", "'x'? 'y'? 'z'*", "(!() / 'x')*"} {
		is(t, "a <- "+s, 0, api.OK)
		is(t, "a <- 'x'  b <- a  c <- "+s, 0, api.OK)
	}
	// The Kid may be Empty by what a rule may, however far off and of whatever order.
	is(t, "a <- b*  b <- c  c <- d  d <- 'x'?", 0, api.ErrLoop)
	is(t, "d <- 'x'?  c <- d  b <- c  a <- b+", 3, api.ErrLoop)
	is(t, "a <- b*  b <- c  c <- d  d <- 'x'", 0, api.OK)
	is(t, "a <- 'x' a* / ()", 0, api.ErrLoop)
	is(t, "a <- 'x' a* / 'y'", 0, api.OK)
	// The first of two is told.
	is(t, "a <- 'x'  b <- c*  c <- 'x'?  d <- c+", 1, api.ErrLoop)
}

// TestP24Left: a rule that comes to itself ahead of all bytes.
func TestP24Left(t *testing.T) {
	for _, s := range []string{
		"a", "a 'x'", "a / 'x'", "'x' / a", "a*", "a+", "a?", "&a", "!a", "!!a", "() a", "() () a", "'x'? a", "'x'* a", "!'x' a", "&'x' a", "'x'? 'y'? a 'z'", "('x' / ()) a", "('x' / 'y') / a", "'x' / 'y' a / a", "[] / a", "() / a", "() / () / a", "(a)", "(a 'x') 'x'", "('x'? 'y'*) a",
		"!('x'? a)", "(('x' / a) 'y')*", "'x' / ('y' / (&(!'z' a)))", "'x' / ('y' / (!'z'+ a))",
	} {
		is(t, "a <- "+s, 0, api.ErrLeft)
		is(t, "b <- 'x'  c <- 'x' a  a <- "+s, 2, api.ErrLeft)
		is(t, "b <- 'x'  c <- a  a <- "+s, 1, api.ErrLeft)
		is(t, "b <- () c  c <- 'x'? a  a <- "+s, 0, api.ErrLeft)
		// By way of others.
		through := strings.NewReplacer("a", "b").Replace(s)
		is(t, "a <- "+through+"  b <- c / 'x'  c <- 'x'? a 'y'", 0, api.ErrLeft)
		is(t, "c <- 'x' a  b <- 'y' c / a  a <- "+through, 1, api.ErrLeft)
	}
	// What stands behind a Kid that is not Empty is not needed, whatever it is.
	for _, s := range []string{"'x' a", "'x' a a", "'x'? 'x' a", "'x' a*", "'x'+ a", ". a", "[] a", "[] a a / 'y'", "!() !a 'x' / 'x'", "'x' !a", "'x' (a / a)", "('x' / 'y') a", "('x' a) a", "'x' a / 'y' a", "() [] a", "('x' a)*", "!('x' a)", "&('x' a) 'y'", "(&'x' 'x') a", "('x'? / 'y' a)"} {
		is(t, "a <- "+s, 0, api.OK)
		is(t, "b <- 'x'? a  a <- "+s, 0, api.OK)
	}
	// A rule that is not well is told, and not one that has it where it is not needed.
	is(t, "a <- 'x' b\nb <- a? b", 1, api.ErrLeft)
	is(t, "a <- 'x' b\nb <- c? b\nc <- 'y'", 1, api.ErrLeft)
	is(t, "a <- 'x'  b <- b", 1, api.ErrLeft)
	is(t, "a <- 'x'  b <- c  c <- b", 1, api.ErrLeft)
	is(t, "a <- 'x' c  b <- 'x' c  c <- d  d <- c", 2, api.ErrLeft)
	is(t, "a <- j b <- a c <- b d <- c e <- d f <- e g <- f h <- g i <- h j <- i", 0, api.ErrLeft)
	is(t, "a <- 'x' j b <- 'x' c <- b d <- c e <- d f <- e g <- f h <- g i <- h j <- i? j", 9, api.ErrLeft)
	// A Kid that can do nothing is not Empty, but it must be well itself.
	is(t, "a <- 'x' b b  b <- 'x' b", 0, api.OK)
	is(t, "a <- b 'x' a  b <- b", 0, api.ErrLeft)
	is(t, "a <- (b / 'y') a  b <- 'x' b", 0, api.OK)
}

// TestP24LoopIsToldFirst: ErrLoop ahead of ErrLeft, in whichever rule.
func TestP24LoopIsToldFirst(t *testing.T) {
	is(t, "a <- a  b <- ()*", 1, api.ErrLoop)
	is(t, "a <- ()*  b <- b", 0, api.ErrLoop)
	is(t, "a <- a ()*", 0, api.ErrLoop)
	is(t, "a <- b  b <- a  c <- 'x'  d <- 'x' / c ('y' / (!'x')+)  e <- ()*", 3, api.ErrLoop)
	// Of a rule of which nothing is known nobody can say that it may be Empty.
	is(t, "a <- a*", 0, api.ErrLeft)
	is(t, "a <- (!a)+", 0, api.ErrLeft)
	is(t, "a <- 'x' (b*)  b <- b / ()", 1, api.ErrLeft)
	is(t, "a <- 'x' (b*)  b <- () / b", 0, api.ErrLoop)
}

// upTo: all expressions of n nodes, for n up to size, of these leaves; no sequence has more than two Kids.
func upTo(size int, leaves ...api.Expr) []api.Expr {
	bySize := [][]api.Expr{nil, leaves}
	for n := 2; n <= size; n++ {
		var all []api.Expr
		for kind := api.EStar; kind <= api.ENot; kind++ {
			for _, kid := range bySize[n-1] {
				all = append(all, of(kind, kid))
			}
		}
		for left := 1; left < n-1; left++ {
			for _, a := range bySize[left] {
				for _, b := range bySize[n-1-left] {
					all = append(all, of(api.ESeq, a, b), of(api.EAlt, a, b))
				}
			}
		}
		bySize = append(bySize, all)
	}
	return slices.Concat(bySize...)
}

// someGrammars: that look holds of every grammar of one rule of up to four nodes, and of two of up to three.
func someGrammars(t *testing.T, look func(t *testing.T, g api.Grammar)) {
	none, x := bytesOf(api.Set{}), lit("x")
	for _, e := range upTo(4, empty(), none, x, ref("a")) {
		look(t, rules(rule("a", e)))
	}
	all := upTo(3, empty(), x, ref("a"), ref("b"))
	for _, e := range all {
		for _, f := range all {
			if look(t, rules(rule("a", e), rule("b", f))); t.Failed() {
				return
			}
		}
	}
}

// leastOf: what may come of each rule, told a second time.
func leastOf(g api.Grammar) []string {
	known := make([]string, len(g.Rules))
	for {
		var more []string
		for _, r := range g.Rules {
			more = append(more, comes(g, known, r.Body))
		}
		if slices.Equal(more, known) {
			return known
		}
		known = more
	}
}

func comes(g api.Grammar, known []string, e api.Expr) string {
	switch e.Kind {
	case api.EEmpty:
		return "e"
	case api.ELit:
		return "af"
	case api.ESet:
		return map[bool]string{true: "f", false: "af"}[e.Set == api.Set{}]
	case api.ERef:
		return known[gram.Find(g, e.Text)]
	}
	var kids []string
	for _, kid := range e.Kids {
		kids = append(kids, comes(g, known, kid))
	}
	return comesOf(e.Kind, kids)
}

// needs: the rules that e needs.
func needs(g api.Grammar, known []string, e api.Expr) []int {
	if e.Kind == api.ERef {
		return []int{gram.Find(g, e.Text)}
	}
	var all []int
	for _, kid := range e.Kids {
		all = append(all, needs(g, known, kid)...)
		if e.Kind == api.ESeq && !strings.Contains(comes(g, known, kid), "e") {
			break
		}
	}
	return all
}

func hasLoop(g api.Grammar, known []string, e api.Expr) bool {
	return slices.ContainsFunc(e.Kids, func(kid api.Expr) bool {
		stays := (e.Kind == api.EStar || e.Kind == api.EPlus) && strings.Contains(comes(g, known, kid), "e")
		return stays || hasLoop(g, known, kid)
	})
}

// isLeft: whether from rule i on a way of needs comes to a rule that it has been at. As many steps as there are rules must.
func isLeft(g api.Grammar, known []string, i, steps int) bool {
	return steps == 0 || slices.ContainsFunc(needs(g, known, g.Rules[i].Body), func(k int) bool {
		return isLeft(g, known, k, steps-1)
	})
}

func blame(g api.Grammar, known []string) (int, api.Errno) {
	for i, r := range g.Rules {
		if hasLoop(g, known, r.Body) {
			return i, api.ErrLoop
		}
	}
	for i := range g.Rules {
		if isLeft(g, known, i, len(g.Rules)) {
			return i, api.ErrLeft
		}
	}
	return 0, api.OK
}

func text(g api.Grammar) string {
	s, _ := gram.Print(g)
	return s
}

func TestP23AllSmallGrammars(t *testing.T) {
	told := map[string]int{}
	someGrammars(t, func(t *testing.T, g api.Grammar) {
		l, err := Facts(g)
		var got []string
		for _, f := range l {
			got = append(got, letters(f))
			told[letters(f)]++
		}
		if want := leastOf(g); !slices.Equal(got, want) || err != api.OK {
			t.Errorf("Facts of %s = %q, %d, want %q", text(g), got, err, want)
		}
	})
	for _, may := range mayBe8 {
		if told[may] < 50 {
			t.Errorf("%q was told %d times only", may, told[may])
		}
	}
}

func TestP24AllSmallGrammars(t *testing.T) {
	type answer struct {
		rule int
		err  api.Errno
	}
	told := map[answer]int{}
	someGrammars(t, func(t *testing.T, g api.Grammar) {
		i, err := Well(g)
		if k, want := blame(g, leastOf(g)); i != k || err != want {
			t.Errorf("Well of %s = %d, %d, want %d, %d", text(g), i, err, k, want)
		}
		told[answer{i, err}]++
	})
	for _, a := range []answer{{0, api.OK}, {0, api.ErrLoop}, {1, api.ErrLoop}, {0, api.ErrLeft}, {1, api.ErrLeft}} {
		if told[a] < 100 {
			t.Errorf("%v was told %d times only", a, told[a])
		}
	}
}

// try: a text, and how many expressions may still be tried on it.
type try struct {
	g    api.Grammar
	s    string
	left int
}

const failed = -1

// end: where e ends that is tried at at, or failed.
func (y *try) end(e api.Expr, at int) int {
	if y.left--; y.left < 0 {
		panic("no end")
	}
	switch e.Kind {
	case api.EEmpty:
		return at
	case api.ESet:
		if at == len(y.s) || !set.Has(e.Set, y.s[at]) {
			return failed
		}
		return at + 1
	case api.ELit:
		if !strings.HasPrefix(y.s[at:], e.Text) {
			return failed
		}
		return at + len(e.Text)
	case api.ERef:
		return y.end(y.g.Rules[gram.Find(y.g, e.Text)].Body, at)
	case api.ESeq:
		for _, kid := range e.Kids {
			if at = y.end(kid, at); at == failed {
				break
			}
		}
		return at
	case api.EAlt:
		for _, kid := range e.Kids {
			if to := y.end(kid, at); to != failed {
				return to
			}
		}
		return failed
	}
	return y.endOfOne(e, at)
}

func (y *try) endOfOne(e api.Expr, at int) int {
	to := y.end(e.Kids[0], at)
	switch {
	case e.Kind == api.EAnd && to != failed, e.Kind == api.ENot && to == failed, e.Kind == api.EOpt && to == failed, e.Kind == api.EStar && to == failed:
		return at
	case e.Kind == api.ENot:
		return failed
	case e.Kind == api.EOpt || e.Kind == api.EAnd || to == failed:
		return to
	}
	for to != failed {
		at, to = to, y.end(e.Kids[0], to)
	}
	return at
}

// TestP24WellComesToAnEnd: each grammar that is well ends at each place of some texts, and there each rule does what it may.
func TestP24WellComesToAnEnd(t *testing.T) {
	texts := []string{"", "x", "y", "xx", "xy", "yx", "xxx", "xyx", "xxxx"}
	done := map[rune]int{}
	someGrammars(t, func(t *testing.T, g api.Grammar) {
		if _, err := Well(g); err != api.OK {
			return
		}
		facts, _ := Facts(g)
		for i, r := range g.Rules {
			for _, s := range texts {
				for at := range len(s) + 1 {
					came := eats
					switch (&try{g, s, 10000}).end(r.Body, at) {
					case failed:
						came = fails
					case at:
						came = empties
					}
					if !strings.ContainsRune(letters(facts[i]), came) {
						t.Fatalf("rule %d at %d of %q: %c, Facts of %s = %v", i, at, s, came, text(g), facts)
					}
					done[came]++
				}
			}
		}
	})
	for came, n := range done {
		if n < 10000 {
			t.Errorf("%c came %d times only", came, n)
		}
	}
}

// TestP24NoEnd: of some that are told, that they go on for ever.
func TestP24NoEnd(t *testing.T) {
	for _, s := range []string{"a <- a 'x'", "a <- ('x'?)*", "a <- !a", "a <- 'x'? a", "a <- ()+", "a <- b / 'x'  b <- &'x' a", "a <- (!'y')*", "a <- &'x' a / a", "a <- ('x' / &())+"} {
		g := load(t, s)
		if _, err := Well(g); err != api.ErrLoop && err != api.ErrLeft {
			t.Errorf("Well of %s: %d", s, err)
		}
		func() {
			defer func() {
				if recover() == nil {
					t.Errorf("%s ends", s)
				}
			}()
			(&try{g, "x", 10000}).end(g.Rules[0].Body, 0)
		}()
	}
}

// refuses: that both calls answer want, and nothing beside.
func refuses(t *testing.T, g api.Grammar, want api.Errno) {
	t.Helper()
	if err := gram.Check(g); err != want || err == api.OK {
		t.Fatalf("Check = %d, want %d", err, want)
	}
	if l, err := Facts(g); len(l) != 0 || err != want {
		t.Errorf("Facts(%v) = %v, %d, want %d", g, l, err, want)
	}
	if i, err := Well(g); i != 0 || err != want {
		t.Errorf("Well(%v) = %d, %d, want %d", g, i, err, want)
	}
}

// nested: an expression that is that deep.
func nested(deep int) api.Expr {
	if deep == 1 {
		return lit("x")
	}
	return of(api.EPlus, nested(deep-1))
}

// TestP23P24WrongGrammars: what is wrong with the grammar is told ahead of what it may do.
func TestP23P24WrongGrammars(t *testing.T) {
	fine, loop, left := rule("a", lit("x")), rule("b", of(api.EStar, empty())), rule("c", ref("c"))
	refuses(t, api.Grammar{}, api.ErrArg)
	refuses(t, api.Grammar{Rules: []api.Rule{}}, api.ErrArg)
	refuses(t, api.Grammar{Rules: make([]api.Rule, 11)}, api.ErrLarge)
	refuses(t, api.Grammar{Rules: make([]api.Rule, 1<<20)}, api.ErrLarge)
	refuses(t, api.Grammar{Rules: make([]api.Rule, 10)}, api.ErrName)
	for _, c := range []struct {
		wrong api.Rule
		want  api.Errno
	}{
		{rule("", lit("x")), api.ErrName}, {rule("ninebytes", lit("x")), api.ErrName}, {rule("1", lit("x")), api.ErrName}, {rule("a", lit("x")), api.ErrTwice},
		{rule("d", ref("x")), api.ErrName}, {rule("d", ref("A")), api.ErrName}, {rule("d", ref("ninebytes")), api.ErrForm}, {rule("d", lit("")), api.ErrForm}, {rule("d", api.Expr{}), api.ErrForm},
		{rule("d", of(api.EStar)), api.ErrForm}, {rule("d", of(api.ESeq, empty())), api.ErrForm}, {rule("d", of(api.EAlt)), api.ErrForm}, {rule("d", of(12, empty())), api.ErrForm}, {rule("d", nested(13)), api.ErrDeep},
	} {
		refuses(t, rules(fine, c.wrong), c.want)
		refuses(t, rules(fine, loop, left, c.wrong), c.want)
		refuses(t, rules(left, loop, fine, c.wrong), c.want)
	}
	sixty := of(api.EAlt, of(api.ESeq, slices.Repeat([]api.Expr{lit("x")}, 8)...))
	for range 5 {
		sixty.Kids = append(sixty.Kids, sixty.Kids[0])
	}
	sixty.Kids = append(sixty.Kids, of(api.EAlt, lit("x"), of(api.EOpt, of(api.EOpt, lit("x")))))
	for _, kid := range []api.Expr{loop.Body, left.Body, empty()} {
		refuses(t, rules(rule("a", sixty), rule("b", sixty), rule("c", kid)), api.ErrLarge)
	}
	refuses(t, rules(rule("a", of(api.ESeq, sixty, sixty))), api.ErrLarge)
	if i, err := Well(rules(rule("a", sixty), rule("b", sixty))); i != 0 || err != api.OK {
		t.Errorf("Well of 120 nodes = %d, %d", i, err)
	}
}

// TestP1WhateverItIsGiven: expressions that have themselves as a part, and grammars at their bounds, are answered too.
func TestP1WhateverItIsGiven(t *testing.T) {
	self := of(api.ESeq, make([]api.Expr, 8)...)
	for i := range self.Kids {
		self.Kids[i] = self
	}
	refuses(t, rules(rule("a", self)), api.ErrDeep)
	refuses(t, rules(rule("a", lit("x")), rule("b", of(api.EStar, self))), api.ErrDeep)
	refuses(t, rules(rule("a", of(api.ESeq, make([]api.Expr, 1<<20)...))), api.ErrForm)
	var g api.Grammar
	for i := range 10 {
		g.Rules = append(g.Rules, rule(fmt.Sprint("r", i), nested(12)))
	}
	if i, err := Well(g); i != 0 || err != api.OK {
		t.Errorf("Well of %s = %d, %d", text(g), i, err)
	}
	for i := range g.Rules {
		e := ref(g.Rules[(i+1)%10].Name)
		for range 11 {
			e = of(api.EPlus, e)
		}
		g.Rules[i].Body = e
	}
	if i, err := Well(g); i != 0 || err != api.ErrLeft {
		t.Errorf("Well of %s = %d, %d", text(g), i, err)
	}
}

// TestP2NothingIsChanged: rules with spare room behind them, held against what they were.
func TestP2NothingIsChanged(t *testing.T) {
	kids := []api.Expr{ref("a"), ref("b"), ref("spare"), ref("room")}[:2]
	g := rules(rule("a", of(api.EAlt, lit("x"), of(api.ESeq, kids...))), rule("b", of(api.EOpt, lit("y"))), rule("spare", ref("room")))
	g.Rules = g.Rules[:2]
	want := fmt.Sprint(g.Rules[:3], kids[:4])
	one, _ := Facts(g)
	told := fmt.Sprint(one)
	if i, err := Well(g); i != 0 || err != api.ErrLeft {
		t.Errorf("Well of %s = %d, %d", text(g), i, err)
	}
	if got := fmt.Sprint(g.Rules[:3], kids[:4]); got != want {
		t.Errorf("%s, was %s", got, want)
	}
	clear(one[:cap(one)])
	if two, _ := Facts(g); fmt.Sprint(two) != told {
		t.Errorf("kept: %v, want %s", two, told)
	}
}

// TestP2NothingIsKept: what is answered does not hang on what was asked ahead.
func TestP2NothingIsKept(t *testing.T) {
	bodies := upTo(2, empty(), lit("x"), ref("a"), ref("b"))
	ask := func(i int) string {
		g := rules(rule("a", bodies[i]), rule("b", bodies[len(bodies)-1-i]))
		l, err := Facts(g)
		k, werr := Well(g)
		return fmt.Sprint(l, err, k, werr)
	}
	var ahead []string
	for i := range bodies {
		ahead = append(ahead, ask(i))
	}
	for i := range slices.Backward(bodies) {
		if got := ask(i); got != ahead[i] {
			body, _ := show.Print(bodies[i])
			t.Errorf("of %s: %s, was %s", body, got, ahead[i])
		}
	}
}
