package mean

import (
	"fmt"
	"math"
	"math/rand"
	"slices"
	"strings"
	"testing"

	"chaffcutter/api"
	"chaffcutter/gram"
	"chaffcutter/set"
	"chaffcutter/well"
)

func of(kind int, kids ...api.Expr) api.Expr { return api.Expr{Kind: kind, Kids: kids} }

func lit(s string) api.Expr { return api.Expr{Kind: api.ELit, Text: s} }

func ref(s string) api.Expr { return api.Expr{Kind: api.ERef, Text: s} }

func bytesOf(s api.Set) api.Expr { return api.Expr{Kind: api.ESet, Set: s} }

func rule(name string, body api.Expr) api.Rule { return api.Rule{Name: name, Body: body} }

func rules(list ...api.Rule) api.Grammar { return api.Grammar{Rules: list} }

func load(t *testing.T, s string) api.Grammar {
	t.Helper()
	g, at, err := gram.Read(s)
	if err != api.OK {
		t.Fatalf("%s: %d at %d", s, err, at)
	}
	return g
}

func text(g api.Grammar) string {
	s, _ := gram.Print(g)
	return s
}

const fails = -1

// outcome: that of an expression that ends there, or fails.
func outcome(end int) api.Outcome {
	if end == fails {
		return api.Outcome{}
	}
	return api.Outcome{Ok: true, N: end}
}

// takes: that g on s ends so, in so many steps, whatever more are granted, and that one less is too few.
func takes(t *testing.T, g api.Grammar, s string, end, steps int) {
	t.Helper()
	for _, granted := range []int{steps, min(steps+1, api.MaxSteps), min(2*steps, api.MaxSteps), api.MaxSteps} {
		if out, n, err := Run(g, s, granted); out != outcome(end) || n != steps || err != api.OK {
			t.Errorf("of %q on %q with %d steps: %v, %d, %d, want %d, %d", text(g), s, granted, out, n, err, end, steps)
		}
	}
	for _, granted := range []int{0, steps / 2, steps - 1} {
		stops(t, g, s, granted, api.ErrSteps)
	}
}

// stops: that Run answers want, and nothing beside.
func stops(t *testing.T, g api.Grammar, s string, granted int, want api.Errno) {
	t.Helper()
	if out, n, err := Run(g, s, granted); out != (api.Outcome{}) || n != 0 || err != want {
		t.Errorf("of %q on %q with %d steps: %v, %d, %d, want %d", text(g), s, granted, out, n, err, want)
	}
}

func TestP25Look(t *testing.T) {
	g := load(t, "a <- 'a' a 'b' / ()")
	for n, want := range map[int]api.Errno{0: api.OK, 1: api.OK, 59: api.OK, 60: api.OK, 61: api.ErrLarge, 62: api.ErrLarge, 5000: api.ErrLarge, 1 << 20: api.ErrLarge} {
		for _, part := range []string{"a", "\x00", "\xff", "z"} {
			if err := Look(g, strings.Repeat(part, n)); err != want {
				t.Errorf("%d times %q: %d, want %d", n, part, err, want)
			}
		}
	}
	// Bytes are counted, not signs.
	if err := Look(g, strings.Repeat("\u00e9", 30)); err != api.OK {
		t.Errorf("60 bytes of 30 signs: %d", err)
	}
	if err := Look(g, strings.Repeat("\u00e9", 30)+"a"); err != api.ErrLarge {
		t.Errorf("61 bytes of 31 signs: %d", err)
	}
}

// wrong: grammars with what well.Well says of them.
func wrong() map[string]struct {
	g    api.Grammar
	want api.Errno
} {
	type row = struct {
		g    api.Grammar
		want api.Errno
	}
	x := rule("a", lit("x"))
	self := of(api.ESeq, make([]api.Expr, 8)...)
	for i := range self.Kids {
		self.Kids[i] = self
	}
	deep := lit("x")
	for range 12 {
		deep = of(api.EOpt, deep)
	}
	return map[string]row{
		"no rule":             {api.Grammar{}, api.ErrArg},
		"eleven rules":        {rules(slices.Repeat([]api.Rule{x}, 11)...), api.ErrLarge},
		"a million rules":     {rules(make([]api.Rule, 1<<20)...), api.ErrLarge},
		"a rule of no name":   {rules(x, rule("", lit("x"))), api.ErrName},
		"a rule twice":        {rules(x, x), api.ErrTwice},
		"a name of no rule":   {rules(x, rule("b", ref("c"))), api.ErrName},
		"in no form":          {rules(x, rule("b", of(api.EStar))), api.ErrForm},
		"no kind":             {rules(rule("a", api.Expr{})), api.ErrForm},
		"13 deep":             {rules(rule("a", deep)), api.ErrDeep},
		"itself within":       {rules(rule("a", self)), api.ErrDeep},
		"again and again":     {rules(rule("a", of(api.EStar, of(api.EEmpty)))), api.ErrLoop},
		"behind one":          {rules(x, rule("b", of(api.EPlus, of(api.ENot, ref("a"))))), api.ErrLoop},
		"to itself":           {rules(rule("a", of(api.EAlt, ref("a"), lit("x")))), api.ErrLeft},
		"to itself, not come": {rules(x, rule("b", of(api.ENot, ref("b")))), api.ErrLeft},
	}
}

// TestP25WrongGrammars: what is wrong with the grammar is told ahead of a text that is too large, and that ahead of steps that can't be granted.
func TestP25WrongGrammars(t *testing.T) {
	for about, x := range wrong() {
		if _, err := well.Well(x.g); err != x.want {
			t.Fatalf("%s: Well = %d, want %d", about, err, x.want)
		}
		for _, s := range []string{"", "x", strings.Repeat("x", 61)} {
			if err := Look(x.g, s); err != x.want {
				t.Errorf("%s: Look = %d, want %d", about, err, x.want)
			}
			for _, granted := range []int{-1, 0, 1, 100, api.MaxSteps, api.MaxSteps + 1} {
				if out, n, err := Run(x.g, s, granted); out != (api.Outcome{}) || n != 0 || err != x.want {
					t.Errorf("%s: Run = %v, %d, %d, want %d", about, out, n, err, x.want)
				}
			}
		}
	}
	for _, granted := range []int{math.MinInt, -1, 0, 1, api.MaxSteps, api.MaxSteps + 1, math.MaxInt} {
		stops(t, load(t, "a <- ()"), strings.Repeat("x", 61), granted, api.ErrLarge)
	}
}

// TestP26EachKind: of each kind where it ends, or that it fails, and the steps that P27 counts.
func TestP26EachKind(t *testing.T) {
	for _, x := range []struct {
		body, s    string
		end, steps int
	}{
		{"()", "", 0, 1}, {"()", "x", 0, 1}, {"''", "x", 0, 1},
		{"[x]", "", fails, 1}, {"[x]", "x", 1, 1}, {"[x]", "xx", 1, 1}, {"[x]", "yx", fails, 1}, {"[]", "x", fails, 1}, {"[]", "", fails, 1}, {".", "", fails, 1}, {".", "\x00", 1, 1}, {".", "\xff", 1, 1},
		{"'x'", "", fails, 1}, {"'x'", "x", 1, 1}, {"'x'", "xy", 1, 1}, {"'x'", "yx", fails, 1}, {"'xyz'", "xy", fails, 1}, {"'xyz'", "xyz", 3, 1}, {"'xyz'", "xyzxyz", 3, 1}, {"'xyz'", "xxyz", fails, 1}, {"'xyz'", "xya", fails, 1},
		{"'\\x00\\n\\xff'", "\x00\n\xff", 3, 1}, {"'123456789012'", "1234567890123", 12, 1},
		{"'a' 'b' 'c'", "abc", 3, 4}, {"'a' 'b' 'c'", "abcd", 3, 4}, {"'a' 'b' 'c'", "abd", fails, 4}, {"'a' 'b' 'c'", "ac", fails, 3}, {"'a' 'b' 'c'", "b", fails, 2}, {"'a' 'b' 'c'", "", fails, 2}, {"() ()", "", 0, 3}, {". . . . . . . .", "12345678", 8, 9},
		{"'a' / 'b' / ()", "a", 1, 2}, {"'a' / 'b' / ()", "b", 1, 3}, {"'a' / 'b' / ()", "c", 0, 4}, {"'a' / 'b'", "c", fails, 3}, {"'x' / 'xy'", "xy", 1, 2}, {"'xy' / 'x'", "xy", 2, 2}, {"() / 'x'", "x", 0, 2},
		{"'a' / 'b' / 'c' / 'd' / 'e' / 'f' / 'g' / 'h'", "h", 1, 9},
		{"'x'*", "", 0, 2}, {"'x'*", "xxx", 3, 5}, {"'x'*", "xxyx", 2, 4}, {"('x' 'y')*", "xyx", 2, 7}, {"[]*", "x", 0, 2},
		{"'x'+", "", fails, 2}, {"'x'+", "xxx", 3, 5}, {"'x'+", "xxyx", 2, 4}, {"'x'+", "y", fails, 2}, {"('x' 'y')+", "xyx", 2, 7}, {"('x' 'y')+", "x", fails, 4}, {"[]+", "x", fails, 2},
		{"'x'?", "", 0, 2}, {"'x'?", "xx", 1, 2}, {"'x'?", "y", 0, 2}, {"('x' 'y')?", "xx", 0, 4}, {"()?", "x", 0, 2},
		{"&'x'", "x", 0, 2}, {"&'x'", "", fails, 2}, {"&'x'", "y", fails, 2}, {"&()", "x", 0, 2}, {"&('x' 'y')", "xx", fails, 4},
		{"!'x'", "x", fails, 2}, {"!'x'", "", 0, 2}, {"!'x'", "y", 0, 2}, {"!()", "x", fails, 2}, {"!('x' 'y')", "xx", 0, 4}, {"!!'x'", "x", 0, 3}, {"!!'x'", "y", fails, 3},
	} {
		takes(t, load(t, "a <- "+x.body), x.s, x.end, x.steps)
	}
}

// TestP26WithinOthers: what ends where the one ahead did, what is left out, and to what there is no way back.
func TestP26WithinOthers(t *testing.T) {
	for _, x := range []struct {
		g, s       string
		end, steps int
	}{
		{"a <- 'a' a 'b' / ()", "ab", 2, 9}, {"a <- 'a' a 'b' / ()", "", 0, 4}, {"a <- 'a' a 'b' / ()", "aabb", 4, 14}, {"a <- 'a' a 'b' / ()", "aab", 0, 15}, {"a <- 'a' a 'b' / ()", "abb", 2, 9},
		{"a <- 'x'* 'x'", "xx", fails, 6}, {"a <- 'x'? 'x'", "x", fails, 4}, {"a <- ('x' / 'xy') 'z'", "xyz", fails, 4}, {"a <- ('xy' / 'x') 'z'", "xz", 2, 5},
		{"a <- &'x' 'xy'", "xy", 2, 4}, {"a <- !'y' 'x'", "xy", 1, 4}, {"a <- (!'b' .)*", "aab", 2, 12}, {"a <- 'x' !.", "x", 1, 4}, {"a <- 'x' !.", "xx", fails, 4},
		{"a <- 'x' 'y' / 'x' 'z'", "xz", 2, 7}, {"a <- ('x' 'y')? 'x' 'z'", "xz", 2, 7}, {"a <- ('x' 'y')* 'x' 'z'", "xyxz", 4, 10}, {"a <- &('x' 'y') 'x'", "xy", 1, 6}, {"a <- ('x'+ 'y')+", "xyxxyx", 5, 17},
		{"a <- b b  b <- 'x'", "xx", 2, 5}, {"a <- b / b / b  b <- 'x'", "y", fails, 7}, {"a <- b*  b <- 'x'", "xx", 2, 7}, {"b <- 'x'  a <- b b", "xx", 1, 1}, {"a <- b  b <- c  c <- 'x'", "x", 1, 3},
		// Each time anew.
		{"a <- b 'y' / b 'z'  b <- 'x' 'x'", "xxz", 3, 13}, {"a <- &b b  b <- 'x'", "x", 1, 6},
	} {
		takes(t, load(t, x.g), x.s, x.end, x.steps)
	}
}

// TestP26SetsByte: each byte as a text, and as a set.
func TestP26SetsByte(t *testing.T) {
	for low := 0; low < 256; low += 15 {
		for b := range 256 {
			end := fails
			if low <= b && b < low+70 {
				end = 1
			}
			s := string([]byte{byte(b)})
			takes(t, rules(rule("a", bytesOf(set.Range(low, low+69)))), s, end, 1)
			takes(t, rules(rule("a", lit(s))), s, 1, 1)
			takes(t, rules(rule("a", lit(s))), string([]byte{byte(b) + 1}), fails, 1)
		}
	}
}

func TestP27Steps(t *testing.T) {
	g := load(t, "a <- 'a' a 'b' / ()")
	for _, granted := range []int{math.MinInt, math.MinInt32, -1 << 20, -1, api.MaxSteps + 1, 1 << 21, 1 << 31, 1 << 32, math.MaxInt} {
		stops(t, g, "", granted, api.ErrArg)
		stops(t, g, "ab", granted, api.ErrArg)
	}
	for granted := range 9 {
		stops(t, g, "ab", granted, api.ErrSteps)
	}
	for _, granted := range []int{9, 10, 99, api.MaxSteps} {
		if out, n, err := Run(g, "ab", granted); out != outcome(2) || n != 9 || err != api.OK {
			t.Errorf("with %d steps: %v, %d, %d", granted, out, n, err)
		}
	}
}

// TestP27AllSteps: on n signs x rule a takes 16 times 2^n steps less 10; b adds 9 to that, and its end the rest.
func TestP27AllSteps(t *testing.T) {
	const twice = "  a <- 'x' a 'y' / 'x' a 'z' / ()"
	for n := range 17 {
		takes(t, load(t, "b <- a () () () () () () ()"+twice), strings.Repeat("x", n), 0, 16<<n-1)
	}
	takes(t, load(t, "b <- a () () () () () () ()?"+twice), strings.Repeat("x", 16), 0, api.MaxSteps)
	stops(t, load(t, "b <- a () () () () () () ()??"+twice), strings.Repeat("x", 16), api.MaxSteps, api.ErrSteps)
	stops(t, load(t, "b <- a () () () () () () []"+twice), strings.Repeat("x", 17), api.MaxSteps, api.ErrSteps)
	stops(t, load(t, "b <- !a*"+strings.ReplaceAll(twice, "()", "'x'")), strings.Repeat("x", 60), api.MaxSteps, api.ErrSteps)
}

// came: where something ends, or fails, and in how many steps.
type came struct{ end, steps int }

func (c came) then(next func(at int) came) came {
	if c.end == fails {
		return c
	}
	more := next(c.end)
	return came{more.end, c.steps + more.steps}
}

func (c came) orElse(next func() came) came {
	if c.end != fails {
		return c
	}
	more := next()
	return came{more.end, c.steps + more.steps}
}

// telling: P26 and P27 told a second time.
type telling struct {
	g api.Grammar
	s string
}

func (y telling) of(e api.Expr, at int) came {
	c := y.within(e, at)
	return came{c.end, c.steps + 1}
}

func (y telling) within(e api.Expr, at int) came {
	here := func() came { return came{at, 0} }
	switch e.Kind {
	case api.EEmpty:
		return here()
	case api.ESet, api.ELit:
		return came{end: y.leaf(e, at)}
	case api.ERef:
		return y.of(y.g.Rules[slices.IndexFunc(y.g.Rules, func(r api.Rule) bool { return r.Name == e.Text })].Body, at)
	case api.ESeq:
		return y.sequence(e.Kids, at)
	case api.EAlt:
		return y.alternative(e.Kids, at)
	case api.EStar:
		return y.star(e.Kids[0], at)
	}
	kid := y.of(e.Kids[0], at)
	switch {
	case e.Kind == api.EPlus:
		return kid.then(func(at int) came { return y.star(e.Kids[0], at) })
	case e.Kind == api.EOpt:
		return kid.orElse(here)
	case (e.Kind == api.EAnd) == (kid.end != fails):
		return came{at, kid.steps}
	}
	return came{fails, kid.steps}
}

func (y telling) leaf(e api.Expr, at int) int {
	if e.Kind == api.ESet && at < len(y.s) && strings.IndexByte(set.Bytes(e.Set), y.s[at]) >= 0 {
		return at + 1
	}
	if to := at + len(e.Text); e.Kind == api.ELit && to <= len(y.s) && y.s[at:to] == e.Text {
		return to
	}
	return fails
}

func (y telling) sequence(kids []api.Expr, at int) came {
	if len(kids) == 0 {
		return came{at, 0}
	}
	return y.of(kids[0], at).then(func(at int) came { return y.sequence(kids[1:], at) })
}

func (y telling) alternative(kids []api.Expr, at int) came {
	if len(kids) == 0 {
		return came{fails, 0}
	}
	return y.of(kids[0], at).orElse(func() came { return y.alternative(kids[1:], at) })
}

func (y telling) star(kid api.Expr, at int) came {
	return y.of(kid, at).then(func(at int) came { return y.star(kid, at) }).orElse(func() came { return came{at, 0} })
}

// heldAgainst: of g on each text the answers of Run, if it is well. It tells how many there were.
func heldAgainst(t *testing.T, g api.Grammar, texts []string) int {
	t.Helper()
	if _, err := well.Well(g); err != api.OK {
		return 0
	}
	for _, s := range texts {
		want := telling{g, s}.of(g.Rules[0].Body, 0)
		out, n, err := Run(g, s, api.MaxSteps)
		if out != outcome(want.end) || n != want.steps || err != api.OK {
			t.Fatalf("of %q on %q: %v, %d, %d, want %v", text(g), s, out, n, err, want)
		}
		stops(t, g, s, n-1, api.ErrSteps)
	}
	return len(texts)
}

// upTo: all expressions of n nodes, for n up to size, of these leaves; no sequence has more than two Kids.
func upTo(size int, leaves ...api.Expr) []api.Expr {
	bySize := [][]api.Expr{nil, leaves}
	for n := 2; n <= size; n++ {
		var all []api.Expr
		for kind := api.EStar; kind <= api.ENot; kind++ {
			for _, kid := range bySize[n-1] {
				all = append(all, of(kind, kid))
			}
		}
		for left := 1; left < n-1; left++ {
			for _, a := range bySize[left] {
				for _, b := range bySize[n-1-left] {
					all = append(all, of(api.ESeq, a, b), of(api.EAlt, a, b))
				}
			}
		}
		bySize = append(bySize, all)
	}
	return slices.Concat(bySize...)
}

// TestP27AllSmallGrammars: one rule of up to four nodes, and two of up to three.
func TestP27AllSmallGrammars(t *testing.T) {
	texts := []string{"", "x", "y", "xx", "xy", "yx", "xxx", "xyx", "xxy", "xyxy"}
	held := 0
	for _, e := range upTo(4, of(api.EEmpty), bytesOf(set.Range('x', 'y')), lit("x"), lit("xy"), ref("a")) {
		held += heldAgainst(t, rules(rule("a", e)), texts)
	}
	all := upTo(3, of(api.EEmpty), lit("x"), ref("a"), ref("b"))
	for _, e := range all {
		for _, f := range all {
			held += heldAgainst(t, rules(rule("a", e), rule("b", f)), texts)
		}
	}
	if held < 50000 {
		t.Errorf("%d only", held)
	}
}

// anyExpr: one of at most that depth.
func anyExpr(r *rand.Rand, deep int, names string) api.Expr {
	kind := 1 + r.Intn(11)
	if deep == 1 {
		kind = 1 + r.Intn(4)
	}
	switch kind {
	case api.ESet:
		return bytesOf(set.Join(set.Range('x', 'x'+r.Intn(3)), set.Range('z', 'x'+r.Intn(5))))
	case api.ELit:
		return lit("xyzxxyz"[r.Intn(6):][:1+r.Intn(2)])
	case api.ERef:
		return ref(string(names[r.Intn(len(names))]))
	}
	n := map[int]int{api.EEmpty: 0, api.ESeq: 2 + r.Intn(3), api.EAlt: 2 + r.Intn(3)}
	kids, several := n[kind]
	if !several {
		kids = 1
	}
	e := of(kind)
	for range kids {
		e.Kids = append(e.Kids, anyExpr(r, deep-1, names))
	}
	return e
}

// TestP27ManyGrammars: greater ones, of four rules, the same at each run.
func TestP27ManyGrammars(t *testing.T) {
	r := rand.New(rand.NewSource(27))
	held := 0
	for range 20000 {
		var g api.Grammar
		for _, name := range "abcd" {
			g.Rules = append(g.Rules, rule(string(name), anyExpr(r, 4, "abcd")))
		}
		var texts []string
		for range 4 {
			s := make([]byte, r.Intn(7))
			for i := range s {
				s[i] = "xyz"[r.Intn(3)]
			}
			texts = append(texts, string(s))
		}
		held += heldAgainst(t, g, texts)
	}
	if held < 5000 {
		t.Errorf("%d only", held)
	}
}

// TestP1DeepGrammars: as many nodes as can be under way at once, and steps that run out there.
func TestP1DeepGrammars(t *testing.T) {
	var g api.Grammar
	for i := range 10 {
		e := of(api.ESeq, lit("x"), ref("r0"))
		if i < 9 {
			e = ref(fmt.Sprint("r", i+1))
		}
		for range 10 {
			e = of(api.EOpt, e)
		}
		g.Rules = append(g.Rules, rule(fmt.Sprint("r", i), e))
	}
	// At each of 61 places nine rules have eleven nodes that are tried, and the last one has 12, and the name; at the end of the text that is not tried.
	s := strings.Repeat("x", 60)
	takes(t, g, s, 60, 61*(9*11+12)+60)
	for _, granted := range []int{1, 10, 1000, 6000} {
		stops(t, g, s, granted, api.ErrSteps)
	}
}

// TestP2NothingIsChanged: rules with spare room behind them, held against what they were.
func TestP2NothingIsChanged(t *testing.T) {
	kids := []api.Expr{lit("x"), ref("b"), ref("spare"), ref("room")}[:2]
	g := rules(rule("a", of(api.EAlt, of(api.ESeq, kids...), lit("y"))), rule("b", of(api.EOpt, lit("y"))), rule("spare", ref("room")))
	g.Rules = g.Rules[:2]
	want := fmt.Sprint(g.Rules[:3], kids[:4])
	if err := Look(g, "xy"); err != api.OK {
		t.Error(err)
	}
	takes(t, g, "xy", 2, 6)
	if got := fmt.Sprint(g.Rules[:3], kids[:4]); got != want {
		t.Errorf("%s, was %s", got, want)
	}
}

// TestP2NothingIsKept: what is answered does not hang on what was asked ahead, one with an error included.
func TestP2NothingIsKept(t *testing.T) {
	g, h := load(t, "a <- 'a' a 'b' / ()"), load(t, "a <- 'x' a / 'x' a 'y' / 'x'")
	for range 3 {
		takes(t, g, "ab", 2, 9)
		stops(t, h, strings.Repeat("x", 60), 10, api.ErrSteps)
		stops(t, api.Grammar{}, "ab", 9, api.ErrArg)
		takes(t, h, "x", 1, 20)
	}
}
