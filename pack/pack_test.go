package pack

import (
	"fmt"
	"math"
	"math/rand"
	"slices"
	"strings"
	"testing"

	"chaffcutter/api"
	"chaffcutter/gram"
	"chaffcutter/mean"
	"chaffcutter/set"
	"chaffcutter/well"
)

func of(kind int, kids ...api.Expr) api.Expr { return api.Expr{Kind: kind, Kids: kids} }

func lit(s string) api.Expr { return api.Expr{Kind: api.ELit, Text: s} }

func ref(s string) api.Expr { return api.Expr{Kind: api.ERef, Text: s} }

func bytesOf(s api.Set) api.Expr { return api.Expr{Kind: api.ESet, Set: s} }

func rule(name string, body api.Expr) api.Rule { return api.Rule{Name: name, Body: body} }

func rules(list ...api.Rule) api.Grammar { return api.Grammar{Rules: list} }

func load(t *testing.T, s string) api.Grammar {
	t.Helper()
	g, at, err := gram.Read(s)
	if err != api.OK {
		t.Fatalf("%s: %d at %d", s, err, at)
	}
	return g
}

func text(g api.Grammar) string {
	s, _ := gram.Print(g)
	return s
}

const fails = -1

// outcome: that of an expression that takes n bytes, or fails.
func outcome(n int) api.Outcome {
	if n == fails {
		return api.Outcome{}
	}
	return api.Outcome{Ok: true, N: n}
}

// was: that n came of a rule at a place.
func was(rule, at, n int) api.Step {
	return api.Step{Rule: rule, At: at, Out: outcome(n)}
}

// remembers: that of g on s these steps are told, and the outcome of the last.
func remembers(t *testing.T, g api.Grammar, s string, want ...api.Step) {
	t.Helper()
	out, l, err := Run(g, s)
	if out != want[len(want)-1].Out || !slices.Equal(l, want) || err != api.OK {
		t.Errorf("of %q on %q: %v, %v, %d, want %v", text(g), s, out, l, err, want)
	}
}

func TestP28Ordinary(t *testing.T) {
	g := load(t, "a <- 'a' a 'b' / ()")
	remembers(t, g, "", was(0, 0, 0))
	remembers(t, g, "b", was(0, 0, 0))
	remembers(t, g, "ab", was(0, 1, 0), was(0, 0, 2))
	remembers(t, g, "aabb", was(0, 2, 0), was(0, 1, 2), was(0, 0, 4))
	remembers(t, g, "aab", was(0, 2, 0), was(0, 1, 2), was(0, 0, 0))
	remembers(t, load(t, "a <- 'x'"), "x", was(0, 0, 1))
	remembers(t, load(t, "a <- 'x'"), "y", was(0, 0, fails))
	remembers(t, load(t, "a <- ()"), "y", was(0, 0, 0))
}

// TestP28OnceAtAPlace: a rule that is named again at its place is not told again, whatever came of it; at another place it is.
func TestP28OnceAtAPlace(t *testing.T) {
	remembers(t, load(t, "a <- b 'y' / b 'z'  b <- 'x'"), "xz", was(1, 0, 1), was(0, 0, 2))
	remembers(t, load(t, "a <- b / b / b  b <- 'x'"), "y", was(1, 0, fails), was(0, 0, fails))
	remembers(t, load(t, "a <- &b !c b c?  b <- 'x'  c <- 'y'"), "xy", was(1, 0, 1), was(2, 0, fails), was(2, 1, 1), was(0, 0, 2))
	remembers(t, load(t, "a <- b b b  b <- 'x'?"), "x", was(1, 0, 1), was(1, 1, 0), was(0, 0, 1))
	remembers(t, load(t, "a <- b*  b <- 'x'"), "xxy", was(1, 0, 1), was(1, 1, 1), was(1, 2, fails), was(0, 0, 2))
	// Also when it was remembered within another one, or in what failed.
	remembers(t, load(t, "a <- 'x' a 'y' / 'x' a 'z' / c  c <- 'x'?"), "xxz", was(1, 2, 0), was(0, 2, 0), was(0, 1, 2), was(1, 0, 1), was(0, 0, 1))
	remembers(t, load(t, "a <- (b 'q')? !(c 'q') c  b <- c  c <- 'x'"), "x", was(2, 0, 1), was(1, 0, 1), was(0, 0, 1))
}

// TestP28Order: a rule is told when its Body has been tried, so behind those within it; by their numbers, not by their names.
func TestP28Order(t *testing.T) {
	remembers(t, load(t, "z <- b a  a <- c  b <- 'x' c  c <- 'y'?"), "xyy", was(3, 1, 1), was(2, 0, 2), was(3, 2, 1), was(1, 2, 1), was(0, 0, 3))
	remembers(t, load(t, "a <- b  b <- c  c <- d  d <- 'x' a / ()"), "x", was(3, 1, 0), was(2, 1, 0), was(1, 1, 0), was(0, 1, 0), was(3, 0, 1), was(2, 0, 1), was(1, 0, 1), was(0, 0, 1))
	// What is not tried is not told.
	remembers(t, load(t, "a <- 'x' / b  b <- c  c <- 'y'  d <- 'z'"), "x", was(0, 0, 1))
	remembers(t, load(t, "a <- 'x' b  b <- c  c <- 'y'"), "y", was(0, 0, fails))
}

// TestP28Heavy: each time anew there would be no end of it that anybody sees.
func TestP28Heavy(t *testing.T) {
	s := strings.Repeat("x", 60)
	for _, x := range []struct {
		g        string
		n, steps int
	}{
		{"a <- 'x' a 'b' / 'x' a 'c' / 'x'", 1, 61},
		// At the end of the text e fails, so there a1 is not tried.
		{"a <- &b &c &d &e &f a1 / !.  a1 <- . a  b <- 'x' b 'y' / c 'y' / d  c <- 'x' c 'z' / d 'z' / e  d <- 'x' d 'z' / e 'z' / f  e <- 'x' e 'z' / f 'z' / 'x'  f <- 'x' f 'q' / 'x' f 'r' / ()", 60, 61*6 + 60},
		{"a <- !a1 !a1 !a1 a1 / 'x' a / 'x' a / ()  a1 <- !b !b 'y' / 'x' a1  b <- 'x' b b / 'x' b 'z'", 60, 61 * 3},
	} {
		g := load(t, x.g)
		if _, _, err := mean.Run(g, s, api.MaxSteps); err != api.ErrSteps {
			t.Errorf("%s: anew %d", x.g, err)
		}
		out, l, err := Run(g, s)
		if out != outcome(x.n) || len(l) != x.steps || err != api.OK {
			t.Errorf("%s: %v, %d steps, %d", x.g, out, len(l), err)
		}
	}
}

func TestP29At(t *testing.T) {
	g := load(t, "a <- 'a' a 'b' / ()  b <- a 'c'  c <- 'abc' / .  d <- !.")
	for _, x := range []struct {
		rule  int
		s     string
		at, n int
	}{
		{0, "xab", 1, 2}, {0, "xab", 0, 0}, {0, "xab", 2, 0}, {0, "xab", 3, 0}, {0, "aabb", 0, 4}, {0, "aabb", 1, 2}, {0, "", 0, 0},
		{1, "abc", 0, 3}, {1, "abc", 1, fails}, {1, "abc", 2, 1}, {1, "abc", 3, fails}, {2, "abc", 0, 3}, {2, "abc", 1, 1}, {2, "abc", 3, fails}, {2, "xxabcx", 2, 3},
		{3, "", 0, 0}, {3, "x", 0, fails}, {3, "x", 1, 0}, {3, strings.Repeat("x", 60), 60, 0}, {3, strings.Repeat("x", 60), 59, fails},
	} {
		if out, err := At(g, x.rule, x.s, x.at); out != outcome(x.n) || err != api.OK {
			t.Errorf("rule %d at %d of %q: %v, %d, want %d", x.rule, x.at, x.s, out, err, x.n)
		}
	}
}

func TestP29NoSuchRuleOrPlace(t *testing.T) {
	g := load(t, "a <- 'a' b  b <- 'b'?")
	for _, s := range []string{"", "ab", strings.Repeat("ab", 30)} {
		for _, i := range []int{math.MinInt, -10, -2, -1, 0, 1, 2, 3, 10, 1 << 32, math.MaxInt} {
			for _, at := range []int{math.MinInt, -10, -1, 0, len(s), len(s) + 1, 61, 1 << 32, math.MaxInt} {
				want := api.ErrArg
				if (i == 0 || i == 1) && (at == 0 || at == len(s)) {
					want = api.OK
				}
				if out, err := At(g, i, s, at); err != want || want != api.OK && out != (api.Outcome{}) {
					t.Errorf("rule %d at %d of %q: %v, %d, want %d", i, at, s, out, err, want)
				}
			}
		}
	}
}

// missed: that of these rules on s that place is told, and these bytes.
func missed(t *testing.T, rules, s string, at int, bytes string) {
	t.Helper()
	n, c, err := Far(load(t, rules), s)
	if n != at || set.Bytes(c) != bytes || err != api.OK {
		t.Errorf("of %s on %q: %d, %q, %d, want %d, %q", rules, s, n, set.Bytes(c), err, at, bytes)
	}
}

func TestP30Sets(t *testing.T) {
	missed(t, "a <- [x-z]", "a", 0, "xyz")
	missed(t, "a <- [x-z]", "", 0, "xyz")
	missed(t, "a <- . [x-z]", "ax", -1, "")
	missed(t, "a <- . [x-z]", "aw", 1, "xyz")
	missed(t, "a <- . [x-z]", "a", 1, "xyz")
	missed(t, "a <- [a-c] / [b-d] / [x]", "e", 0, "abcdx")
	missed(t, "a <- [^x]*", "aax", 2, set.Bytes(set.Not(set.Range('x', 'x'))))
	missed(t, "a <- .*", "\x00\xff", 2, set.Bytes(set.Range(0, 255)))
	missed(t, "a <- 'a' [\\x00\\xff] / 'a' [\\x7f\\x80]", "ab", 1, "\x00\x7f\x80\xff")
	// One whose Set is empty.
	missed(t, "a <- []", "", 0, "")
	missed(t, "a <- []", "x", 0, "")
	missed(t, "a <- [] / 'x'", "y", 0, "x")
	missed(t, "a <- 'x' / []", "y", 0, "x")
	missed(t, "a <- 'x' 'z' / 'x' 'y' []", "xy", 2, "")
	missed(t, "a <- 'x' 'y' [] / 'x' 'z'", "xy", 2, "")
	missed(t, "a <- 'x' []?", "x", 1, "")
}

func TestP30Literals(t *testing.T) {
	missed(t, "a <- 'xyz'", "", 0, "x")
	missed(t, "a <- 'xyz'", "a", 0, "x")
	missed(t, "a <- 'xyz'", "x", 1, "y")
	missed(t, "a <- 'xyz'", "xa", 1, "y")
	missed(t, "a <- 'xyz'", "xaz", 1, "y")
	missed(t, "a <- 'xyz'", "xy", 2, "z")
	missed(t, "a <- 'xyz'", "xyx", 2, "z")
	missed(t, "a <- 'xyz'", "xyz", -1, "")
	missed(t, "a <- 'xyz'", "xyza", -1, "")
	missed(t, "a <- 'xx' 'xyz'", "xxxya", 4, "z")
	missed(t, "a <- 'xy' / 'xz' / !'x'", "xa", 1, "yz")
	missed(t, "a <- 'xy' / 'a' / 'xz'", "xa", 1, "yz")
	missed(t, "a <- 'a\\xff' / 'a\\x00'", "a\x01", 1, "\x00\xff")
	missed(t, "a <- '123456789012'", "12345678901", 11, "2")
}

// TestP30TheGreatest: what was missed ahead of the greatest place is not told, in whatever order it was missed.
func TestP30TheGreatest(t *testing.T) {
	for _, order := range [][]string{{"'a'", "'xyz'", "'xyw'", "[bc]", "'xq'"}, {"'xyw'", "'xyz'", "[bc]", "'xq'", "'a'"}, {"'xq'", "'xyz'", "'a'", "'xyw'", "[bc]"}, {"[bc]", "'xq'", "'a'", "'xyw'", "'xyz'"}} {
		missed(t, "a <- "+strings.Join(order, " / "), "xya", 2, "wz")
		missed(t, "a <- 'x' ("+strings.Join(order, " / ")+")", "xxya", 3, "wz")
	}
	missed(t, "a <- 'x' 'y' / 'x' [vw] / 'y'", "xa", 1, "vwy")
	missed(t, "a <- 'x' [vw] / [x] [] / .", "xa", 1, "vw")
}

// TestP30WhateverComesOfIt: what fails is counted within all, and where the first rule succeeds.
func TestP30WhateverComesOfIt(t *testing.T) {
	missed(t, "a <- ()", "x", -1, "")
	missed(t, "a <- !()", "x", -1, "")
	missed(t, "a <- !'x'", "x", -1, "")
	missed(t, "a <- !'x'", "y", 0, "x")
	missed(t, "a <- &'x'", "y", 0, "x")
	missed(t, "a <- !('x' 'y') [xz]", "xz", 1, "y")
	missed(t, "a <- &('x' 'y'?) 'x'", "xz", 1, "y")
	missed(t, "a <- 'x'*", "xx", 2, "x")
	missed(t, "a <- 'x'+", "xxy", 2, "x")
	missed(t, "a <- 'x'? 'y'", "y", 0, "x")
	missed(t, "a <- 'x' / 'y'", "y", 0, "x")
	missed(t, "a <- ('x' 'y')? 'x'", "xa", 1, "y")
	// Nothing that is not tried, and no node but sets and literals.
	missed(t, "a <- 'x' / 'y'", "xz", -1, "")
	missed(t, "a <- 'x' 'y' 'z'", "xa", 1, "y")
	missed(t, "a <- . (!. 'q')", "xy", -1, "")
	missed(t, "a <- b  b <- !c  c <- 'x'  d <- 'xy' 'z'", "xy", -1, "")
	// In rules, remembered or not.
	missed(t, "a <- b 'z' / b 'q' / 'y'  b <- 'x' c?  c <- 'v' / 'w'", "xa", 1, "qvwz")
	missed(t, "a <- 'a' a 'b' / ()", "aab", 3, "b")
	missed(t, "a <- 'a' a 'b' / ()", "aa", 2, "ab")
}

// miss: where a set or a literal failed, and the bytes that it missed there.
type miss struct {
	at    int
	bytes string
}

// telling: P26 told a second time, each time anew; beside it what was done in what order, and what was missed.
type telling struct {
	g      api.Grammar
	s      string
	done   []api.Step
	misses []miss
}

func (y *telling) rule(i, at int) int {
	end := y.end(y.g.Rules[i].Body, at)
	n := fails
	if end != fails {
		n = end - at
	}
	y.done = append(y.done, was(i, at, n))
	return end
}

func (y *telling) end(e api.Expr, at int) int {
	switch e.Kind {
	case api.EEmpty:
		return at
	case api.ESet:
		return y.oneByte(set.Bytes(e.Set), at)
	case api.ELit:
		end := at
		for i := 0; i < len(e.Text) && end != fails; i++ {
			end = y.oneByte(e.Text[i:i+1], end)
		}
		return end
	case api.ERef:
		return y.rule(slices.IndexFunc(y.g.Rules, func(r api.Rule) bool { return r.Name == e.Text }), at)
	case api.ESeq:
		for _, kid := range e.Kids {
			if at = y.end(kid, at); at == fails {
				break
			}
		}
		return at
	case api.EAlt:
		for _, kid := range e.Kids {
			if end := y.end(kid, at); end != fails {
				return end
			}
		}
		return fails
	}
	return y.endOfOne(e, at)
}

func (y *telling) oneByte(bytes string, at int) int {
	if at < len(y.s) && strings.IndexByte(bytes, y.s[at]) >= 0 {
		return at + 1
	}
	y.misses = append(y.misses, miss{at, bytes})
	return fails
}

func (y *telling) endOfOne(e api.Expr, at int) int {
	end := y.end(e.Kids[0], at)
	switch e.Kind {
	case api.EOpt:
		return max(end, at)
	case api.EAnd:
		return min(end, at)
	case api.ENot:
		if end == fails {
			return at
		}
		return fails
	case api.EPlus:
		at = end
	}
	for end != fails {
		at, end = end, y.end(e.Kids[0], end)
	}
	return at
}

// firsts: what was done, each rule and place as it was done first.
func (y *telling) firsts() []api.Step {
	var l []api.Step
	for _, step := range y.done {
		if !slices.Contains(l, step) {
			l = append(l, step)
		}
	}
	return l
}

func (y *telling) far() (int, string) {
	at, bytes := -1, map[byte]bool{}
	for _, m := range y.misses {
		at = max(at, m.at)
	}
	for _, m := range y.misses {
		for i := 0; m.at == at && i < len(m.bytes); i++ {
			bytes[m.bytes[i]] = true
		}
	}
	var told []byte
	for b := range bytes {
		told = append(told, b)
	}
	slices.Sort(told)
	return at, string(told)
}

// heldAgainst: of g on each text the answers of all calls, if it is well. It tells how many texts there were.
func heldAgainst(t *testing.T, g api.Grammar, texts []string) int {
	t.Helper()
	if _, err := well.Well(g); err != api.OK {
		return 0
	}
	for _, s := range texts {
		y := telling{g: g, s: s}
		y.rule(0, 0)
		remembers(t, g, s, y.firsts()...)
		if out, _, err := mean.Run(g, s, api.MaxSteps); out != y.done[len(y.done)-1].Out || err != api.OK {
			t.Errorf("step by step %q on %q: %v, %d", text(g), s, out, err)
		}
		at, bytes := y.far()
		if n, c, err := Far(g, s); n != at || set.Bytes(c) != bytes || err != api.OK {
			t.Errorf("Far of %q on %q: %d, %q, %d, want %d, %q", text(g), s, n, set.Bytes(c), err, at, bytes)
		}
		for i := range g.Rules {
			for at := range len(s) + 1 {
				y.rule(i, at)
				if out, err := At(g, i, s, at); out != y.done[len(y.done)-1].Out || err != api.OK {
					t.Errorf("rule %d of %q at %d of %q: %v, %d", i, text(g), at, s, out, err)
				}
			}
		}
		if t.Failed() {
			t.FailNow()
		}
	}
	return len(texts)
}

// upTo: all expressions of n nodes, for n up to size, of these leaves; no sequence has more than two Kids.
func upTo(size int, leaves ...api.Expr) []api.Expr {
	bySize := [][]api.Expr{nil, leaves}
	for n := 2; n <= size; n++ {
		var all []api.Expr
		for kind := api.EStar; kind <= api.ENot; kind++ {
			for _, kid := range bySize[n-1] {
				all = append(all, of(kind, kid))
			}
		}
		for left := 1; left < n-1; left++ {
			for _, a := range bySize[left] {
				for _, b := range bySize[n-1-left] {
					all = append(all, of(api.ESeq, a, b), of(api.EAlt, a, b))
				}
			}
		}
		bySize = append(bySize, all)
	}
	return slices.Concat(bySize...)
}

// TestP28P29P30AllSmallGrammars: one rule of up to four nodes, and two of up to three.
func TestP28P29P30AllSmallGrammars(t *testing.T) {
	texts := []string{"", "x", "y", "xx", "xyx", "xxy"}
	held := 0
	for _, e := range upTo(4, of(api.EEmpty), bytesOf(api.Set{}), bytesOf(set.Range('x', 'y')), lit("xy"), ref("a")) {
		held += heldAgainst(t, rules(rule("a", e)), texts)
	}
	all := upTo(3, of(api.EEmpty), lit("x"), ref("a"), ref("b"))
	for _, e := range all {
		for _, f := range all {
			held += heldAgainst(t, rules(rule("a", e), rule("b", f)), texts)
		}
	}
	if held < 30000 {
		t.Errorf("%d only", held)
	}
}

// anyExpr: one of at most that depth.
func anyExpr(r *rand.Rand, deep int, names string) api.Expr {
	kind := 1 + r.Intn(11)
	if deep == 1 {
		kind = 1 + r.Intn(4)
	}
	kids := 1
	switch kind {
	case api.EEmpty:
		return of(kind)
	case api.ESet:
		return bytesOf(set.Join(set.Range('x', 'x'+r.Intn(3)), set.Range('z', 'x'+r.Intn(5))))
	case api.ELit:
		return lit("xyzxxyz"[r.Intn(5):][:1+r.Intn(3)])
	case api.ERef:
		return ref(string(names[r.Intn(len(names))]))
	case api.ESeq, api.EAlt:
		kids = 2 + r.Intn(3)
	}
	e := of(kind)
	for range kids {
		e.Kids = append(e.Kids, anyExpr(r, deep-1, names))
	}
	return e
}

// TestP28P29P30ManyGrammars: greater ones, of four rules, the same at each run.
func TestP28P29P30ManyGrammars(t *testing.T) {
	r := rand.New(rand.NewSource(28))
	held := 0
	for range 15000 {
		var g api.Grammar
		for _, name := range "abcd" {
			g.Rules = append(g.Rules, rule(string(name), anyExpr(r, 4, "abcd")))
		}
		var texts []string
		for range 3 {
			s := make([]byte, r.Intn(7))
			for i := range s {
				s[i] = "xyz"[r.Intn(3)]
			}
			texts = append(texts, string(s))
		}
		held += heldAgainst(t, g, texts)
	}
	if held < 3000 {
		t.Errorf("%d only", held)
	}
}

// refuses: that all calls answer want, and nothing beside.
func refuses(t *testing.T, g api.Grammar, s string, want api.Errno) {
	t.Helper()
	if err := mean.Look(g, s); err != want || err == api.OK {
		t.Fatalf("Look = %d, want %d", err, want)
	}
	if out, l, err := Run(g, s); out != (api.Outcome{}) || len(l) != 0 || err != want {
		t.Errorf("Run = %v, %v, %d, want %d", out, l, err, want)
	}
	if n, c, err := Far(g, s); n != 0 || c != (api.Set{}) || err != want {
		t.Errorf("Far = %d, %v, %d, want %d", n, c, err, want)
	}
	for _, i := range []int{math.MinInt, -1, 0, 1, 11, math.MaxInt} {
		for _, at := range []int{math.MinInt, -1, 0, 1, 61, 62, math.MaxInt} {
			if out, err := At(g, i, s, at); out != (api.Outcome{}) || err != want {
				t.Errorf("At %d, %d = %v, %d, want %d", i, at, out, err, want)
			}
		}
	}
}

// TestP28P29P30Wrong: what mean.Look says is told ahead of a rule or a place that is none.
func TestP28P29P30Wrong(t *testing.T) {
	x, long := rule("a", lit("x")), strings.Repeat("x", 61)
	self := of(api.ESeq, make([]api.Expr, 8)...)
	for i := range self.Kids {
		self.Kids[i] = self
	}
	for _, c := range []struct {
		g    api.Grammar
		want api.Errno
	}{
		{api.Grammar{}, api.ErrArg}, {rules(make([]api.Rule, 11)...), api.ErrLarge}, {rules(x, rule("", lit("x"))), api.ErrName}, {rules(x, x), api.ErrTwice}, {rules(x, rule("b", ref("c"))), api.ErrName},
		{rules(rule("a", api.Expr{})), api.ErrForm}, {rules(x, rule("b", of(api.EPlus))), api.ErrForm}, {rules(rule("a", self)), api.ErrDeep},
		{rules(x, rule("b", of(api.EStar, of(api.EEmpty)))), api.ErrLoop}, {rules(rule("a", ref("a"))), api.ErrLeft}, {rules(x, rule("b", of(api.EOpt, ref("b")))), api.ErrLeft},
	} {
		for _, s := range []string{"", "x", long} {
			refuses(t, c.g, s, c.want)
		}
	}
	for _, s := range []string{long, strings.Repeat("\x00", 61), strings.Repeat("x", 1<<20)} {
		refuses(t, rules(x), s, api.ErrLarge)
	}
	remembers(t, rules(x), long[1:], was(0, 0, 1))
	missed(t, "a <- .*", long[1:], 60, set.Bytes(set.Range(0, 255)))
}

// TestP1DeepGrammars: all rules at all places, each within the others.
func TestP1DeepGrammars(t *testing.T) {
	var g api.Grammar
	var want []api.Step
	for i := range 10 {
		e := of(api.ESeq, lit("x"), ref("r0"))
		if i < 9 {
			e = ref(fmt.Sprint("r", i+1))
		}
		for range 10 {
			e = of(api.EOpt, e)
		}
		g.Rules = append(g.Rules, rule(fmt.Sprint("r", i), e))
	}
	for left := range 61 {
		for i := 9; i >= 0; i-- {
			want = append(want, was(i, 60-left, left))
		}
	}
	remembers(t, g, strings.Repeat("x", 60), want...)
	if n, c, err := Far(g, strings.Repeat("x", 60)); n != 60 || c != set.Range('x', 'x') || err != api.OK {
		t.Errorf("%d, %v, %d", n, c, err)
	}
}

// TestP2NothingIsChanged: rules with spare room behind them, held against what they were.
func TestP2NothingIsChanged(t *testing.T) {
	kids := []api.Expr{lit("x"), ref("b"), ref("spare"), ref("room")}[:2]
	g := rules(rule("a", of(api.EAlt, of(api.ESeq, kids...), lit("y"))), rule("b", of(api.EOpt, lit("y"))), rule("spare", ref("room")))
	g.Rules = g.Rules[:2]
	want := fmt.Sprint(g.Rules[:3], kids[:4])
	remembers(t, g, "xy", was(1, 1, 1), was(0, 0, 2))
	if out, err := At(g, 1, "xy", 1); out != outcome(1) || err != api.OK {
		t.Error(out, err)
	}
	if n, c, err := Far(g, "xx"); n != 1 || c != set.Range('y', 'y') || err != api.OK {
		t.Error(n, c, err)
	}
	if got := fmt.Sprint(g.Rules[:3], kids[:4]); got != want {
		t.Errorf("%s, was %s", got, want)
	}
}

// TestP2NothingIsKept: what is answered is the caller's, its spare room too, and does not hang on what was asked ahead.
func TestP2NothingIsKept(t *testing.T) {
	g, h := load(t, "a <- 'a' a 'b' / ()"), load(t, "a <- 'a'+ b  b <- 'b'")
	for range 3 {
		_, l, _ := Run(g, "aaaab")
		told := slices.Clone(l)
		_, m, _ := Run(g, "aaaab")
		clear(m[:cap(m)])
		if !slices.Equal(l, told) {
			t.Errorf("shared: %v, was %v", l, told)
		}
		remembers(t, g, "aaaab", told...)
		remembers(t, h, "aaaab", was(1, 4, 1), was(0, 0, 5))
		missed(t, "a <- 'a'", "b", 0, "a")
		missed(t, "a <- 'a'", "a", -1, "")
		remembers(t, g, "ab", was(0, 1, 0), was(0, 0, 2))
	}
}
