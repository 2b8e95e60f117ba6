package gram

import (
	"fmt"
	"reflect"
	"regexp"
	"slices"
	"strings"
	"testing"
	"unsafe"

	"chaffcutter/api"
	"chaffcutter/expr"
	"chaffcutter/read"
	"chaffcutter/set"
	"chaffcutter/show"
)

func of(kind int, kids ...api.Expr) api.Expr { return api.Expr{Kind: kind, Kids: kids} }

func lit(s string) api.Expr { return api.Expr{Kind: api.ELit, Text: s} }

func ref(s string) api.Expr { return api.Expr{Kind: api.ERef, Text: s} }

func bytesOf(s api.Set) api.Expr { return api.Expr{Kind: api.ESet, Set: s} }

func empty() api.Expr { return of(api.EEmpty) }

func rule(name string, body api.Expr) api.Rule { return api.Rule{Name: name, Body: body} }

func rules(list ...api.Rule) api.Grammar { return api.Grammar{Rules: list} }

// flat: an expression of n nodes, at most 9.
func flat(n int) api.Expr {
	switch n {
	case 1:
		return empty()
	case 2:
		return of(api.EOpt, empty())
	}
	return of(api.ESeq, slices.Repeat([]api.Expr{empty()}, n-1)...)
}

// wide: an expression of n nodes, at most 65.
func wide(n int) api.Expr {
	if n <= 2 {
		return flat(n)
	}
	kids := []api.Expr{empty()}
	for left := n - 2; left > 0; left -= 9 {
		kids = append(kids, flat(min(9, left)))
	}
	return of(api.EAlt, kids...)
}

// nested: an expression that is that deep.
func nested(deep int) api.Expr {
	if deep == 1 {
		return empty()
	}
	return of(api.EAnd, nested(deep-1))
}

// many: n rules r0, r1, .. of one node.
func many(n int) api.Grammar {
	var g api.Grammar
	for i := range n {
		g.Rules = append(g.Rules, rule(fmt.Sprint("r", i), empty()))
	}
	return g
}

// checks: that g is answered with want, by all calls that ask Check first, and with nothing beside if it is an error.
func checks(t *testing.T, g api.Grammar, want api.Errno) {
	t.Helper()
	if err := Check(g); err != want {
		t.Errorf("Check(%v) = %d, want %d", g, err, want)
	}
	n, err := Nodes(g)
	if err != want || (n == 0) != (want != api.OK) {
		t.Errorf("Nodes(%v) = %d, %d, want %d", g, n, err, want)
	}
	l, err := Reach(g)
	if err != want || (len(l) == 0) != (want != api.OK) {
		t.Errorf("Reach(%v) = %v, %d, want %d", g, l, err, want)
	}
	s, err := Print(g)
	if err != want || (s == "") != (want != api.OK) {
		t.Errorf("Print(%v) = %q, %d, want %d", g, s, err, want)
	}
}

func TestP19Ordinary(t *testing.T) {
	for _, g := range []api.Grammar{
		rules(rule("a", empty())),
		rules(rule("a", ref("a"))),
		rules(rule("Z9", lit("x")), rule("z9", ref("Z9"))),
		rules(rule("a", ref("b")), rule("b", ref("a"))),
		rules(rule("a", of(api.ESeq, ref("c"), of(api.ENot, ref("b")))), rule("b", bytesOf(api.Set{})), rule("c", ref("b"))),
		rules(rule("Abcdefg8", of(api.EStar, ref("Abcdefg8")))),
		rules(rule("a", nested(12))),
		rules(rule("a", wide(60))),
	} {
		checks(t, g, api.OK)
	}
}

func TestP19HowMany(t *testing.T) {
	checks(t, api.Grammar{}, api.ErrArg)
	checks(t, api.Grammar{Rules: []api.Rule{}}, api.ErrArg)
	for n := 1; n <= 30; n++ {
		want := api.OK
		if n > 10 {
			want = api.ErrLarge
		}
		checks(t, many(n), want)
	}
	// It is told ahead of all that is wrong with the rules.
	checks(t, api.Grammar{Rules: make([]api.Rule, 10)}, api.ErrName)
	checks(t, api.Grammar{Rules: make([]api.Rule, 11)}, api.ErrLarge)
	checks(t, api.Grammar{Rules: make([]api.Rule, 1<<20)}, api.ErrLarge)
}

func TestP19EachRule(t *testing.T) {
	for _, name := range []string{"", "1", "1a", "a_", "a b", " a", "a ", "ninebytes", "\xc3\xa9", "a\x00", "a\n", strings.Repeat("a", 1<<20)} {
		checks(t, rules(rule(name, empty())), api.ErrName)
		checks(t, rules(rule("a", empty()), rule(name, empty())), api.ErrName)
	}
	checks(t, rules(rule("a", empty()), rule("a", empty())), api.ErrTwice)
	checks(t, rules(rule("a", empty()), rule("b", empty()), rule("a", lit("x"))), api.ErrTwice)
	checks(t, rules(rule("a", empty()), rule("A", empty())), api.OK)
	for _, e := range []api.Expr{{}, wide(61), nested(13), lit(""), ref("1"), ref("ninebytes"), of(api.ESeq, empty()), {Kind: 12}, {Kind: -1}, {Kind: api.EEmpty, Text: "x"}} {
		want := expr.Check(e)
		if want == api.OK {
			t.Fatalf("%v is right", e)
		}
		checks(t, rules(rule("a", e)), want)
		checks(t, rules(rule("a", empty()), rule("b", e)), want)
	}
}

func TestP19NodesOfAll(t *testing.T) {
	for n := 1; n <= 60; n++ {
		if size, err := expr.Size(wide(n)); size != n || err != api.OK {
			t.Fatalf("wide(%d) has %d, %d", n, size, err)
		}
		for k := 1; k <= 60; k += 7 {
			want := api.OK
			if 60+n+k > 120 {
				want = api.ErrLarge
			}
			checks(t, rules(rule("a", wide(n)), rule("b", wide(60)), rule("c", wide(k))), want)
		}
	}
	checks(t, rules(rule("a", wide(60)), rule("b", wide(60))), api.OK)
	checks(t, rules(rule("a", wide(60)), rule("b", wide(60)), rule("c", empty())), api.ErrLarge)
	checks(t, rules(rule("a", wide(60)), rule("b", wide(59)), rule("c", empty())), api.OK)
	g := many(10)
	for i := range g.Rules {
		g.Rules[i].Body = wide(12)
	}
	checks(t, g, api.OK)
	for i := range g.Rules {
		g.Rules[i].Body = wide(13)
		checks(t, g, api.ErrLarge)
		g.Rules[i].Body = wide(12)
	}
	for i := range g.Rules {
		g.Rules[i].Body = wide(60)
	}
	checks(t, g, api.ErrLarge)
}

func TestP19NamesOfNoRule(t *testing.T) {
	for _, e := range []api.Expr{ref("x"), ref("A"), ref("aa"), ref("a1"), of(api.ESeq, ref("a"), ref("b"), ref("c")), of(api.ENot, of(api.EStar, of(api.EAlt, empty(), ref("x"))))} {
		checks(t, rules(rule("a", e), rule("b", empty())), api.ErrName)
		checks(t, rules(rule("b", empty()), rule("a", e)), api.ErrName)
	}
}

// TestP19TheFirstIsTold: what is wrong with a rule ahead of what is wrong with one behind it, and that ahead of what is wrong with all.
func TestP19TheFirstIsTold(t *testing.T) {
	bad, deep, unknown := api.Expr{}, nested(13), ref("x")
	for _, c := range []struct {
		g    api.Grammar
		want api.Errno
	}{
		{rules(rule("", bad)), api.ErrName},
		{rules(rule("", bad), rule("", deep)), api.ErrName},
		{rules(rule("a", bad), rule("", deep)), api.ErrForm},
		{rules(rule("a", deep), rule("a", bad)), api.ErrDeep},
		{rules(rule("a", empty()), rule("a", bad)), api.ErrTwice},
		{rules(rule("a", empty()), rule("a", unknown), rule("b", bad)), api.ErrTwice},
		{rules(rule("a", empty()), rule("b", bad), rule("a", unknown)), api.ErrForm},
		{rules(rule("a", unknown), rule("a", empty())), api.ErrTwice},
		{rules(rule("a", unknown), rule("b", deep)), api.ErrDeep},
		{rules(rule("a", wide(60)), rule("b", wide(60)), rule("c", unknown)), api.ErrLarge},
		{rules(rule("a", unknown), rule("b", wide(60)), rule("c", wide(60))), api.ErrLarge},
		{rules(rule("a", wide(59)), rule("b", wide(60)), rule("c", unknown)), api.ErrName},
		{rules(rule("a", wide(60)), rule("b", wide(60)), rule("c", wide(60)), rule("a", bad)), api.ErrTwice},
		{rules(rule("a", wide(60)), rule("b", wide(60)), rule("c", wide(60)), rule("d", bad)), api.ErrForm},
		{rules(rule("a", wide(60)), rule("b", wide(60)), rule("c", wide(60)), rule("1", bad)), api.ErrName},
		{rules(rule("a", wide(61)), rule("1", bad)), api.ErrLarge},
	} {
		checks(t, c.g, c.want)
	}
}

// known: a Body, and what is known of it without looking.
type known struct {
	body  api.Expr
	err   api.Errno
	nodes int
	names string // bytes that are names of rules
}

// firstWrong: what is wrong first, told a second time, of what is known.
func firstWrong(names []string, bodies []known) api.Errno {
	var all []api.Errno
	nodes, late := 0, api.OK
	for i, b := range bodies {
		if !regexp.MustCompile(`^[a-zA-Z][a-zA-Z0-9]{0,7}$`).MatchString(names[i]) {
			all = append(all, api.ErrName)
		}
		if slices.Contains(names[:i], names[i]) {
			all = append(all, api.ErrTwice)
		}
		all = append(all, b.err)
		nodes += b.nodes
		for _, name := range b.names {
			if !slices.Contains(names, string(name)) {
				late = api.ErrName
			}
		}
	}
	if nodes > 120 {
		all = append(all, api.ErrLarge)
	}
	for _, err := range append(all, late) {
		if err != api.OK {
			return err
		}
	}
	return api.OK
}

// TestP19AllOfThree: every grammar of up to three rules of some names and some Bodies.
func TestP19AllOfThree(t *testing.T) {
	someNames := []string{"a", "b", "", "9"}
	someBodies := []known{
		{empty(), api.OK, 1, ""}, {ref("a"), api.OK, 1, "a"}, {of(api.ESeq, ref("c"), ref("b"), ref("c")), api.OK, 4, "cb"},
		{wide(60), api.OK, 60, ""}, {wide(61), api.ErrLarge, 0, ""}, {api.Expr{}, api.ErrForm, 0, ""}, {nested(13), api.ErrDeep, 0, ""},
	}
	told := map[api.Errno]int{}
	var longer func(g api.Grammar, names []string, bodies []known)
	longer = func(g api.Grammar, names []string, bodies []known) {
		if len(bodies) > 0 {
			want := firstWrong(names, bodies)
			told[want]++
			if err := Check(g); err != want {
				t.Fatalf("Check(%v) = %d, want %d", g, err, want)
			}
		}
		if len(bodies) == 3 {
			return
		}
		for _, name := range append(someNames, "c") {
			for _, b := range someBodies {
				more := slices.Concat(g.Rules, []api.Rule{rule(name, b.body)})
				longer(api.Grammar{Rules: more}, append(slices.Clone(names), name), append(slices.Clone(bodies), b))
			}
		}
	}
	longer(api.Grammar{}, nil, nil)
	for _, err := range []api.Errno{api.OK, api.ErrLarge, api.ErrForm, api.ErrDeep, api.ErrName, api.ErrTwice} {
		if told[err] < 20 {
			t.Errorf("%d was told %d times only", err, told[err])
		}
	}
}

func TestP20Find(t *testing.T) {
	g := rules(rule("a", empty()), rule("b", ref("x")), rule("a", empty()), rule("", api.Expr{}), rule("no name", empty()), rule("", empty()), rule("A", empty()))
	for name, want := range map[string]int{"a": 0, "b": 1, "": 3, "no name": 4, "A": 6, "x": -1, "aa": -1, "B": -1, "a ": -1, "\x00": -1} {
		if i := Find(g, name); i != want {
			t.Errorf("Find(%q) = %d, want %d", name, i, want)
		}
	}
	if Find(api.Grammar{}, "") != -1 || Find(api.Grammar{}, "a") != -1 {
		t.Error("found where there is no rule")
	}
	// More rules than a grammar may have.
	g = many(1000)
	for i := range 1000 {
		if k := Find(g, fmt.Sprint("r", i)); k != i {
			t.Errorf("Find(r%d) = %d", i, k)
		}
	}
}

func TestP20Nodes(t *testing.T) {
	ab := of(api.ESeq, ref("a"), of(api.EStar, ref("b")))
	for _, c := range []struct {
		g    api.Grammar
		want int
	}{
		{rules(rule("a", empty())), 1},
		{many(10), 10},
		{rules(rule("a", ab), rule("b", lit("x"))), 5},
		{rules(rule("a", ab), rule("b", of(api.EPlus, lit("xyz")))), 6},
		{rules(rule("a", of(api.EAlt, ab, ab)), rule("b", ab)), 13},
		{rules(rule("a", wide(60)), rule("b", wide(60))), 120},
	} {
		if n, err := Nodes(c.g); n != c.want || err != api.OK {
			t.Errorf("Nodes(%v) = %d, %d, want %d", c.g, n, err, c.want)
		}
	}
}

func TestP20Reach(t *testing.T) {
	yes, no := true, false
	for text, want := range map[string][]bool{
		"a <- ()":                 {yes},
		"a <- a":                  {yes},
		"a <- ()  b <- a":         {yes, no},
		"a <- b  b <- ()":         {yes, yes},
		"a <- ()  b <- c  c <- b": {yes, no, no},
		"a <- c  b <- a  c <- ()": {yes, no, yes},
		"a <- c  b <- ()  c <- b": {yes, yes, yes},
		"a <- b  b <- a  c <- c":  {yes, yes, no},
		"a <- !(b / &c? d*)+ 'x' b <- () c <- () d <- () e <- a":                 {yes, yes, yes, yes, no},
		"a <- b b <- c c <- d d <- e e <- f f <- g g <- h h <- i i <- j j <- a":  {yes, yes, yes, yes, yes, yes, yes, yes, yes, yes},
		"a <- j b <- a c <- b d <- c e <- d f <- e g <- f h <- g i <- h j <- i":  {yes, yes, yes, yes, yes, yes, yes, yes, yes, yes},
		"a <- e b <- a c <- b d <- c e <- () f <- e g <- f h <- g i <- h j <- i": {yes, no, no, no, yes, no, no, no, no, no},
		// What can't be tried is come to all the same.
		"a <- () / b  b <- ()": {yes, yes},
		"a <- [] b  b <- ()":   {yes, yes},
	} {
		g, _, _ := Read(text)
		if l, err := Reach(g); !slices.Equal(l, want) || err != api.OK {
			t.Errorf("Reach of %s = %v, %d, want %v", text, l, err, want)
		}
	}
}

// named: a Body that names those of four rules whose bits are set.
func named(bits int) api.Expr {
	kids := []api.Expr{empty(), empty()}
	for i := range 4 {
		if bits>>i&1 == 1 {
			kids = append(kids, ref(string(rune('a'+i))))
		}
	}
	return of(api.EAlt, kids...)
}

// TestP20ReachOfFour: all grammars of four rules, by who names whom, against paths that grow by one rule at a time.
func TestP20ReachOfFour(t *testing.T) {
	for all := range 1 << 16 {
		var g api.Grammar
		for i := range 4 {
			g.Rules = append(g.Rules, rule(string(rune('a'+i)), named(all>>(4*i)&15)))
		}
		bits := 1
		for range 4 {
			for i := range 4 {
				if bits>>i&1 == 1 {
					bits |= all >> (4 * i) & 15
				}
			}
		}
		want := []bool{true, bits&2 != 0, bits&4 != 0, bits&8 != 0}
		if l, err := Reach(g); !slices.Equal(l, want) || err != api.OK {
			t.Fatalf("Reach(%v) = %v, %d, want %v", g, l, err, want)
		}
	}
}

func TestP21Print(t *testing.T) {
	for _, c := range []struct {
		g    api.Grammar
		want string
	}{
		{rules(rule("a", empty())), "a <- ()\n"},
		{rules(rule("Abcdefg8", ref("Abcdefg8"))), "Abcdefg8 <- Abcdefg8\n"},
		{rules(rule("a", of(api.EAlt, ref("b"), lit("\n"))), rule("b", bytesOf(set.Range(0, 255)))), "a <- b / '\\n'\nb <- .\n"},
		{rules(rule("b", bytesOf(set.Range('a', 'c'))), rule("a", of(api.EPlus, of(api.ESeq, ref("b"), ref("a"))))), "b <- [a-c]\na <- (b a)+\n"},
		{rules(rule("a", of(api.EAlt, of(api.ESeq, lit("a"), ref("a"), lit("b")), empty()))), "a <- 'a' a 'b' / ()\n"},
	} {
		if s, err := Print(c.g); s != c.want || err != api.OK {
			t.Errorf("Print(%v) = %q, %d, want %q", c.g, s, err, c.want)
		}
	}
	var want []string
	g := many(10)
	for i := range g.Rules {
		g.Rules[i].Body = wide(12 - i)
		body, _ := show.Print(g.Rules[i].Body)
		want = append(want, fmt.Sprintf("r%d <- %s\n", i, body))
	}
	if s, err := Print(g); s != strings.Join(want, "") || err != api.OK {
		t.Errorf("Print = %q, %d, want %q", s, err, want)
	}
}

// says: that s is read as those rules.
func says(t *testing.T, s string, want ...api.Rule) {
	t.Helper()
	if g, at, err := Read(s); !reflect.DeepEqual(g, rules(want...)) || at != 0 || err != api.OK {
		t.Errorf("Read(%q) = %v, %d, %d, want %v", s, g, at, err, want)
	}
}

// fails: that s is answered with err and that place, and nothing beside.
func fails(t *testing.T, s string, wantAt int, want api.Errno) {
	t.Helper()
	if g, at, err := Read(s); g.Rules != nil || at != wantAt || err != want {
		t.Errorf("Read(%q) = %v, %d, %d, want %d, %d", s, g, at, err, wantAt, want)
	}
}

func TestP22Ordinary(t *testing.T) {
	a, b := ref("a"), ref("b")
	says(t, "a <- 'x'", rule("a", lit("x")))
	says(t, "a<-a", rule("a", a))
	says(t, "a <- 'a' a 'b' / ()", rule("a", of(api.EAlt, of(api.ESeq, lit("a"), a, lit("b")), empty())))
	says(t, "a <- b\nb <- a", rule("a", b), rule("b", a))
	// A rule needs no line of its own: it ends where the next head stands.
	says(t, "a <- b b <- a", rule("a", b), rule("b", a))
	says(t, "a<-b b<-a", rule("a", b), rule("b", a))
	says(t, "a<-'x'b<-a", rule("a", lit("x")), rule("b", a))
	says(t, "a<-()b<-a", rule("a", empty()), rule("b", a))
	says(t, "a<-b*b<-a", rule("a", of(api.EStar, b)), rule("b", a))
	says(t, "a\n<-\nb\n/\na\nb\n<-\na", rule("a", of(api.EAlt, b, a)), rule("b", a))
	says(t, "a <- b a\nb <- a", rule("a", of(api.ESeq, b, a)), rule("b", a))
	says(t, "a <- (b)\nb <- (a\nb)", rule("a", b), rule("b", of(api.ESeq, a, b)))
	says(t, "Ab9 <- ''\nZ <- [^]", rule("Ab9", empty()), rule("Z", bytesOf(set.Range(0, 255))))
	says(t, "a <- 'a <- b'", rule("a", lit("a <- b")))
	says(t, "a <- [<-a]", rule("a", bytesOf(set.Range('<', 'a'))))
	says(t, "b <- a\na <- ()", rule("b", a), rule("a", empty()))
}

func TestP22Blanks(t *testing.T) {
	want := []api.Rule{rule("a", of(api.ESeq, ref("b"), of(api.ENot, ref("a")))), rule("b", of(api.EAlt, ref("a"), lit("<-")))}
	tokens := []string{"a", "<-", "b ", "!", "a ", "b", "<-", "a", "/", "'<-'"}
	for _, between := range []string{
		"", " ", "\t", "\n", "\r", "\r\n", " \t\r\n", "#\n", "# remark\n", " # ' [ ( $ <- \xff\x00\n", "#\n#\n", "\n#\n \t#a <- b\r\n\n", "##\n",
	} {
		s := strings.Join(tokens, between)
		says(t, s, want...)
		says(t, between+s+between, want...)
	}
	for _, behind := range []string{"#", "# b <- a", " #x", "#\n#", "\n# <-\r", "\t\n\r "} {
		says(t, "a <- a"+behind, rule("a", ref("a")))
	}
	// A byte 13 does not end a remark: what stands behind it is not read.
	fails(t, "a # x\r<- b", 0, api.ErrSyntax)
	fails(t, "a <- # x\rb", 10, api.ErrSyntax)
	fails(t, "a <- a b # x\r<- a", 0, api.ErrName)
}

// TestP22WhatCantStand: the place is that of the token, of a head that of its name.
func TestP22WhatCantStand(t *testing.T) {
	for s, at := range map[string]int{
		"": 0, " ": 1, "\n\n": 2, "# a <- b": 8,
		// What begins is a head.
		"a": 0, " a": 1, "a b": 0, "a b <- c": 0, "<- a": 0, " <-": 1, "'a' <- b": 0, ". <- a": 0, "(a) <- b": 0, "() a <- b": 0, "/ a <- b": 0, "!a <- b": 0, "a* <- b": 0, "a / b": 0, "[a] <- b": 0, "# x\na": 4,
		// Behind a head comes an alternative.
		"a <-": 4, "a <- ": 5, "a <- # x": 8, "a <- / b": 5, "a <- )": 5, "a <- *": 5, "a <- <- b": 5, "a <-<- b": 4,
		"A <- B <- 'b'": 5, "a<-b<-c": 3, "a <- b\n<- c": 5, "a <- b # x\n # y\n <- c": 5, "a <- b <-": 5, "a <- a <- a <- a": 5,
		// A head stands nowhere within one.
		"a <- b / c <- d": 9, "a <- ! c <- d": 7, "a <- &c <- d": 6, "a <- (c <- d)": 6, "a <- (b c <- d)": 8, "a <- (b / c <- d": 10, "a <- (b) / !(!c <- d)": 14, "a <- ((b) c<-d)": 10, "a <- b /c<-": 8,
		// An arrow stands only in a head.
		"a <- 'b' <- c": 9, "a <- b* <- c": 8, "a <- (b) <- c": 9, "a <- . <- c": 7, "a <- b c <- <- d": 12, "a <- (<- b)": 6, "a <- b / <- c": 9, "a <- !<- b": 6, "a <- () <-": 8,
		// The rest is as it is of an expression.
		"a <- b)": 6, "a <- (b": 7, "a <- (b c": 9, "a <- b / / c": 9, "a <- b /": 8, "a <- b !": 8, "a <- b c <- d )": 14, "a <- b c <- ( d": 15, "a <- ()) b <- c": 7,
		"a <- b ; c <- d": 7, "a <- b $": 7, "a <- b\nc <- d\n1 <- e": 14, "a <- b 1": 7,
	} {
		fails(t, s, at, api.ErrSyntax)
	}
}

func TestP22WhatIsNoToken(t *testing.T) {
	for s, at := range map[string]int{
		"$": 0, "1 <- a": 0, "_ <- a": 0, "a <- $": 5, "a <- b$": 6, "a <- b $ <- c": 7, "a <- b < - c": 7, "a <- b <c": 7, "a <- b <": 7, "a <- 'b": 5, "a <- [b-a]": 5, "a <- b c <- 'd": 12,
		"a <- b # x\n $": 12, "a <- b\xff<- c": 6, "a <- b-": 6, "a <- b = c": 7, "a <- \xe2\x86\x90 b": 5,
		// The name is what can't stand first: that it is none of a head is seen without what comes behind being a token.
		"a $": 0, "a < - b": 0, "a -> b": 0, "a = b": 0, "a : b": 0, "a '": 0, "a <": 0, "a\xff<- b": 0, "a \xe2\x86\x90 b": 0, "a_b <- c": 0, "a # x\n$": 0, "a b $": 0,
		// And here a head is, whatever comes behind it.
		"a <- b <- $": 5, "a <- (b <- '": 6, "a <-$": 4, "a <- b c <- $": 12,
	} {
		fails(t, s, at, api.ErrSyntax)
	}
}

// The grammar of P22, told a second time over bytes that stand for tokens: brackets that can stand are a primary, as a and b are.
var (
	noBrackets = `(?:[&!]*[ab][?*+]*)+(?:/(?:[&!]*[ab][?*+]*)+)*`
	inBrackets = regexp.MustCompile(`\((?:` + noBrackets + `)?\)`)
	allOfIt    = regexp.MustCompile(`^(?:h` + noBrackets + `)+$`)
)

func areRules(tokens string) bool {
	for {
		less := inBrackets.ReplaceAllString(tokens, "a")
		if less == tokens {
			return allOfIt.MatchString(tokens)
		}
		tokens = less
	}
}

// canGoOn: whether something may come behind tokens that makes them right.
func canGoOn(tokens string) bool {
	open := strings.Count(tokens, "(") - strings.Count(tokens, ")")
	if open < 0 {
		return false
	}
	end := strings.Repeat(")", open)
	return areRules(tokens+end) || areRules(tokens+"a"+end)
}

// readApart: that text is read as rules h0, h1, .. with what stands between their heads as their Bodies.
func readApart(t *testing.T, text string) {
	t.Helper()
	var want []api.Rule
	for i, body := range regexp.MustCompile(`h\d <- `).Split(text, -1)[1:] {
		e, _, err := read.Parse(body)
		if err != api.OK {
			t.Fatalf("Parse(%q): %d", body, err)
		}
		want = append(want, rule(fmt.Sprint("h", i), e))
	}
	says(t, text, want...)
}

// TestP22AllShortTexts: every row of tokens up to the first that can't stand, with more behind it.
func TestP22AllShortTexts(t *testing.T) {
	words := map[byte]string{'a': "h0", 'b': "'b'", '(': "(", ')': ")", '/': "/", '!': "!", '*': "*", '<': "<-", '$': "$", 'h': ""}
	right, wrong := 0, 0
	var longer func(tokens, text string)
	longer = func(tokens, text string) {
		if areRules(tokens) {
			readApart(t, text)
			right++
		} else {
			fails(t, text, len(text), api.ErrSyntax)
			fails(t, text+" #", len(text)+2, api.ErrSyntax)
		}
		if len(tokens) == 7 || t.Failed() {
			return
		}
		for sign, word := range words {
			if sign == '<' && strings.HasSuffix(tokens, "a") {
				// The name ahead and this are a head.
				continue
			}
			if sign == 'h' {
				word = fmt.Sprintf("h%d <-", strings.Count(tokens, "h"))
			}
			if canGoOn(tokens + string(sign)) {
				longer(tokens+string(sign), text+word+" ")
				continue
			}
			for _, behind := range []string{"", " ", " a", " b )", "*", " $", " '", "\n# x", " b <-"} {
				fails(t, text+word+behind, len(text), api.ErrSyntax)
			}
			wrong++
		}
	}
	longer("", "")
	if right < 4000 || wrong < 20000 {
		t.Errorf("only %d and %d", right, wrong)
	}
}

// TestP22WhatWasPrinted: a grammar is read out of its text.
func TestP22WhatWasPrinted(t *testing.T) {
	bodies := []api.Expr{empty(), ref("a"), ref("c"), lit("b <- 'x'\n# "), bytesOf(set.Not(set.Range('#', '<')))}
	for _, e := range slices.Clone(bodies) {
		for kind := api.EStar; kind <= api.ENot; kind++ {
			bodies = append(bodies, of(kind, e), of(kind, of(api.EAlt, e, ref("b"))), of(kind, of(api.ESeq, ref("b"), e)))
		}
	}
	for i, e := range bodies {
		for k, f := range bodies {
			g := rules(rule("b", e), rule("a", bodies[(i+k)%len(bodies)]), rule("c", f))
			s, err := Print(g)
			if err != api.OK {
				t.Fatalf("Print(%v): %d", g, err)
			}
			says(t, s, g.Rules...)
			says(t, strings.ReplaceAll(s, "\n", "\r"), g.Rules...)
			says(t, strings.TrimSuffix(s, "\n"), g.Rules...)
		}
	}
	g := many(10)
	for i := range g.Rules {
		g.Rules[i].Body = wide(12)
	}
	s, _ := Print(g)
	says(t, s, g.Rules...)
}

func TestP22TooLongTexts(t *testing.T) {
	says(t, "a <- a"+strings.Repeat(" ", 1994), rule("a", ref("a")))
	says(t, "a"+strings.Repeat("\n", 1996)+"<-a", rule("a", ref("a")))
	says(t, "a<-"+strings.Repeat("(", 998)+"a"+strings.Repeat(")", 998), rule("a", ref("a")))
	fails(t, strings.Repeat(" ", 2000), 2000, api.ErrSyntax)
	fails(t, "a<-"+strings.Repeat("(", 1997), 2000, api.ErrSyntax)
	fails(t, "a<-a"+strings.Repeat(" ", 1995)+")", 1999, api.ErrSyntax)
	for _, s := range []string{"a <- a" + strings.Repeat(" ", 1995), "a<-" + strings.Repeat("(", 1998), strings.Repeat("$", 2001), strings.Repeat("a<-a ", 401), strings.Repeat("a", 2001), strings.Repeat("!", 1<<20)} {
		fails(t, s, 0, api.ErrLarge)
	}
}

// lines: n rules r0, r1, .. each with that Body.
func lines(n int, body string) string {
	var s strings.Builder
	for i := range n {
		fmt.Fprintf(&s, "r%d <- %s\n", i, body)
	}
	return s.String()
}

func TestP22ErrorsOfCheck(t *testing.T) {
	sixty := strings.Repeat("(. . . . . . .)/", 7) + "(. .)"
	for s, want := range map[string]api.Errno{
		lines(10, "r9"):                  api.OK,
		lines(11, "r9"):                  api.ErrLarge,
		lines(200, "."):                  api.ErrLarge,
		"ninebytes <- ()":                api.ErrName,
		"a <- () a1234567z <- ()":        api.ErrName,
		"Abcdefg8 <- Abcdefg8":           api.OK,
		"a <- .\na <- .":                 api.ErrTwice,
		"a <- ninebytes":                 api.ErrForm,
		"a <- '1234567890123'":           api.ErrForm,
		"a <- a a a a a a a a a":         api.ErrForm,
		"a <- a a a a a a a a":           api.OK,
		"a <- !!!!!!!!!!!!a":             api.ErrDeep,
		"a <- !!!!!!!!!!!a":              api.OK,
		"a <- " + sixty:                  api.OK,
		"a <- " + sixty + " .":           api.ErrLarge,
		lines(2, sixty):                  api.OK,
		lines(2, sixty) + "a <- b":       api.ErrLarge,
		"a <- b":                         api.ErrName,
		"a <- A":                         api.ErrName,
		"a <- b\nb <- a / c":             api.ErrName,
		"a <- b\na <- ninebytes":         api.ErrTwice,
		"a <- ninebytes\na <- b":         api.ErrForm,
		"a <- b\nninebytes <- !" + sixty: api.ErrName,
	} {
		g, at, err := Read(s)
		if at != 0 || err != want || (g.Rules == nil) != (want != api.OK) {
			t.Errorf("Read(%q) = %v, %d, %d, want %d", s, g, at, err, want)
		}
		// A text that can't be read is told ahead of them.
		fails(t, s+" )", len(s)+1, api.ErrSyntax)
		fails(t, s+" !a <- .", len(s)+2, api.ErrSyntax)
		fails(t, s+" a <- $", len(s)+6, api.ErrSyntax)
	}
}

// TestP1WhateverItIsGiven: expressions that have themselves as a part, and great ones, are answered too.
func TestP1WhateverItIsGiven(t *testing.T) {
	loop := api.Expr{Kind: api.ESeq, Kids: make([]api.Expr, 8)}
	for i := range loop.Kids {
		loop.Kids[i] = loop
	}
	checks(t, rules(rule("a", loop)), api.ErrDeep)
	checks(t, rules(rule("a", wide(60)), rule("b", of(api.EStar, loop))), api.ErrDeep)
	checks(t, rules(rule("a", api.Expr{Kind: api.ESeq, Kids: make([]api.Expr, 1<<20)})), api.ErrForm)
	g := rules(rule("a", loop))
	if Find(g, "a") != 0 || Find(g, "b") != -1 {
		t.Error("find")
	}
	some := "a1 \n#.'\"[]^-\\()/&!?*+<$\x00\x80\xff"
	for _, ahead := range []string{"", "a", "a<", "a<-", "a<-a", "a<-(a"} {
		for i := range 256 {
			for k := range len(some) {
				s := ahead + string([]byte{some[k], byte(i)}) + "-a"
				g, at, err := Read(s)
				wrong := err != api.OK && g.Rules != nil || err != api.ErrSyntax && at != 0 || at < 0 || at > len(s)
				if wrong || err == api.OK && Check(g) != api.OK {
					t.Fatalf("Read(%q) = %v, %d, %d", s, g, at, err)
				}
			}
		}
	}
}

// TestP2NothingIsChanged: rules with spare room behind them, held against what they were.
func TestP2NothingIsChanged(t *testing.T) {
	kids := []api.Expr{ref("a"), ref("b"), ref("spare"), ref("room")}[:2]
	g := rules(rule("a", of(api.ESeq, kids...)), rule("b", empty()), rule("spare", ref("room")))
	g.Rules = g.Rules[:2]
	want := fmt.Sprint(g.Rules[:3], kids[:4])
	checks(t, g, api.OK)
	Find(g, "b")
	if got := fmt.Sprint(g.Rules[:3], kids[:4]); got != want {
		t.Errorf("%s, was %s", got, want)
	}
	one, _ := Reach(g)
	clear(one[:cap(one)])
	if two, _ := Reach(g); !slices.Equal(two, []bool{true, true}) {
		t.Errorf("kept: %v", two)
	}
}

// lists: all lists of Kids in e.
func lists(e api.Expr) [][]api.Expr {
	all := [][]api.Expr{e.Kids}
	for _, kid := range e.Kids {
		all = append(all, lists(kid)...)
	}
	return all
}

func TestP2NewMemory(t *testing.T) {
	s := "aa <- aa (b / 'cc' / d?) (b / 'cc' / d?)  b <- !(b d aa) b d  d <- aa / aa / aa"
	one, _, _ := Read(s)
	want := fmt.Sprint(one)
	var all [][]api.Expr
	for _, r := range one.Rules {
		all = append(all, lists(r.Body)...)
	}
	// What is written behind a list, into its spare room, is in no other one.
	for _, l := range all {
		room := l[:cap(l)]
		for i := len(l); i < len(room); i++ {
			room[i] = ref("spare")
		}
	}
	if got := fmt.Sprint(one); got != want {
		t.Errorf("shared: %s, want %s", got, want)
	}
	for _, l := range all {
		clear(l)
	}
	clear(one.Rules)
	if two, _, _ := Read(s); fmt.Sprint(two) != want {
		t.Errorf("kept: %v, want %s", two, want)
	}
}

func TestP2TextsAreCopies(t *testing.T) {
	s := "name <- other 'literal'  other <- name"
	begin := uintptr(unsafe.Pointer(unsafe.StringData(s)))
	g, _, err := Read(s)
	if err != api.OK {
		t.Fatal(err)
	}
	texts := []string{g.Rules[0].Name, g.Rules[1].Name, g.Rules[1].Body.Text, g.Rules[0].Body.Kids[0].Text, g.Rules[0].Body.Kids[1].Text}
	for _, text := range texts {
		at := uintptr(unsafe.Pointer(unsafe.StringData(text)))
		if at >= begin && at < begin+uintptr(len(s)) {
			t.Errorf("%s is a piece of what was handed in", text)
		}
	}
}
