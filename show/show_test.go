package show

import (
	"reflect"
	"strings"
	"testing"

	"chaffcutter/api"
	"chaffcutter/expr"
	"chaffcutter/quote"
	"chaffcutter/set"
)

func of(kind int, kids ...api.Expr) api.Expr { return api.Expr{Kind: kind, Kids: kids} }

func lit(s string) api.Expr { return api.Expr{Kind: api.ELit, Text: s} }

func ref(s string) api.Expr { return api.Expr{Kind: api.ERef, Text: s} }

func bytesOf(s api.Set) api.Expr { return api.Expr{Kind: api.ESet, Set: s} }

func prints(t *testing.T, e api.Expr, want string) {
	t.Helper()
	if got, err := Print(e); got != want || err != api.OK {
		t.Errorf("%q, %d, want %q", got, err, want)
	}
}

func TestP15Leaves(t *testing.T) {
	prints(t, of(api.EEmpty), "()")
	prints(t, lit("a"), "'a'")
	prints(t, lit("it's \"\\\"\n\xff"), `'it\'s "\\"\n\xff'`)
	prints(t, lit("123456789012"), "'123456789012'")
	prints(t, ref("a"), "a")
	prints(t, ref("Abcdefg8"), "Abcdefg8")
}

func TestP15Sets(t *testing.T) {
	all := set.Range(0, 255)
	prints(t, bytesOf(all), ".")
	prints(t, bytesOf(api.Set{}), "[]")
	prints(t, bytesOf(set.Range('.', '.')), "[.]")
	prints(t, bytesOf(set.Range('a', 'c')), "[a-c]")
	prints(t, bytesOf(set.Join(set.Range(']', '^'), set.Range(' ', ' '))), `[\x20\]\^]`)
	for b := range 256 {
		one := set.Range(b, b)
		prints(t, bytesOf(one), quote.Class(one))
		prints(t, bytesOf(set.Not(one)), quote.Class(set.Not(one)))
	}
}

func TestP15Ordinary(t *testing.T) {
	a, dot := ref("a"), bytesOf(set.Range(0, 255))
	seq := of(api.ESeq, a, dot)
	prints(t, of(api.EPlus, of(api.ESeq, a, ref("b"))), "(a b)+")
	prints(t, of(api.EAlt, seq, of(api.EEmpty)), "a . / ()")
	prints(t, of(api.EAlt, a, lit("b"), dot, of(api.EEmpty)), "a / 'b' / . / ()")
	prints(t, of(api.ESeq, a, a, a, a, a, a, a, a), "a a a a a a a a")
	prints(t, of(api.EAlt, a, a, a, a, a, a, a, a), "a / a / a / a / a / a / a / a")
	prints(t, of(api.EAnd, of(api.EAlt, seq, a)), "&(a . / a)")
	prints(t, of(api.ENot, of(api.EOpt, of(api.EStar, a))), "!a*?")
	prints(t, of(api.EAnd, of(api.ENot, of(api.EAnd, a))), "&!&a")
	prints(t, of(api.EStar, of(api.EPlus, of(api.EOpt, of(api.EStar, a)))), "a*?+*")
	prints(t, of(api.EStar, of(api.ENot, of(api.EStar, of(api.EAnd, a)))), "(!(&a)*)*")
	prints(t, of(api.EStar, of(api.ESeq, of(api.ENot, lit("ab")), dot)), "(!'ab' .)*")
	prints(t, of(api.ESeq, of(api.EAlt, a, seq), of(api.ESeq, a, a), of(api.EOpt, of(api.EAlt, a, a))), "(a / a .) (a a) (a / a)?")
	prints(t, of(api.EAlt, of(api.EAlt, a, a), of(api.ESeq, a, of(api.EAlt, a, a))), "(a / a) / a (a / a)")
}

// kids: each kind, and the text that it has alone.
func kids() (kids [12]api.Expr, texts [12]string) {
	x, y := ref("x"), ref("y")
	kids = [12]api.Expr{
		1: of(api.EEmpty), 2: bytesOf(set.Range('s', 's')), 3: lit("l"), 4: ref("r"), 5: of(api.ESeq, x, y), 6: of(api.EAlt, x, y),
		7: of(api.EStar, x), 8: of(api.EPlus, x), 9: of(api.EOpt, x), 10: of(api.EAnd, x), 11: of(api.ENot, x),
	}
	texts = [12]string{1: "()", 2: "[s]", 3: "'l'", 4: "r", 5: "x y", 6: "x / y", 7: "x*", 8: "x+", 9: "x?", 10: "&x", 11: "!x"}
	return kids, texts
}

// TestP15Brackets: each kind as a Kid of each kind, at each place of two.
func TestP15Brackets(t *testing.T) {
	inBrackets := map[int][]int{
		api.EAlt: {api.EAlt}, api.ESeq: {api.EAlt, api.ESeq}, api.EAnd: {api.EAlt, api.ESeq}, api.ENot: {api.EAlt, api.ESeq},
		api.EStar: {api.EAlt, api.ESeq, api.EAnd, api.ENot},
		api.EPlus: {api.EAlt, api.ESeq, api.EAnd, api.ENot},
		api.EOpt:  {api.EAlt, api.ESeq, api.EAnd, api.ENot},
	}
	ahead := map[int]string{api.EAnd: "&", api.ENot: "!"}
	behind := map[int]string{api.EStar: "*", api.EPlus: "+", api.EOpt: "?"}
	between := map[int]string{api.EAlt: " / ", api.ESeq: " "}
	kid, texts := kids()
	for above, bracketed := range inBrackets {
		for kind := 1; kind <= 11; kind++ {
			text := texts[kind]
			for _, b := range bracketed {
				if b == kind {
					text = "(" + text + ")"
				}
			}
			if between[above] == "" {
				prints(t, of(above, kid[kind]), ahead[above]+text+behind[above])
				continue
			}
			prints(t, of(above, kid[kind], ref("z")), text+between[above]+"z")
			prints(t, of(above, ref("z"), kid[kind]), "z"+between[above]+text)
			prints(t, of(above, kid[kind], kid[kind], kid[kind]), text+between[above]+text+between[above]+text)
		}
	}
}

// grown: each expression with one part more around it, out of list.
func grown(list []api.Expr) []api.Expr {
	var more []api.Expr
	for _, e := range list {
		for kind := api.EStar; kind <= api.ENot; kind++ {
			more = append(more, of(kind, e))
		}
		for kind := api.ESeq; kind <= api.EAlt; kind++ {
			more = append(more, of(kind, e, e, e))
			for _, f := range list {
				more = append(more, of(kind, e, f))
			}
		}
	}
	return more
}

// TestP15NoTwoAlike: a text that two expressions have would be read otherwise than one of them is.
func TestP15NoTwoAlike(t *testing.T) {
	leaves := []api.Expr{of(api.EEmpty), ref("a"), bytesOf(set.Range(0, 255))}
	list := append(leaves, grown(leaves[1:])...)
	list = append(list, grown(list)...)
	from := map[string]api.Expr{}
	for _, e := range list {
		s, err := Print(e)
		if err != api.OK || s == "" {
			t.Fatalf("%v: %q, %d", e, s, err)
		}
		if f, ok := from[s]; ok && !reflect.DeepEqual(e, f) {
			t.Fatalf("%v and %v are both %s", e, f, s)
		}
		from[s] = e
	}
	if len(from) < 1000 {
		t.Errorf("only %d", len(from))
	}
}

// TestP15GreatOnes: as deep and nearly as large as an expression can be.
func TestP15GreatOnes(t *testing.T) {
	e, want := ref("a"), "a"
	for range 11 {
		e, want = of(api.EStar, e), want+"*"
	}
	prints(t, e, want)
	e, want = of(api.ENot, ref("a")), "!a"
	for range 5 {
		e, want = of(api.ENot, of(api.EOpt, e)), "!("+want+")?"
	}
	prints(t, e, want)
	part := of(api.ESeq, of(api.ENot, of(api.EOpt, of(api.EAnd, of(api.EPlus, ref("a"))))), lit("b"))
	prints(t, of(api.EAlt, part, part, part, part, part, part, part, part), strings.Repeat("!(&a+)? 'b' / ", 7)+"!(&a+)? 'b'")
}

func TestP15ErrorsOfCheck(t *testing.T) {
	deep := lit("a")
	for range 12 {
		deep = of(api.EAnd, deep)
	}
	large := of(api.ESeq)
	for range 8 {
		large.Kids = append(large.Kids, of(api.EAlt, lit("a"), lit("b"), lit("c"), lit("d"), lit("e"), lit("f"), lit("g")))
	}
	loop := make([]api.Expr, 2)
	loop[0], loop[1] = of(api.EAlt, loop...), lit("a")
	for _, x := range []struct {
		e    api.Expr
		want api.Errno
	}{
		{api.Expr{}, api.ErrForm},
		{of(12), api.ErrForm},
		{of(-1, lit("a")), api.ErrForm},
		{of(api.EStar), api.ErrForm},
		{of(api.ENot), api.ErrForm},
		{of(api.EOpt, lit("a"), lit("b")), api.ErrForm},
		{of(api.ESeq), api.ErrForm},
		{of(api.EAlt, lit("a")), api.ErrForm},
		{of(api.EAlt, lit("a"), of(api.EPlus)), api.ErrForm},
		{lit(""), api.ErrForm},
		{lit("1234567890123"), api.ErrForm},
		{ref("1a"), api.ErrForm},
		{ref("ninebytes"), api.ErrForm},
		{of(api.EEmpty, lit("a")), api.ErrForm},
		{deep, api.ErrDeep},
		{large, api.ErrLarge},
		{loop[0], api.ErrDeep},
	} {
		if got, err := Print(x.e); got != "" || err != x.want || err != expr.Check(x.e) {
			t.Errorf("kind %d: %q, %d, want %d", x.e.Kind, got, err, x.want)
		}
	}
}

// made: an expression with spare room behind its Kids, the same each time.
func made() api.Expr {
	kids := make([]api.Expr, 2, 4)
	kids[0], kids[1] = ref("b"), of(api.EStar, of(api.EAlt, lit("a"), ref("c")))
	kids[:3][2] = ref("spare")
	return of(api.ESeq, kids...)
}

func TestP2WhatIsHandedIn(t *testing.T) {
	e := made()
	prints(t, e, "b ('a' / c)*")
	prints(t, e, "b ('a' / c)*")
	if !reflect.DeepEqual(e, made()) || !reflect.DeepEqual(e.Kids[:4], made().Kids[:4]) {
		t.Errorf("changed: %v", e)
	}
}
