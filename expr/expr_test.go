package expr

import (
	"math"
	"reflect"
	"slices"
	"strings"
	"testing"

	"chaffcutter/api"
	"chaffcutter/set"
)

func of(kind int, kids ...api.Expr) api.Expr { return api.Expr{Kind: kind, Kids: kids} }

func lit(s string) api.Expr { return api.Expr{Kind: api.ELit, Text: s} }

func ref(s string) api.Expr { return api.Expr{Kind: api.ERef, Text: s} }

// chain: inner with kinds of one Kid around it, by turns, so that it stands deep.
func chain(deep int, inner api.Expr) api.Expr {
	for i := range deep - 1 {
		inner = of(api.EStar+i%5, inner)
	}
	return inner
}

// wide: an expression of n nodes, as flat as it can be, whose last node (in order) is last.
func wide(n int, last api.Expr) api.Expr {
	switch n {
	case 1:
		return last
	case 2:
		return of(api.EOpt, last)
	}
	var kids []api.Expr
	left, parts := n-1, min(n-1, 8)
	for ; parts > 0; parts-- {
		share := left / parts
		inner := lit("a")
		if parts == 1 {
			inner = last
		}
		kids = append(kids, wide(share, inner))
		left -= share
	}
	return of(api.ESeq+n%2, kids...)
}

// itself: an expression of that kind with n Kids, each of which is the expression.
func itself(kind, n int) api.Expr {
	kids := make([]api.Expr, n)
	for i := range kids {
		kids[i] = of(kind, kids...)
	}
	return kids[0]
}

// wrong: expressions with what Check says of them.
func wrong() []struct {
	about string
	e     api.Expr
	want  api.Errno
} {
	bad, badKids := api.Expr{}, of(api.EAlt, lit("a"))
	return []struct {
		about string
		e     api.Expr
		want  api.Errno
	}{
		{"nothing", api.Expr{}, api.ErrForm},
		{"61 nodes", wide(61, lit("a")), api.ErrLarge},
		{"62 nodes", wide(62, lit("a")), api.ErrLarge},
		{"500 nodes", wide(500, lit("a")), api.ErrLarge},
		{"13 deep", chain(13, lit("a")), api.ErrDeep},
		{"14 deep", chain(14, lit("a")), api.ErrDeep},
		{"61 deep", chain(61, lit("a")), api.ErrDeep},
		{"60000 deep", chain(60000, lit("a")), api.ErrDeep},
		{"itself within", itself(api.ENot, 1), api.ErrDeep},
		{"itself within, many times", itself(api.EAlt, 8), api.ErrDeep},
		{"itself within, too many times", itself(api.EAlt, 9), api.ErrForm},
		{"wrong at the root", of(api.ESeq, bad), api.ErrForm},
		{"wrong behind", of(api.ESeq, lit("a"), of(api.EAnd, bad)), api.ErrForm},
		{"a Kid too few within", of(api.ESeq, lit("a"), badKids), api.ErrForm},
		// Of one node the order is large, deep, form.
		{"the 60th in no form", wide(60, bad), api.ErrForm},
		{"the 61st in no form", wide(61, bad), api.ErrLarge},
		{"12 deep, in no form", chain(12, bad), api.ErrForm},
		{"13 deep, in no form", chain(13, bad), api.ErrDeep},
		{"the 60th, 13 deep", of(api.ESeq, wide(46, lit("a")), chain(12, of(api.EStar, lit("a")))), api.ErrDeep},
		{"the 60th, 13 deep, in no form", of(api.ESeq, wide(47, lit("a")), chain(12, bad)), api.ErrDeep},
		{"the 61st, 13 deep, in no form", of(api.ESeq, wide(48, lit("a")), chain(12, bad)), api.ErrLarge},
		// Of several nodes the first one that is wrong is told.
		{"form, then large", of(api.ESeq, bad, wide(100, lit("a"))), api.ErrForm},
		{"form, then deep", of(api.ESeq, bad, chain(12, lit("a"))), api.ErrForm},
		{"deep, then form", of(api.ESeq, chain(12, lit("a")), bad), api.ErrDeep},
		{"deep, then large", of(api.ESeq, chain(12, lit("a")), wide(100, lit("a"))), api.ErrDeep},
		{"large, then deep", of(api.ESeq, wide(60, lit("a")), chain(12, lit("a"))), api.ErrLarge},
		{"large, then form", of(api.ESeq, wide(60, lit("a")), bad), api.ErrLarge},
		{"the one above is told ahead of its Kids", of(api.ENot, chain(12, lit("a")), bad), api.ErrForm},
		{"a leaf with a Kid that is too deep", chain(12, of(api.EEmpty, lit("a"))), api.ErrForm},
		{"a leaf with a Kid that is one too many", wide(60, of(api.EEmpty, lit("a"))), api.ErrForm},
	}
}

func TestP12Name(t *testing.T) {
	for _, s := range []string{"a", "z", "A", "Z", "a1", "aB9z", "A0000000", "abcdefgh", "ZYXWVUTS", "a0"} {
		if !Name(s) {
			t.Errorf("%q is a name", s)
		}
	}
	for _, s := range []string{
		"", "1", "1a", "0", "abcdefghi", "ninebytes", "a23456789", "_", "a_", "a-b", " a", "a ", "a b", "a\n", "a.", "'a'", "a\x00",
		"\u00e9", "a\u00e9", "a\u0661", "\xff", "a\xff", "\uff21", strings.Repeat("a", 1000),
	} {
		if Name(s) {
			t.Errorf("%q is no name", s)
		}
	}
}

func TestP12NameOfEachByte(t *testing.T) {
	const letters = "abcdefghijklmnopqrstuvwxyzABCDEFGHIJKLMNOPQRSTUVWXYZ"
	for b := range 256 {
		s := string([]byte{byte(b)})
		letter, digit := strings.Contains(letters, s), strings.Contains("0123456789", s)
		if Name(s) != letter || Name(s+"a") != letter || Name("a"+s) != (letter || digit) || Name("abcdefg"+s) != (letter || digit) {
			t.Errorf("byte %d", b)
		}
		if Name("abcdefgh" + s) {
			t.Errorf("byte %d as the ninth", b)
		}
	}
}

func TestP13EachKindAlone(t *testing.T) {
	leaf := lit("a")
	name, twelve := "abcdefgh", "'\n\xff 56789012"
	byteSet := set.Range(0, 255)
	for _, e := range []api.Expr{
		of(api.EEmpty), of(api.ESet), {Kind: api.ESet, Set: byteSet}, lit("a"), lit("\x00"), lit(twelve), ref("a"), ref(name),
		of(api.ESeq, leaf, leaf), of(api.ESeq, leaf, leaf, leaf, leaf, leaf, leaf, leaf, leaf),
		of(api.EAlt, leaf, leaf), of(api.EAlt, leaf, leaf, leaf, leaf, leaf, leaf, leaf, leaf),
		of(api.EStar, leaf), of(api.EPlus, leaf), of(api.EOpt, leaf), of(api.EAnd, leaf), of(api.ENot, leaf),
		{Kind: api.EEmpty, Kids: []api.Expr{}},
		{Kind: api.ELit, Text: "a", Kids: make([]api.Expr, 0, 4)},
	} {
		if got := Check(e); got != api.OK {
			t.Errorf("Check(%v) = %d", e, got)
		}
	}
}

// form: what the words of P13 ask of a kind.
type form struct {
	set               bool
	text              func(string) bool
	fewKids, mostKids int
}

func forms() map[int]form {
	none := func(s string) bool { return s == "" }
	leaf, list, one := form{text: none}, form{text: none, fewKids: 2, mostKids: 8}, form{text: none, fewKids: 1, mostKids: 1}
	return map[int]form{
		1: leaf,
		2: {set: true, text: none},
		3: {text: func(s string) bool { return 1 <= len(s) && len(s) <= 12 }},
		4: {text: Name},
		5: list, 6: list,
		7: one, 8: one, 9: one, 10: one, 11: one,
	}
}

func TestP13EachKindWithEachPart(t *testing.T) {
	kinds := []int{math.MinInt, -1 << 32, -11, -1, 0, 1, 2, 3, 4, 5, 6, 7, 8, 9, 10, 11, 12, 13, 64, 255, 257, 1<<32 + 1, math.MaxInt}
	texts := []string{"", "a", "1", "1a", "a1", " ", "\xff", "abcdefgh", "abcdefghi", "abcdefghijkl", "abcdefghijklm", strings.Repeat("a", 300)}
	sets := []api.Set{{}, {1}, {0, 0, 0, 1 << 63}, set.Range(0, 255)}
	for _, kind := range kinds {
		f, known := forms()[kind]
		for _, text := range texts {
			for _, s := range sets {
				for n := range 20 {
					e := api.Expr{Kind: kind, Set: s, Text: text, Kids: slices.Repeat([]api.Expr{lit("x")}, n)}
					want := api.ErrForm
					if known && f.text(text) && (f.set || s == api.Set{}) && f.fewKids <= n && n <= f.mostKids {
						want = api.OK
					}
					if got := Check(e); got != want {
						t.Fatalf("kind %d, text %q, set %x, %d kids: %d, want %d", kind, text, s, n, got, want)
					}
				}
			}
		}
	}
}

func TestP13Bounds(t *testing.T) {
	for n := 1; n <= 60; n++ {
		if got := Check(wide(n, lit("a"))); got != api.OK {
			t.Errorf("%d nodes: %d", n, got)
		}
	}
	for deep := 1; deep <= 12; deep++ {
		if got := Check(chain(deep, lit("a"))); got != api.OK {
			t.Errorf("%d deep: %d", deep, got)
		}
	}
	if got := Check(of(api.ESeq, wide(48, lit("a")), chain(11, lit("a")))); got != api.OK {
		t.Errorf("60 nodes, 12 deep: %d", got)
	}
}

func TestP13WhatIsWrongFirst(t *testing.T) {
	for _, x := range wrong() {
		if got := Check(x.e); got != x.want {
			t.Errorf("%s: %d, want %d", x.about, got, x.want)
		}
	}
}

func TestP14Size(t *testing.T) {
	if n, err := Size(of(api.ESeq, ref("a"), of(api.EStar, ref("b")))); n != 4 || err != api.OK {
		t.Errorf("the document's example: %d, %d", n, err)
	}
	for n := 1; n <= 60; n++ {
		if got, err := Size(wide(n, ref("a"))); got != n || err != api.OK {
			t.Errorf("%d nodes: %d, %d", n, got, err)
		}
	}
	for deep := 1; deep <= 12; deep++ {
		if got, err := Size(chain(deep, lit("a"))); got != deep || err != api.OK {
			t.Errorf("%d deep: %d, %d", deep, got, err)
		}
	}
}

func TestP14Refs(t *testing.T) {
	for _, x := range []struct {
		e    api.Expr
		want []string
	}{
		{of(api.EEmpty), nil},
		{lit("a"), nil},
		{wide(60, lit("a")), nil},
		{ref("a"), []string{"a"}},
		{chain(12, ref("abcdefgh")), []string{"abcdefgh"}},
		{wide(60, ref("last")), []string{"last"}},
		{of(api.ESeq, lit("a"), ref("b"), of(api.EStar, ref("b"))), []string{"b"}},
		{of(api.EAlt, ref("b"), ref("a"), ref("b"), ref("A"), ref("a")), []string{"b", "a", "A"}},
		{of(api.ESeq, lit("z"), of(api.ENot, of(api.EAlt, ref("c"), ref("z"))), ref("a"), of(api.EAnd, ref("c"))), []string{"c", "z", "a"}},
		{of(api.ESeq, of(api.EOpt, of(api.EPlus, ref("x1"))), ref("x"), ref("x1"), ref("x2"), ref("x")), []string{"x1", "x", "x2"}},
	} {
		if got, err := Refs(x.e); !slices.Equal(got, x.want) || err != api.OK {
			t.Errorf("Refs(%v) = %v, %d, want %v", x.e, got, err, x.want)
		}
	}
}

// TestP14RefsOfMany: as many names as there can be, in an order that is neither rising nor falling, told so each time.
func TestP14RefsOfMany(t *testing.T) {
	var e api.Expr
	var want []string
	e.Kind = api.ESeq
	for i := range 7 {
		part := of(api.EAlt)
		for k := range 7 {
			name := string([]byte{'a' + byte(i*7+k)*11%26, 'A' + byte(i*7+k)})
			if i*7+k > 25 {
				name = string([]byte{'z' - byte(k), '0' + byte(i)})
			}
			part.Kids = append(part.Kids, ref(name))
			want = append(want, name)
		}
		e.Kids = append(e.Kids, part)
	}
	for range 20 {
		if got, err := Refs(e); !slices.Equal(got, want) || err != api.OK {
			t.Fatalf("%v, %d, want %v", got, err, want)
		}
	}
}

func TestP14ErrorsOfCheck(t *testing.T) {
	for _, x := range wrong() {
		if n, err := Size(x.e); n != 0 || err != x.want {
			t.Errorf("%s: size %d, %d, want %d", x.about, n, err, x.want)
		}
		if l, err := Refs(x.e); len(l) != 0 || err != x.want {
			t.Errorf("%s: refs %v, %d, want %d", x.about, l, err, x.want)
		}
	}
	named := of(api.ESeq, ref("a"), ref("ninebytes"))
	if l, err := Refs(named); len(l) != 0 || err != api.ErrForm {
		t.Errorf("a name, then none: %v, %d", l, err)
	}
}

// made: an expression with spare room behind its Kids, the same each time.
func made() api.Expr {
	kids := make([]api.Expr, 3, 8)
	kids[0], kids[1], kids[2] = ref("b"), of(api.EStar, ref("a")), lit("c")
	kids[:4][3] = ref("spare")
	return of(api.ESeq, kids...)
}

func TestP2WhatIsHandedIn(t *testing.T) {
	e := made()
	Check(e)
	Size(e)
	l, _ := Refs(e)
	l = append(l, "more")
	l[0] = "other"
	if !reflect.DeepEqual(e, made()) || !reflect.DeepEqual(e.Kids[:8], made().Kids[:8]) {
		t.Errorf("changed: %v", e)
	}
	if again, _ := Refs(e); !slices.Equal(again, []string{"b", "a"}) {
		t.Errorf("kept: %v", again)
	}
}
