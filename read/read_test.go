package read

import (
	"fmt"
	"reflect"
	"regexp"
	"strings"
	"testing"
	"unsafe"

	"chaffcutter/api"
	"chaffcutter/expr"
	"chaffcutter/set"
	"chaffcutter/show"
)

func of(kind int, kids ...api.Expr) api.Expr { return api.Expr{Kind: kind, Kids: kids} }

func lit(s string) api.Expr { return api.Expr{Kind: api.ELit, Text: s} }

func ref(s string) api.Expr { return api.Expr{Kind: api.ERef, Text: s} }

func bytesOf(s api.Set) api.Expr { return api.Expr{Kind: api.ESet, Set: s} }

func anyByte() api.Expr { return bytesOf(set.Range(0, 255)) }

// says: that s is read as e.
func says(t *testing.T, s string, e api.Expr) {
	t.Helper()
	if got, at, err := Parse(s); !reflect.DeepEqual(got, e) || at != 0 || err != api.OK {
		t.Errorf("Parse(%q) = %v, %d, %d, want %v", s, got, at, err, e)
	}
}

// fails: that s is answered with err and that place, and nothing beside.
func fails(t *testing.T, s string, wantAt int, want api.Errno) {
	t.Helper()
	if got, at, err := Parse(s); !reflect.DeepEqual(got, api.Expr{}) || at != wantAt || err != want {
		t.Errorf("Parse(%q) = %v, %d, %d, want %d, %d", s, got, at, err, wantAt, want)
	}
}

func TestP16Leaves(t *testing.T) {
	for s, e := range map[string]api.Expr{
		"a":                ref("a"),
		"Z":                ref("Z"),
		"aZ09":             ref("aZ09"),
		"Abcdefg8":         ref("Abcdefg8"),
		"'a'":              lit("a"),
		`"it's"`:           lit("it's"),
		`'\'\"\\\n\t\x00'`: lit("'\"\\\n\t\x00"),
		"' # / '":          lit(" # / "),
		"'123456789012'":   lit("123456789012"),
		"'\xff\xc3\xa9'":   lit("\xff\xc3\xa9"),
		"[a-c]":            bytesOf(set.Range('a', 'c')),
		"[^a-c]":           bytesOf(set.Not(set.Range('a', 'c'))),
		"[]":               bytesOf(api.Set{}),
		"[#]":              bytesOf(set.Range('#', '#')),
		"[']":              bytesOf(set.Range('\'', '\'')),
		`[\]]`:             bytesOf(set.Range(']', ']')),
		"[^]":              anyByte(),
		".":                anyByte(),
		"[.]":              bytesOf(set.Range('.', '.')),
		"''":               of(api.EEmpty),
		`""`:               of(api.EEmpty),
		"()":               of(api.EEmpty),
	} {
		says(t, s, e)
	}
}

func TestP16TokensNeedNoBlanks(t *testing.T) {
	a, b := ref("a"), ref("b")
	says(t, "ab", ref("ab"))
	says(t, "a1b", ref("a1b"))
	says(t, "a b", of(api.ESeq, a, b))
	says(t, "a#x\nb", of(api.ESeq, a, b))
	says(t, "'a''b'", of(api.ESeq, lit("a"), lit("b")))
	says(t, `'a'"b"`, of(api.ESeq, lit("a"), lit("b")))
	says(t, "a'b'b", of(api.ESeq, a, lit("b"), b))
	says(t, "a[b]b", of(api.ESeq, a, bytesOf(set.Range('b', 'b')), b))
	says(t, "a.b", of(api.ESeq, a, anyByte(), b))
	says(t, "..", of(api.ESeq, anyByte(), anyByte()))
	says(t, "a(b)a", of(api.ESeq, a, b, a))
	says(t, "a&b!a", of(api.ESeq, a, of(api.EAnd, b), of(api.ENot, a)))
	says(t, "a?b*a+", of(api.ESeq, of(api.EOpt, a), of(api.EStar, b), of(api.EPlus, a)))
	says(t, "a/b", of(api.EAlt, a, b))
}

func TestP16Blanks(t *testing.T) {
	want := of(api.EAlt, of(api.EStar, ref("a")), of(api.ENot, of(api.EPlus, of(api.ESeq, lit("b"), of(api.EEmpty)))))
	tokens := []string{"a", "*", "/", "!", "(", "'b'", "(", ")", ")", "+"}
	for _, between := range []string{
		"", " ", "\t", "\n", "\r", "\r\n", " \t\r\n", "#\n", "# remark\n", " # ' [ ( $ \xff\x00\n", "#\n#\n", "\n#\n \t#a\r\n\n", "##\n", "#\r\n",
	} {
		s := strings.Join(tokens, between)
		says(t, s, want)
		says(t, between+s+between, want)
	}
	for _, behind := range []string{"#", "# x", " #x", "#\n#", "\n# ' \r", "# #", "#\n ", "\t\n\r "} {
		says(t, "a"+behind, ref("a"))
	}
	// A byte 13 does not end a remark.
	says(t, "a # x\rb", ref("a"))
	fails(t, "(a # x)", 7, api.ErrSyntax)
	fails(t, "# a", 3, api.ErrSyntax)
	fails(t, "# a\n", 4, api.ErrSyntax)
}

// TestP16EachByte: what each byte is between two names.
func TestP16EachByte(t *testing.T) {
	a, b := ref("a"), ref("b")
	special := map[byte]api.Expr{
		'#': a, '/': of(api.EAlt, a, b), '.': of(api.ESeq, a, anyByte(), b), '&': of(api.ESeq, a, of(api.EAnd, b)), '!': of(api.ESeq, a, of(api.ENot, b)),
		'?': of(api.ESeq, of(api.EOpt, a), b), '*': of(api.ESeq, of(api.EStar, a), b), '+': of(api.ESeq, of(api.EPlus, a), b),
	}
	for i := range 256 {
		c := byte(i)
		s := string([]byte{'a', c, 'b'})
		e, ok := special[c]
		switch {
		case ok:
			says(t, s, e)
		case c == 32 || c == 9 || c == 10 || c == 13:
			says(t, s, of(api.ESeq, a, b))
		case c >= '0' && c <= '9' || c >= 'a' && c <= 'z' || c >= 'A' && c <= 'Z':
			says(t, s, ref(s))
		case c == '(':
			fails(t, s, 3, api.ErrSyntax)
		default:
			fails(t, s, 1, api.ErrSyntax)
		}
	}
}

func TestP17Ordinary(t *testing.T) {
	a, b, c := ref("a"), ref("b"), ref("c")
	for s, e := range map[string]api.Expr{
		"a / b  c":          of(api.EAlt, a, of(api.ESeq, b, c)),
		"a b / c":           of(api.EAlt, of(api.ESeq, a, b), c),
		"a b* / !c":         of(api.EAlt, of(api.ESeq, a, of(api.EStar, b)), of(api.ENot, c)),
		"a / b / c":         of(api.EAlt, a, b, c),
		"a b c":             of(api.ESeq, a, b, c),
		"(a / b) / c":       of(api.EAlt, of(api.EAlt, a, b), c),
		"a / (b / c)":       of(api.EAlt, a, of(api.EAlt, b, c)),
		"(a b) c":           of(api.ESeq, of(api.ESeq, a, b), c),
		"a (b c)":           of(api.ESeq, a, of(api.ESeq, b, c)),
		"a (b / c)":         of(api.ESeq, a, of(api.EAlt, b, c)),
		"(a / b) c":         of(api.ESeq, of(api.EAlt, a, b), c),
		"(a)":               a,
		"(((a)))":           a,
		"((a) / ((b)))":     of(api.EAlt, a, b),
		"((a b))*":          of(api.EStar, of(api.ESeq, a, b)),
		"a b*":              of(api.ESeq, a, of(api.EStar, b)),
		"!a*":               of(api.ENot, of(api.EStar, a)),
		"(!a)*":             of(api.EStar, of(api.ENot, a)),
		"!a b":              of(api.ESeq, of(api.ENot, a), b),
		"&(a b)":            of(api.EAnd, of(api.ESeq, a, b)),
		"&!&a":              of(api.EAnd, of(api.ENot, of(api.EAnd, a))),
		"!&a+*":             of(api.ENot, of(api.EAnd, of(api.EStar, of(api.EPlus, a)))),
		"a?*+":              of(api.EPlus, of(api.EStar, of(api.EOpt, a))),
		"a+*?":              of(api.EOpt, of(api.EStar, of(api.EPlus, a))),
		"a**":               of(api.EStar, of(api.EStar, a)),
		"a ? b":             of(api.ESeq, of(api.EOpt, a), b),
		"()":                of(api.EEmpty),
		"( # x\n )":         of(api.EEmpty),
		"(())":              of(api.EEmpty),
		"(('') / ())":       of(api.EAlt, of(api.EEmpty), of(api.EEmpty)),
		"()?":               of(api.EOpt, of(api.EEmpty)),
		"!()":               of(api.ENot, of(api.EEmpty)),
		"() ''":             of(api.ESeq, of(api.EEmpty), of(api.EEmpty)),
		"''* / \"x\"":       of(api.EAlt, of(api.EStar, of(api.EEmpty)), lit("x")),
		"[a]+.?":            of(api.ESeq, of(api.EPlus, bytesOf(set.Range('a', 'a'))), of(api.EOpt, anyByte())),
		"(!'ab' .)*":        of(api.EStar, of(api.ESeq, of(api.ENot, lit("ab")), anyByte())),
		"'a' a 'b' / ()":    of(api.EAlt, of(api.ESeq, lit("a"), a, lit("b")), of(api.EEmpty)),
		"a a a a a a a a":   of(api.ESeq, a, a, a, a, a, a, a, a),
		"a/a/a/a/a/a/a/(a)": of(api.EAlt, a, a, a, a, a, a, a, a),
	} {
		says(t, s, e)
	}
}

// grown: each of list, and what has it as a part.
func grown(list []api.Expr) []api.Expr {
	more := list
	for i, e := range list {
		for kind := api.EStar; kind <= api.ENot; kind++ {
			more = append(more, of(kind, e))
		}
		other := list[(i*7+3)%len(list)]
		for kind := api.ESeq; kind <= api.EAlt; kind++ {
			more = append(more, of(kind, e, other), of(kind, other, e, e))
		}
	}
	return more
}

// many: expressions of all kinds in one another.
func many() []api.Expr {
	list := []api.Expr{of(api.EEmpty), bytesOf(set.Range('s', 'v')), anyByte(), lit("l\n"), ref("r")}
	return grown(grown(grown(list)))
}

// spelt: e with brackets around each part, and what may stand between tokens.
func spelt(e api.Expr) string {
	switch {
	case e.Kind == api.EEmpty:
		return "(\t)"
	case len(e.Kids) == 0:
		s, _ := show.Print(e)
		return s
	}
	var parts []string
	for _, kid := range e.Kids {
		parts = append(parts, "( "+spelt(kid)+"# )\n)")
	}
	ahead := map[int]string{api.EAnd: "&", api.ENot: "!\r"}
	behind := map[int]string{api.EStar: "*", api.EPlus: "\n+", api.EOpt: " ?"}
	between := map[int]string{api.EAlt: "/ ", api.ESeq: ""}
	return ahead[e.Kind] + strings.Join(parts, between[e.Kind]) + behind[e.Kind]
}

// TestP17WhatWasPrinted: each expression is read out of its text, with as few brackets as it needs and with all of them.
func TestP17WhatWasPrinted(t *testing.T) {
	read := 0
	for _, e := range many() {
		s, err := show.Print(e)
		if err != api.OK {
			t.Fatalf("%v: %d", e, err)
		}
		says(t, s, e)
		says(t, "("+s+")", e)
		if s = spelt(e); len(s) <= 2000 {
			says(t, s, e)
			read++
		}
	}
	if read < 4000 {
		t.Errorf("only %d", read)
	}
}

func TestP18WhatCantStand(t *testing.T) {
	for s, at := range map[string]int{
		"": 0, " ": 1, "\n\n": 2, "# x": 3,
		"/": 0, " )": 1, "*": 0, "?a": 0, "+": 0, "<-": 0, "/ a": 0,
		"a /": 3, "a / ": 4, "a / # x": 7, "a / / b": 4, "a // b": 3, "a / )": 4, "a / *": 4, "a/?": 2,
		"(": 1, "((": 2, "(a": 2, "(a ": 3, "(a # )": 6, "(a /": 4, "( / a)": 2, "(a / )": 5, "(*)": 1, "(()": 3, "(a b": 4, "(a <- b)": 3,
		"a)": 1, "(a))": 3, "())": 2, "a ) b": 2, "a / b )": 6, ")(": 0,
		"!": 1, "a !": 3, "! /": 2, "!)": 1, "(!)": 2, "&*": 1, "& ?a": 2, "a &": 3, "!!": 2, "!<-": 1,
		"a <- b": 2, "a<-": 1, "a*<-b": 2, "a b <- c": 4,
	} {
		fails(t, s, at, api.ErrSyntax)
	}
}

func TestP18WhatIsNoToken(t *testing.T) {
	for s, at := range map[string]int{
		"$": 0, "a$": 1, "a $": 2, "a <": 2, "a < - b": 2, "<a": 0, "a -> b": 2, "a-b": 1, "a_b": 1, "_a": 0, "1": 0, "1a": 0, "a 1": 2,
		"a|b": 1, "a;": 1, "a = b": 2, "a {b}": 2, "]": 0, "a]": 1, "\\n": 0, "`a`": 0, "a\x00": 1, "a\x0b b": 1, "a\x0cb": 1, "\xff": 0,
		"a \xc2\xa0 b": 2, "\xc3\xa9": 0, "a\xc3\xa9": 1, "a\xe2\x80\xa8b": 1, "\xef\xbb\xbfa": 0,
		"'": 0, "a 'b": 2, "'a": 0, "a 'b\n'": 2, `'a\q'`: 0, `a '\x4G'`: 2, `"a'`: 0, "'a' '": 4, "'''": 2,
		"[": 0, "a [b": 2, "[b-a]": 0, "a [\n]": 2, `a [\q]`: 2, "[a]]": 3, "[a": 0, "([)": 1,
	} {
		fails(t, s, at, api.ErrSyntax)
	}
}

// TestP18TheFirstIsTold: one that can't stand, and what is no token, whichever comes first.
func TestP18TheFirstIsTold(t *testing.T) {
	for s, at := range map[string]int{
		"* $": 0, "$ *": 0, "a ) $": 2, "a $ )": 2, "a)'": 1, "a')": 1, "( / $": 2, "( $ /": 2, "a / / [": 4, "a / [ /": 4, "a <- $": 2, "a $ <-": 2,
		"(a $": 3, "a / $": 4, "!$": 1, "a*$": 2, "a) )": 1, "* /": 0, "a <- b <- c": 2, "/ # $\n $": 0, "a # $\n )": 7,
	} {
		fails(t, s, at, api.ErrSyntax)
	}
}

// The grammar of P17, told a second time over bytes that stand for tokens: brackets that can stand are a primary, as a is.
var (
	noBrackets = `(?:[&!]*a[?*+]*)+(?:/(?:[&!]*a[?*+]*)+)*`
	inBrackets = regexp.MustCompile(`\((?:` + noBrackets + `)?\)`)
	allOfIt    = regexp.MustCompile(`^` + noBrackets + `$`)
)

func isAlternative(tokens string) bool {
	for {
		less := inBrackets.ReplaceAllString(tokens, "a")
		if less == tokens {
			return allOfIt.MatchString(tokens)
		}
		tokens = less
	}
}

// canGoOn: whether something may come behind tokens that makes them right.
func canGoOn(tokens string) bool {
	open := strings.Count(tokens, "(") - strings.Count(tokens, ")")
	if open < 0 {
		return false
	}
	end := strings.Repeat(")", open)
	return isAlternative(tokens+end) || isAlternative(tokens+"a"+end)
}

// TestP18AllShortTexts: every row of tokens up to the first that can't stand, with more behind it.
func TestP18AllShortTexts(t *testing.T) {
	words := map[byte]string{'a': "ab", '(': "(", ')': ")", '/': "/", '!': "!", '*': "*", '<': "<-", '$': "$"}
	right, wrong := 0, 0
	var longer func(tokens, text string)
	longer = func(tokens, text string) {
		if isAlternative(tokens) {
			if _, at, err := Parse(text); at != 0 || err == api.ErrSyntax {
				t.Fatalf("Parse(%q): %d, %d", text, at, err)
			}
			right++
		} else {
			fails(t, text, len(text), api.ErrSyntax)
			fails(t, text+" #", len(text)+2, api.ErrSyntax)
		}
		if len(tokens) == 7 {
			return
		}
		for sign, word := range words {
			if canGoOn(tokens + string(sign)) {
				longer(tokens+string(sign), text+word+" ")
				continue
			}
			for _, behind := range []string{"", " ", "a", " b )", "*", " $", "'", "\n# x"} {
				fails(t, text+word+behind, len(text), api.ErrSyntax)
			}
			wrong++
		}
	}
	longer("", "")
	if right < 4000 || wrong < 18000 {
		t.Errorf("only %d and %d", right, wrong)
	}
}

func TestP18TooLongTexts(t *testing.T) {
	says(t, "a"+strings.Repeat(" ", 1999), ref("a"))
	says(t, "#"+strings.Repeat("$", 1997)+"\na", ref("a"))
	says(t, strings.Repeat("(", 999)+"a"+strings.Repeat(")", 999), ref("a"))
	fails(t, strings.Repeat("(", 2000), 2000, api.ErrSyntax)
	fails(t, strings.Repeat(" ", 2000), 2000, api.ErrSyntax)
	fails(t, strings.Repeat(" ", 1999)+")", 1999, api.ErrSyntax)
	for _, s := range []string{"a" + strings.Repeat(" ", 2000), strings.Repeat("(", 2001), strings.Repeat("$", 2001), strings.Repeat("a", 2001), strings.Repeat("a ", 1001), strings.Repeat("!", 1<<20)} {
		fails(t, s, 0, api.ErrLarge)
	}
}

// row: n times word, with between between.
func row(n int, word, between string) string {
	return strings.TrimSuffix(strings.Repeat(word+between, n), between)
}

func TestP18ErrorsOfCheck(t *testing.T) {
	says(t, "'123456789012' Abcdefg8", of(api.ESeq, lit("123456789012"), ref("Abcdefg8")))
	for s, want := range map[string]api.Errno{
		"ninebytes":                                           api.ErrForm,
		"a / a1234567z":                                       api.ErrForm,
		"'1234567890123'":                                     api.ErrForm,
		row(9, "a", " "):                                      api.ErrForm,
		row(9, "a", "/"):                                      api.ErrForm,
		row(1000, "a", "/"):                                   api.ErrForm,
		row(7, "a", " ") + " (a b)":                           api.OK,
		row(8, "a", " ") + " b*":                              api.ErrForm,
		strings.Repeat("!", 11) + "a":                         api.OK,
		strings.Repeat("!", 12) + "a":                         api.ErrDeep,
		"a" + strings.Repeat("*", 11):                         api.OK,
		"a" + strings.Repeat("*", 12):                         api.ErrDeep,
		"!" + "a" + row(11, "?", ""):                          api.ErrDeep,
		strings.Repeat("&", 1999) + "a":                       api.ErrDeep,
		"a" + strings.Repeat("+", 1999):                       api.ErrDeep,
		row(8, "("+row(6, "a", " ")+")", "/"):                 api.OK,
		row(7, "("+row(7, "a", " ")+")", "/") + " / (a b)":    api.OK,
		row(7, "("+row(7, "a", " ")+")", "/") + " / (a b) c":  api.ErrLarge,
		row(7, "("+row(7, "a", " ")+")", "/") + " / ((a b))*": api.ErrLarge,
		row(8, "("+row(8, "a", "/")+")", " "):                 api.ErrLarge,
		// What is wrong first is told.
		"ninebytes " + strings.Repeat("!", 12) + "a": api.ErrForm,
		strings.Repeat("!", 12) + "a ninebytes":      api.ErrDeep,
	} {
		e, at, err := Parse(s)
		if at != 0 || err != want {
			t.Errorf("Parse(%q): %d, %d, want %d", s, at, err, want)
		}
		if zero := reflect.DeepEqual(e, api.Expr{}); zero != (err != api.OK) {
			t.Errorf("Parse(%q) = %v with %d", s, e, err)
		}
	}
}

// TestP18SyntaxAheadOfCheck: a text that can't be read is told, whatever Check would say of what stands ahead.
func TestP18SyntaxAheadOfCheck(t *testing.T) {
	for _, s := range []string{"ninebytes ", "'1234567890123'", row(9, "a", " "), strings.Repeat("!", 12) + "a", row(80, "a", "/")} {
		fails(t, s+")", len(s), api.ErrSyntax)
		fails(t, s+"$", len(s), api.ErrSyntax)
		fails(t, s+"/", len(s)+1, api.ErrSyntax)
	}
}

// TestP1AllTextsOfThreeBytes: whatever it is given, it answers, and what it answers is right or an error.
func TestP1AllTextsOfThreeBytes(t *testing.T) {
	some := "a1 \n#.'\"[]^-\\n()/&!?*+<$\x00\x7f\x80\xff"
	for i := range 256 {
		for k := range len(some) {
			for l := range len(some) {
				s := string([]byte{some[k], byte(i), some[l]})
				e, at, err := Parse(s)
				wrong := err != api.OK && !reflect.DeepEqual(e, api.Expr{}) || err != api.ErrSyntax && at != 0 || at < 0 || at > 3
				if wrong || err == api.OK && expr.Check(e) != api.OK {
					t.Fatalf("Parse(%q) = %v, %d, %d", s, e, at, err)
				}
			}
		}
	}
}

// lists: all lists of Kids in e.
func lists(e api.Expr) [][]api.Expr {
	all := [][]api.Expr{e.Kids}
	for _, kid := range e.Kids {
		all = append(all, lists(kid)...)
	}
	return all
}

func TestP2NewMemory(t *testing.T) {
	s := "aa (b / 'cc' / d?) (b / 'cc' / d?) !(e f g)"
	one, _, _ := Parse(s)
	want := fmt.Sprint(one)
	// What is written behind a list, into its spare room, is in no other one.
	for _, l := range lists(one) {
		room := l[:cap(l)]
		for i := len(l); i < len(room); i++ {
			room[i] = ref("spare")
		}
	}
	if got := fmt.Sprint(one); got != want {
		t.Errorf("shared: %s, want %s", got, want)
	}
	for _, l := range lists(one) {
		clear(l)
	}
	if two, _, _ := Parse(s); fmt.Sprint(two) != want {
		t.Errorf("kept: %v, want %s", two, want)
	}
}

func TestP2TextsAreCopies(t *testing.T) {
	s := "name 'literal'"
	begin := uintptr(unsafe.Pointer(unsafe.StringData(s)))
	e, _, _ := Parse(s)
	for _, kid := range e.Kids {
		at := uintptr(unsafe.Pointer(unsafe.StringData(kid.Text)))
		if at >= begin && at < begin+uintptr(len(s)) {
			t.Errorf("%s is a piece of what was handed in", kid.Text)
		}
	}
}
