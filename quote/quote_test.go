package quote

import (
	"fmt"
	"math"
	"regexp"
	"strings"
	"testing"

	"chaffcutter/api"
	"chaffcutter/set"
)

// setOf: the set of the bytes of s.
func setOf(s string) api.Set {
	var all api.Set
	for i := range len(s) {
		all = set.Join(all, set.Range(int(s[i]), int(s[i])))
	}
	return all
}

// eachText: every text of at most n out of pieces, one behind the other.
func eachText(pieces []string, n int, tell func(string)) {
	tell("")
	if n == 0 {
		return
	}
	for _, p := range pieces {
		eachText(pieces, n-1, func(rest string) { tell(p + rest) })
	}
}

// unescape: a replacer of all that may stand behind a \, with the signs that have only themselves there.
func unescape(signs string) *strings.Replacer {
	pairs := []string{`\n`, "\n", `\t`, "\t"}
	for i := range len(signs) {
		pairs = append(pairs, `\`+signs[i:i+1], signs[i:i+1])
	}
	for b := range 256 {
		pairs = append(pairs, fmt.Sprintf(`\x%02x`, b), string([]byte{byte(b)}))
	}
	return strings.NewReplacer(pairs...)
}

func TestP7LitOrdinaryAndEdges(t *testing.T) {
	for s, want := range map[string]string{
		"":                 `''`,
		"abc":              `'abc'`,
		"a b":              `'a b'`,
		"'":                `'\''`,
		`"`:                `'"'`,
		`\`:                `'\\'`,
		`\n`:               `'\\n'`,
		"\n\t":             `'\n\t'`,
		"\r":               `'\x0d'`,
		"\x00\x1f !":       `'\x00\x1f !'`,
		"}~\x7f\x80":       `'}~\x7f\x80'`,
		"[]-^":             `'[]-^'`,
		"\xc3\xa9":         `'\xc3\xa9'`,
		"\xab\xcd\xef\xff": `'\xab\xcd\xef\xff'`,
	} {
		if got := Lit(s); got != want {
			t.Errorf("Lit(%q) = %s, want %s", s, got, want)
		}
	}
}

// written: how byte b is written where those from low to 126 stand as they are, but for the guarded ones.
func written(b, low int, guarded string) string {
	switch {
	case b == 10:
		return `\n`
	case b == 9:
		return `\t`
	case strings.Contains(guarded, string(rune(b))):
		return `\` + string(rune(b))
	case b >= low && b <= 126:
		return string(rune(b))
	}
	return fmt.Sprintf(`\x%02x`, b)
}

func TestP7LitOfEachByte(t *testing.T) {
	for b := range 256 {
		if got := Lit(string([]byte{'a', byte(b), 'b'})); got != "'a"+written(b, 32, `'\`)+"b'" {
			t.Errorf("byte %d: %s", b, got)
		}
	}
}

func TestP8UnlitOfLit(t *testing.T) {
	for a := range 256 {
		for b := range 256 {
			s := string([]byte{byte(a), byte(b)})
			lit := Lit(s)
			if got, n, e := Unlit(lit + lit); got != s || n != len(lit) || e != api.OK {
				t.Fatalf("Unlit(%s) = %q, %d, %d", lit+lit, got, n, e)
			}
		}
	}
}

func TestP8UnlitReads(t *testing.T) {
	for _, x := range []struct {
		s, want string
		n       int
	}{
		{`''`, "", 2},
		{`""`, "", 2},
		{`'''`, "", 2},
		{`'abc' 'd'`, "abc", 5},
		{`"it's"`, "it's", 6},
		{`'say "a"'`, `say "a"`, 9},
		{`'\"\''x`, `"'`, 6},
		{`"\"\'"x`, `"'`, 6},
		{`'\n\t\\'`, "\n\t\\", 8},
		{`'\\'n'`, `\`, 4},
		{`'\x00\x7f\xff'`, "\x00\x7f\xff", 14},
		{`'\x414'`, "A4", 7},
		{`'[^-]'`, "[^-]", 6},
		{"'\t\r\x00\x7f\xff'", "\t\r\x00\x7f\xff", 7},
		{"'\xc3\xa9'", "\xc3\xa9", 4},
		{"'a'\n'", "a", 3},
	} {
		if got, n, e := Unlit(x.s); got != x.want || n != x.n || e != api.OK {
			t.Errorf("Unlit(%q) = %q, %d, %d", x.s, got, n, e)
		}
	}
}

func TestP8UnlitOfNone(t *testing.T) {
	for _, s := range []string{
		"", " ''", "a", "`a`", `\'a'`, "[a]", "'", `"`, "'a", `'a"`, `"a'`, `'a\'`, `'a\`, `'\\\'`,
		"'a\n'", "'\\\n'", "'a\nb", `'\q'`, `'\r'`, `'\N'`, `'\T'`, `'\X41'`, `'\0'`, `'\['`, `'\]'`, `'\-'`, `'\^'`,
		`'\x'`, `'\x4'`, `'\x4`, `'\x`, `'\xg0'`, `'\x0g'`, `'\xAB'`, `'\xaB'`, `'\xAb'`, `'\x 1'`, `'\x+1'`, `'\x4:'`, "'\\x4`'",
	} {
		if got, n, e := Unlit(s); got != "" || n != 0 || e != api.ErrSyntax {
			t.Errorf("Unlit(%q) = %q, %d, %d", s, got, n, e)
		}
	}
}

// The form of a literal, told a second time by a regular expression.
func TestP8UnlitOfAllShortTexts(t *testing.T) {
	one := `\\[nt\\'"]|\\x[0-9a-f][0-9a-f]`
	form := regexp.MustCompile(`^(?:'((?:[^'\\\n]|` + one + `)*)'|"((?:[^"\\\n]|` + one + `)*)")`)
	meaning := unescape(`\'"`)
	eachText([]string{"'", `"`, `\`, "n", "x", "4", "f", "A", "\n", "\xff"}, 6, func(s string) {
		want, wantN, wantE := "", 0, api.ErrSyntax
		if m := form.FindStringSubmatch(s); m != nil {
			want, wantN, wantE = meaning.Replace(m[1]+m[2]), len(m[0]), api.OK
		}
		if got, n, e := Unlit(s); got != want || n != wantN || e != wantE {
			t.Fatalf("Unlit(%q) = %q, %d, %d, want %q, %d, %d", s, got, n, e, want, wantN, wantE)
		}
	})
}

func TestP9ClassOrdinaryAndEdges(t *testing.T) {
	for _, x := range []struct {
		s    api.Set
		want string
	}{
		{api.Set{}, `[]`},
		{setOf("a"), `[a]`},
		{setOf("ab"), `[ab]`},
		{setOf("abc"), `[a-c]`},
		{setOf("ac"), `[ac]`},
		{setOf("zyxabqcp"), `[a-cpqx-z]`},
		{setOf("\t"), `[\t]`},
		{setOf("\n"), `[\n]`},
		{setOf("\t\n"), `[\t\n]`},
		{set.Range(9, 11), `[\t-\x0b]`},
		{set.Range(8, 10), `[\x08-\n]`},
		{setOf(" "), `[\x20]`},
		{setOf("!"), `[!]`},
		{set.Range(' ', '~'), `[\x20-~]`},
		{set.Range('~', 128), `[~-\x80]`},
		{setOf("\x7f"), `[\x7f]`},
		{setOf("[]"), `[\[\]]`},
		{set.Range('[', ']'), `[\[-\]]`},
		{setOf("\\"), `[\\]`},
		{set.Range('[', '^'), `[\[-\^]`},
		{setOf("-"), `[\-]`},
		{setOf("^"), `[\^]`},
		{set.Range('+', '-'), `[+-\-]`},
		{set.Range('-', '/'), `[\--/]`},
		{setOf("'\""), `["']`},
		{set.Range(0, 255), `[\x00-\xff]`},
		{set.Range(254, 255), `[\xfe\xff]`},
		{set.Range(255, 255), `[\xff]`},
		{set.Range(0, 0), `[\x00]`},
		{set.Range(63, 64), `[?@]`},
		{set.Range(62, 65), `[>-A]`},
		{set.Not(setOf("\n")), `[\x00-\t\x0b-\xff]`},
	} {
		if got := Class(x.s); got != x.want {
			t.Errorf("Class(%x) = %s, want %s", x.s, got, x.want)
		}
	}
}

func TestP9ClassOfEachByte(t *testing.T) {
	for b := range 256 {
		if got := Class(set.Range(b, b)); got != "["+written(b, 33, `[]-^\`)+"]" {
			t.Errorf("byte %d: %s", b, got)
		}
	}
}

func TestP10UnclassOfClass(t *testing.T) {
	holds := func(s api.Set) {
		class := Class(s)
		if got, n, e := Unclass(class + class); got != s || n != len(class) || e != api.OK {
			t.Fatalf("Unclass(%s) = %x, %d, %d, want %x", class+class, got, n, e, s)
		}
	}
	for low := range 256 {
		for high := low; high < 256; high++ {
			holds(set.Range(low, high))
			holds(set.Not(set.Range(low, high)))
		}
	}
	// Sets of many runs of many lengths: a bit is there as a square says.
	for k := 1; k < 200; k++ {
		var s api.Set
		for b := range 256 {
			if b*b*k%19 < 8 {
				s = set.Join(s, set.Range(b, b))
			}
		}
		holds(s)
	}
}

func TestP10UnclassReads(t *testing.T) {
	all := set.Range(0, 255)
	for _, x := range []struct {
		s    string
		want api.Set
		n    int
	}{
		{`[]`, api.Set{}, 2},
		{`[]a]`, api.Set{}, 2},
		{`[^]`, all, 3},
		{`[^]a]`, all, 3},
		{`[a-cx]`, setOf("abcx"), 6},
		{`[aab-da-c]`, setOf("abcd"), 10},
		{`[a-a]`, setOf("a"), 5},
		{`[^a-c]`, set.Not(setOf("abc")), 6},
		{`[^^]`, set.Not(setOf("^")), 4},
		{`[a^]`, setOf("a^"), 4},
		{`[\^a]`, setOf("^a"), 5},
		{`[^\^]`, set.Not(setOf("^")), 5},
		{`[-]`, setOf("-"), 3},
		{`[--]`, setOf("-"), 4},
		{`[---]`, setOf("-"), 5},
		{`[-a]`, setOf("-a"), 4},
		{`[a-]`, setOf("a-"), 4},
		{`[^-]`, set.Not(setOf("-")), 4},
		{`[^-a]`, set.Not(setOf("-a")), 5},
		{`[^a-]`, set.Not(setOf("a-")), 5},
		{`[--/]`, setOf("-./"), 5},
		{`[+--]`, setOf("+,-"), 5},
		{`[+--a]`, setOf("+,-a"), 6},
		{`[a-c-e]`, setOf("abc-e"), 7},
		{`[a-c-]`, setOf("abc-"), 6},
		{`[a-c-e-g]`, setOf("abc-efg"), 9},
		{`[a-c--0]`, setOf("abc-./0"), 8},
		{`[+\-a]`, setOf("+-a"), 6},
		{`[+-\-]`, setOf("+,-"), 6},
		{`[\--/]`, setOf("-./"), 6},
		{`[a\x2dc]`, setOf("a-c"), 8},
		{`[[]`, setOf("["), 3},
		{`[[a]`, setOf("[a"), 4},
		{`[\[\]]`, setOf("[]"), 6},
		{`[[-\]]`, setOf(`[\]`), 6},
		{`[\]-]`, setOf("]-"), 5},
		{`[\\]]`, setOf(`\`), 4},
		{`[\n\t]`, setOf("\n\t"), 6},
		{`[\t-\n]`, setOf("\t\n"), 7},
		{`[\x41-\x43]`, setOf("ABC"), 11},
		{`[\x414]`, setOf("A4"), 7},
		{`[\x00-\xff]`, all, 11},
		{`["']`, setOf(`"'`), 4},
		{"[ \t\r\x00\x7f\xff]", setOf(" \t\r\x00\x7f\xff"), 8},
		{"[\xc3\xa9]", setOf("\xc3\xa9"), 4},
		{"[a-\xc3\xa9]", set.Range('a', 0xc3), 6},
		{"[a]\n]", setOf("a"), 3},
	} {
		if got, n, e := Unclass(x.s); got != x.want || n != x.n || e != api.OK {
			t.Errorf("Unclass(%q) = %x, %d, %d, want %x, %d", x.s, got, n, e, x.want, x.n)
		}
	}
}

func TestP10UnclassOfNone(t *testing.T) {
	for _, s := range []string{
		"", "a", " []", "]", "^a]", "'a'", "[", "[^", "[a", "[^a", "[a-", "[a-b", "[-", `[\`, `[\]`, `[a\]`, `[a-\]`, `[\\\]`,
		"[a\n]", "[\n]", "[\\\n]", "[a-\n]", "[^\n]", `[\q]`, `[\']`, `[\"]`, `[\r]`, `[\N]`, `[a-\q]`, `[\x]`, `[\x4]`, `[\x4`, `[\x`,
		`[\xAB]`, `[\xg0]`, `[\x0g]`, `[a-\x4]`, `[\X41]`,
		"[b-a]", "[a--]", `[a-\]]`, `[a-\-]`, "[^b-a]", "[xb-ay]", `[\xff-\xfe]`, "[\xff-a]", "[a-cz-x]",
	} {
		if got, n, e := Unclass(s); got != (api.Set{}) || n != 0 || e != api.ErrSyntax {
			t.Errorf("Unclass(%q) = %x, %d, %d", s, got, n, e)
		}
	}
}

// classByForm: what Unclass should answer, told a second time by regular expressions.
func classByForm(form, member *regexp.Regexp, meaning *strings.Replacer, s string) (api.Set, int, api.Errno) {
	m := form.FindStringSubmatch(s)
	if m == nil {
		return api.Set{}, 0, api.ErrSyntax
	}
	var said api.Set
	for _, p := range member.FindAllStringSubmatch(m[2], -1) {
		low := meaning.Replace(p[1])
		high := low
		if p[2] != "" {
			high = meaning.Replace(p[2])
		}
		if low[0] > high[0] {
			return api.Set{}, 0, api.ErrSyntax
		}
		said = set.Join(said, set.Range(int(low[0]), int(high[0])))
	}
	if m[1] != "" {
		said = set.Not(said)
	}
	return said, len(m[0]), api.OK
}

func TestP10UnclassOfAllShortTexts(t *testing.T) {
	one := `(?:[^\]\\\n]|\\[nt\[\]\-^\\]|\\x[0-9a-f][0-9a-f])`
	form := regexp.MustCompile(`^\[(\^?)(` + one + `*)\]`)
	member := regexp.MustCompile(`(` + one + `)(?:-(` + one + `))?`)
	meaning := unescape(`[]-^\`)
	eachText([]string{"[", "]", "-", "^", `\`, "n", `\x2e`, "a", "\xff", "\n"}, 5, func(rest string) {
		for _, s := range []string{rest, "[" + rest + "]"} {
			want, wantN, wantE := classByForm(form, member, meaning, s)
			if got, n, e := Unclass(s); got != want || n != wantN || e != wantE {
				t.Fatalf("Unclass(%q) = %x, %d, %d, want %x, %d, %d", s, got, n, e, want, wantN, wantE)
			}
		}
	})
}

func TestP11Dec(t *testing.T) {
	for _, n := range []int{0, 1, -1, 9, 10, -70, 99, 100, 120, 999999999, -999999999, math.MaxInt, math.MinInt} {
		if got := Dec(n); got != fmt.Sprint(n) {
			t.Errorf("Dec(%d) = %s", n, got)
		}
	}
}

func TestP11UndecReads(t *testing.T) {
	for _, n := range []int{0, 1, 7, 9, 10, 42, 100, 120, 12345678, 99999999, 100000000, 123456789, 999999999} {
		if got, e := Undec(fmt.Sprint(n)); got != n || e != api.OK {
			t.Errorf("Undec(%d) = %d, %d", n, got, e)
		}
	}
}

func TestP11UndecOfNone(t *testing.T) {
	for _, s := range []string{
		"", "00", "01", "000000000", "012345678", "-", "-1", "-0", "+1", " 1", "1 ", "1a", "a", "0x1", "1_0", "1.0", "1e3", "1\n",
		"/", ":", "1/", "1:", "1000000000", "1234567890", "0000000001", "99999999999999999999", "\xd9\xa1", "1\x00",
	} {
		if got, e := Undec(s); got != 0 || e != api.ErrForm {
			t.Errorf("Undec(%q) = %d, %d", s, got, e)
		}
	}
}
