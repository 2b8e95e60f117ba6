package read

import (
	"strings"

	"chaffcutter/api"
	"chaffcutter/quote"
	"chaffcutter/set"
)

const (
	blanks    = " \t\n\r"
	letters   = "abcdefghijklmnopqrstuvwxyzABCDEFGHIJKLMNOPQRSTUVWXYZ"
	digits    = "0123456789"
	signs     = "()/&!?*+"
	arrowSign = "<-"
	remark    = "#"
	newLine   = "\n"
	lastByte  = 255
)

// What a token may be beside a sign; the kind of a sign is its byte, and these are none of those.
const (
	endOfText byte = iota
	leaf           // a literal, a class, a name or . : it says an expression all by itself
	arrow
	head // a name and the arrow behind it, where they are one token
)

// token: what stands in a text from place at up to place end.
type token struct {
	kind    byte
	at, end int
	says    api.Expr // of a leaf, and of the name of a head
}

// tokenFrom: the first token of s from place from on. What is no token is thrown.
func tokenFrom(s string, from int) token {
	rest := behindBlanks(s[from:])
	at := len(s) - len(rest)
	switch {
	case rest == "":
		return token{kind: endOfText, at: at, end: at}
	case strings.HasPrefix(rest, arrowSign):
		return token{kind: arrow, at: at, end: at + len(arrowSign)}
	case strings.IndexByte(signs, rest[0]) >= 0:
		return token{kind: rest[0], at: at, end: at + 1}
	}
	says, n := leafAt(rest)
	if n == 0 {
		panic(fault{at})
	}
	return token{kind: leaf, at: at, end: at + n, says: says}
}

// withArrow: t, which stands in s, with the arrow that comes behind it, if it is a name and there is one. Nothing but an arrow is looked for: what else comes behind may be no token, but t is held against its place first.
func withArrow(s string, t token) token {
	rest := behindBlanks(s[t.end:])
	if t.kind == leaf && t.says.Kind == api.ERef && strings.HasPrefix(rest, arrowSign) {
		t.kind, t.end = head, len(s)-len(rest)+len(arrowSign)
	}
	return t
}

// behindBlanks: rest without the blanks and remarks at its beginning.
func behindBlanks(rest string) string {
	rest = strings.TrimLeft(rest, blanks)
	for strings.HasPrefix(rest, remark) {
		_, rest, _ = strings.Cut(rest, newLine)
		rest = strings.TrimLeft(rest, blanks)
	}
	return rest
}

// leafAt: what the leaf at the beginning of rest says, and how many bytes it has; 0, if none stands there.
func leafAt(rest string) (api.Expr, int) {
	switch {
	case rest[0] == '\'' || rest[0] == '"':
		return literalAt(rest)
	case rest[0] == '[':
		// No class has no bytes, so the error has nothing to add.
		members, n, _ := quote.Unclass(rest)
		return api.Expr{Kind: api.ESet, Set: members}, n
	case rest[0] == '.':
		return api.Expr{Kind: api.ESet, Set: set.Range(0, lastByte)}, 1
	case strings.IndexByte(letters, rest[0]) >= 0:
		n := len(rest) - len(strings.TrimLeft(rest, letters+digits))
		// A copy: an answer shares no memory with the text that was handed in.
		return api.Expr{Kind: api.ERef, Text: strings.Clone(rest[:n])}, n
	}
	return api.Expr{}, 0
}

func literalAt(rest string) (api.Expr, int) {
	text, n, _ := quote.Unlit(rest)
	if text == "" {
		return api.Expr{Kind: api.EEmpty}, n
	}
	return api.Expr{Kind: api.ELit, Text: text}, n
}
