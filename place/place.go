// Package place: lines and columns: see doc/02-place.md.
package place

import (
	"strings"

	"chaffcutter/api"
)

const newLine = "\n"

// Where: the line and the column of place at of s.
func Where(s string, at int) (api.Pos, api.Errno) {
	if at < 0 || at > len(s) {
		return api.Pos{}, api.ErrArg
	}
	// Cut ahead of counting: of a rune that the place splits only the bytes ahead of it count, each as a sign.
	head := s[:at]
	begin := strings.LastIndex(head, newLine) + 1
	return api.Pos{Line: 1 + strings.Count(head, newLine), Col: 1 + signs(head[begin:])}, api.OK
}

// Back: the place of s that has line and column p.
func Back(s string, p api.Pos) (int, api.Errno) {
	// Asked first: of the least int, less 1 wraps round to the greatest.
	if p.Line < 1 || p.Col < 1 {
		return 0, api.ErrNone
	}
	begin, ok := beginOfLine(s, p.Line)
	if !ok {
		return 0, api.ErrNone
	}
	line, _, _ := strings.Cut(s[begin:], newLine)
	n, ok := behindSigns(line, p.Col-1)
	if !ok {
		return 0, api.ErrNone
	}
	return begin + n, api.OK
}

// beginOfLine: where line number n (from 1 on) begins, if s has it.
func beginOfLine(s string, n int) (int, bool) {
	begin := 0
	for range n - 1 {
		end := strings.Index(s[begin:], newLine)
		if end < 0 {
			return 0, false
		}
		begin += end + 1
	}
	return begin, true
}

// signs: how many signs text has. Range takes a byte with which no right rune begins alone, as a sign is.
func signs(text string) int {
	n := 0
	for range text {
		n++
	}
	return n
}

// behindSigns: the place in line ahead of which n signs stand, if it has so many.
func behindSigns(line string, n int) (int, bool) {
	seen := 0
	for at := range line {
		if seen == n {
			return at, true
		}
		seen++
	}
	return len(line), seen == n
}
