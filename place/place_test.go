package place

import (
	"math"
	"testing"
	"unicode/utf8"

	"chaffcutter/api"
)

// signEnds: the places between the signs of text, its beginning and its end with them, by the words of P5 alone.
func signEnds(text string) []int {
	ends := []int{0}
	for at := 0; at < len(text); {
		_, size := utf8.DecodeRuneInString(text[at:])
		at += size
		ends = append(ends, at)
	}
	return ends
}

// lineBegins: where the lines of text begin.
func lineBegins(text string) []int {
	begins := []int{0}
	for i := range len(text) {
		if text[i] == 10 {
			begins = append(begins, i+1)
		}
	}
	return begins
}

// eachText hands all texts of at most four pieces to f: right runes, parts of runes, bytes of none, ends of lines.
func eachText(f func(string)) {
	pieces := []string{"a", "\n", "\r", "\u00e9", "\u20ac", "\U0001f33e", "\xc3", "\xe2", "\x82", "\xf0\x9f", "\xff"}
	var longer func(string, int)
	longer = func(text string, left int) {
		f(text)
		if left == 0 {
			return
		}
		for _, p := range pieces {
			longer(text+p, left-1)
		}
	}
	longer("", 4)
}

func TestP5Where(t *testing.T) {
	for _, x := range []struct {
		text      string
		at        int
		line, col int
	}{
		{"", 0, 1, 1},
		{"a\nb", 3, 2, 2},
		{"a\nb", 1, 1, 2},
		{"a\nb", 2, 2, 1},
		{"a\n", 2, 2, 1},
		{"\n\n\n", 3, 4, 1},
		{"a\r\nb", 2, 1, 3},
		{"a\r\nb", 4, 2, 2},
		{"\r\r", 2, 1, 3},
		{"\u00e9x", 3, 1, 3},
		{"\u20acx", 3, 1, 2},
		{"\U0001f33ex", 5, 1, 3},
		{"\ufffdx", 3, 1, 2},
		{"e\u0301", 3, 1, 3},
		{"a\x00b", 2, 1, 3},
		{"\u2028a", 4, 1, 3},
	} {
		p, e := Where(x.text, x.at)
		if p != (api.Pos{Line: x.line, Col: x.col}) || e != api.OK {
			t.Errorf("Where(%q, %d) = %v, %v", x.text, x.at, p, e)
		}
	}
}

func TestP5BytesOfNoRune(t *testing.T) {
	for _, x := range []struct {
		text string
		col  int
	}{
		{"\xff\xff", 3},
		{"\x80\x80\x80", 4},
		{"\xc0\x80", 3},         // longer than it need be
		{"\xed\xa0\x80", 4},     // half of a pair
		{"\xf4\x90\x80\x80", 5}, // beyond the last rune
		{"\xe2\x82", 3},         // cut short: each byte alone
		{"\xe2\x82a", 4},
		{"\xe2\u00e9", 3},
	} {
		p, e := Where(x.text, len(x.text))
		if p != (api.Pos{Line: 1, Col: x.col}) || e != api.OK {
			t.Errorf("Where at the end of %q = %v, %v, want column %d", x.text, p, e, x.col)
		}
	}
}

func TestP5WithinRune(t *testing.T) {
	text := "\n\u20ac\u20ac"
	for at, col := range map[int]int{1: 1, 2: 2, 3: 3, 4: 2, 5: 3, 6: 4, 7: 3} {
		p, e := Where(text, at)
		if p != (api.Pos{Line: 2, Col: col}) || e != api.OK {
			t.Errorf("Where(%q, %d) = %v, %v, want column %d", text, at, p, e, col)
		}
	}
}

func TestP5WrongPlace(t *testing.T) {
	for _, text := range []string{"", "a", "a\nb", "\xff\u20ac"} {
		for _, at := range []int{math.MinInt, -1, len(text) + 1, math.MaxInt} {
			if p, e := Where(text, at); p != (api.Pos{}) || e != api.ErrArg {
				t.Errorf("Where(%q, %d) = %v, %v", text, at, p, e)
			}
		}
	}
}

func TestP5AllPlaces(t *testing.T) {
	eachText(func(text string) {
		for at := range len(text) + 1 {
			begins := lineBegins(text[:at])
			begin := begins[len(begins)-1]
			want := api.Pos{Line: len(begins), Col: len(signEnds(text[begin:at]))}
			if p, e := Where(text, at); p != want || e != api.OK {
				t.Fatalf("Where(%q, %d) = %v, %v, want %v", text, at, p, e, want)
			}
		}
	})
}

func TestP6Back(t *testing.T) {
	for _, x := range []struct {
		text            string
		line, col, want int
	}{
		{"", 1, 1, 0},
		{"a\nb", 2, 2, 3},
		{"a\nb", 1, 2, 1},
		{"a\nb", 2, 1, 2},
		{"a\n", 2, 1, 2},
		{"\n\n", 2, 1, 1},
		{"a\u00e9\n\xff\xffb", 1, 3, 3},
		{"a\u00e9\n\xff\xffb", 2, 4, 7},
		{"\u20ac\u20ac", 1, 2, 3},
		{"\u20ac\u20ac", 1, 3, 6},
		{"\xe2\x82a", 1, 3, 2},
		{"a\r\nb", 1, 3, 2},
	} {
		n, e := Back(x.text, api.Pos{Line: x.line, Col: x.col})
		if n != x.want || e != api.OK {
			t.Errorf("Back(%q, %d:%d) = %d, %v, want %d", x.text, x.line, x.col, n, e, x.want)
		}
	}
}

func TestP6NoSuchPlace(t *testing.T) {
	wrong := []int{math.MinInt, math.MinInt + 1, -1, 0, math.MaxInt}
	for _, text := range []string{"", "a", "a\nb", "\n", "\xff\u20ac"} {
		for _, n := range wrong {
			for _, p := range []api.Pos{{Line: n, Col: 1}, {Line: 1, Col: n}, {Line: n, Col: n}} {
				if at, e := Back(text, p); at != 0 || e != api.ErrNone {
					t.Errorf("Back(%q, %v) = %d, %v", text, p, at, e)
				}
			}
		}
	}
	for _, p := range []api.Pos{{Line: 1, Col: 3}, {Line: 2, Col: 4}, {Line: 3, Col: 1}} {
		if at, e := Back("a\n\u20acb", p); at != 0 || e != api.ErrNone {
			t.Errorf("beyond: Back(%v) = %d, %v", p, at, e)
		}
	}
}

func TestP6AllColumns(t *testing.T) {
	eachText(func(text string) {
		begins := append(lineBegins(text), len(text)+1)
		for i, begin := range begins[:len(begins)-1] {
			ends := signEnds(text[begin : begins[i+1]-1])
			for col := 1; col <= len(ends); col++ {
				at, e := Back(text, api.Pos{Line: i + 1, Col: col})
				if at != begin+ends[col-1] || e != api.OK {
					t.Fatalf("Back(%q, %d:%d) = %d, %v", text, i+1, col, at, e)
				}
			}
			if at, e := Back(text, api.Pos{Line: i + 1, Col: len(ends) + 1}); at != 0 || e != api.ErrNone {
				t.Fatalf("Back(%q, %d:%d) = %d, %v", text, i+1, len(ends)+1, at, e)
			}
		}
		if at, e := Back(text, api.Pos{Line: len(begins), Col: 1}); at != 0 || e != api.ErrNone {
			t.Fatalf("Back(%q, %d:1) = %d, %v", text, len(begins), at, e)
		}
	})
}
