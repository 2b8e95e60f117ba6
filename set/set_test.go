package set

import (
	"math"
	"testing"

	"chaffcutter/api"
)

// some: sets with bits at the edges of words, none and all of them.
func some() []api.Set {
	return []api.Set{
		{},
		{1},
		{1 << 63, 1, 1 << 63, 1},
		{0, 0, 0, 1 << 63},
		{0x38},
		{0xaaaaaaaaaaaaaaaa, 0x5555555555555555, 0xf0f0f0f0f0f0f0f0, 0x0123456789abcdef},
		{math.MaxUint64, 0, math.MaxUint64, 0},
		{math.MaxUint64, math.MaxUint64, math.MaxUint64, math.MaxUint64},
	}
}

// members: what s has, by the words of P3 alone.
func members(s api.Set) [256]bool {
	var m [256]bool
	for w, word := range s {
		for i := range 64 {
			m[64*w+i] = word&(1<<i) != 0
		}
	}
	return m
}

func TestP3RangeHasWhatIsBetween(t *testing.T) {
	bounds := []int{math.MinInt, -256, -64, -1, 0, 1, 62, 63, 64, 65, 97, 127, 128, 191, 192, 254, 255, 256, 257, 511, math.MaxInt}
	for _, low := range bounds {
		for _, high := range bounds {
			for b, has := range members(Range(low, high)) {
				if has != (low <= b && b <= high) {
					t.Fatalf("Range(%d, %d): byte %d: %v", low, high, b, has)
				}
			}
		}
	}
}

func TestP3RangeOrdinary(t *testing.T) {
	for _, x := range []struct {
		low, high int
		want      api.Set
	}{
		{3, 5, api.Set{0x38}},
		{5, 5, api.Set{0x20}},
		{5, 3, api.Set{}},
		{63, 64, api.Set{1 << 63, 1}},
		{255, 255, api.Set{0, 0, 0, 1 << 63}},
		{-5, -1, api.Set{}},
		{256, 300, api.Set{}},
		{300, 200, api.Set{}},
		{-1, 256, Not(api.Set{})},
	} {
		if got := Range(x.low, x.high); got != x.want {
			t.Errorf("Range(%d, %d) = %x, want %x", x.low, x.high, got, x.want)
		}
	}
}

func TestP3HasAndCount(t *testing.T) {
	for _, s := range some() {
		count := 0
		for b, has := range members(s) {
			if Has(s, byte(b)) != has {
				t.Errorf("Has(%x, %d) = %v", s, b, !has)
			}
			if has {
				count++
			}
		}
		if Count(s) != count {
			t.Errorf("Count(%x) = %d, want %d", s, Count(s), count)
		}
	}
}

func TestP3First(t *testing.T) {
	for _, s := range some() {
		want := -1
		if First(s, 256) != -1 || First(s, math.MaxInt) != -1 {
			t.Errorf("First(%x) beyond the bytes", s)
		}
		m := members(s)
		for from := 255; from >= 0; from-- {
			if m[from] {
				want = from
			}
			if got := First(s, from); got != want {
				t.Errorf("First(%x, %d) = %d, want %d", s, from, got, want)
			}
		}
		if First(s, -1) != want || First(s, -64) != want || First(s, math.MinInt) != want {
			t.Errorf("First(%x) ahead of the bytes, want %d", s, want)
		}
	}
	if First(Range(3, 5), 4) != 4 || First(Range(3, 5), 6) != -1 {
		t.Error("the document's example")
	}
}

func TestP3Bytes(t *testing.T) {
	for _, s := range some() {
		want := []byte{}
		for b, has := range members(s) {
			if has {
				want = append(want, byte(b))
			}
		}
		if Bytes(s) != string(want) {
			t.Errorf("Bytes(%x) = %q, want %q", s, Bytes(s), want)
		}
	}
	if got := Bytes(Range(126, 129)); got != "\x7e\x7f\x80\x81" {
		t.Errorf("bytes from 128 on stand for themselves: %q", got)
	}
}

func TestP4JoinMeetNot(t *testing.T) {
	for _, s := range some() {
		a := members(s)
		for b, has := range members(Not(s)) {
			if has == a[b] {
				t.Errorf("Not(%x): byte %d: %v", s, b, has)
			}
		}
		for _, u := range some() {
			c, join, meet := members(u), members(Join(s, u)), members(Meet(s, u))
			for b := range 256 {
				if join[b] != (a[b] || c[b]) || meet[b] != (a[b] && c[b]) {
					t.Errorf("of %x and %x: byte %d: join %v, meet %v", s, u, b, join[b], meet[b])
				}
			}
		}
	}
}

func TestP4Ordinary(t *testing.T) {
	if Join(Range(3, 5), Range(5, 6)) != Range(3, 6) {
		t.Error("join")
	}
	if Meet(Range(3, 5), Range(5, 6)) != Range(5, 5) || Meet(Range(0, 63), Range(64, 255)) != (api.Set{}) {
		t.Error("meet")
	}
	if Not(Range(0, 254)) != Range(255, 255) || Not(api.Set{}) != Range(0, 255) || Not(Range(0, 255)) != (api.Set{}) {
		t.Error("not")
	}
}
