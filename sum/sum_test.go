package sum

import (
	"hash/adler32"
	"math"
	"math/big"
	"strings"
	"testing"
)

// nonces holds numbers of either sign around 0, around multiples of 65521 and
// 65536, and at both ends of the range.
func nonces() []int {
	all := []int{math.MinInt64, math.MinInt64 + 1, math.MaxInt64 - 1, math.MaxInt64}
	for _, n := range []int{0, 65521, 65536, 2 * 65521, 1 << 32, 65521 * 65521, 65521 << 40} {
		for d := -2; d <= 2; d++ {
			all = append(all, n+d, -(n + d))
		}
	}
	return all
}

// strs holds strings of many lengths, among them the empty one, ones that are
// not UTF-8, and long ones whose sums pass 65521 many times.
func strs() []string {
	all := []string{
		"", "a", "b", "ab", "ba", "Wikipedia", "\x00", "\x00\x00", "\xff", "\xff\xfe", "é", "\xc3", "\xe2\x82",
		strings.Repeat("\x00", 1000), strings.Repeat("\x01", 65521), strings.Repeat("\x01", 65522),
		strings.Repeat("ab\x00\x80", 700), mixed(512), mixed(3000),
	}
	for _, n := range []int{2, 10, 255, 256, 257, 258, 512, 5552, 5553, 9000, 70000, 300000} {
		all = append(all, strings.Repeat("\xff", n))
	}
	return all
}

// mixed returns n bytes of all kinds.
func mixed(n int) string {
	b := make([]byte, n)
	x := uint32(1)
	for i := range b {
		x = x*1664525 + 1013904223
		b[i] = byte(x >> 24)
	}
	return string(b)
}

// closed computes the checksum without a running remainder: of n bytes c0, c1,
// .., the first number is |nonce| + c0 + c1 + .., and the second one is
// n|nonce| + n c0 + (n-1) c1 + .., each modulo 65521 at the end only.
func closed(nonce int, s string) int {
	abs := new(big.Int).Abs(big.NewInt(int64(nonce)))
	first, second := int64(0), int64(0)
	for i := range len(s) {
		first += int64(s[i])
		second += int64(len(s)-i) * int64(s[i])
	}
	m := big.NewInt(65521)
	a := new(big.Int).Add(abs, big.NewInt(first))
	b := new(big.Int).Mul(abs, big.NewInt(int64(len(s))))
	b.Add(b, big.NewInt(second))
	return int(65536*b.Mod(b, m).Int64() + a.Mod(a, m).Int64())
}

// Promise 3.1.
func TestSumExamples(t *testing.T) {
	for _, c := range []struct {
		nonce int
		s     string
		want  int
	}{
		{1, "a", 65536*98 + 98},
		{1, "Wikipedia", 0x11e60398},
		{0, "a", 65536*97 + 97},
		{0, "ab", 65536*(97+195) + 195},
		{0, "ba", 65536*(98+195) + 195},
		{0, "\x00", 0},
		{0, "\x00\x00\x00", 0},
		{2, "\x00\x00\x00", 65536*6 + 2},
		{0, "\xff", 65536*255 + 255},
		{0, "\xff\x80", 65536*(255+383) + 383},

		// Of no bytes, the nonce modulo 65521 is all that there is.
		{0, "", 0},
		{1, "", 1},
		{-1, "", 1},
		{65520, "", 65520},
		{65521, "", 0},
		{65522, "", 1},
		{-65520, "", 65520},
		{-65521, "", 0},
		{-65522, "", 1},
		{65535, "", 14},
		{65536, "", 15},
		{-65536, "", 15},
		{2*65521 + 7, "", 7},
		{1 << 32, "", 225},
		{math.MaxInt64, "", 58072},
		{-math.MaxInt64, "", 58072},
		{math.MinInt64, "", 58073},

		// Either number comes to 65521 exactly, and passes it.
		{65520, "\x00", 65536*65520 + 65520},
		{65520, "\x01", 0},
		{65520, "\x02", 65536*1 + 1},
		{65520, "\x00\x00", 65536*65519 + 65520},
		{65520, "\xff", 65536*254 + 254},
		{65521, "\x01", 65536*1 + 1},
		{65522, "\x01", 65536*2 + 2},
		{-65522, "\x01", 65536*2 + 2},
		{32760, "\x00\x01", 65536*0 + 32761},
		{32761, "\x00\x00", 65536*1 + 32761},
		{math.MinInt64, "\x00\x00", 65536*(2*58073-65521) + 58073},
	} {
		if got := Sum(c.nonce, c.s); got != c.want {
			t.Errorf("Sum(%d, %q) = %d, want %d", c.nonce, c.s, got, c.want)
		}
	}
}

// Promise 3.1: with the nonce 1, the definition is that of Adler-32.
func TestSumIsAdler(t *testing.T) {
	for _, s := range strs() {
		want := int(adler32.Checksum([]byte(s)))
		for _, nonce := range []int{1, -1, 65522, -65522} {
			if got := Sum(nonce, s); got != want {
				t.Errorf("Sum(%d, %d bytes) = %d, want %d", nonce, len(s), got, want)
			}
		}
	}
}

// Promise 3.1: any nonce, against the closed form of the definition.
func TestSumOfAnyNonce(t *testing.T) {
	for _, s := range strs() {
		for _, nonce := range nonces() {
			if got, want := Sum(nonce, s), closed(nonce, s); got != want {
				t.Errorf("Sum(%d, %d bytes) = %d, want %d", nonce, len(s), got, want)
			}
		}
	}
}

// Promise 3.1: both numbers of a checksum are less than 65521.
func TestSumRange(t *testing.T) {
	s := strings.Repeat("\xff", 1000)
	for nonce := 65000; nonce < 66000; nonce++ {
		for _, k := range []int{0, 1, 2, 257, 1000} {
			if got := Sum(nonce, s[:k]); got < 0 || got/65536 >= 65521 || got%65536 >= 65521 {
				t.Errorf("Sum(%d, %d bytes) = %d", nonce, k, got)
			}
		}
	}
}

// Promise 3.2: Sum is the checksum of what was appended so far, and asking for
// it changes nothing.
func TestRunning(t *testing.T) {
	for _, nonce := range nonces() {
		r, sofar := New(nonce), ""
		if r == nil {
			t.Fatalf("New(%d) is nil", nonce)
		}
		if got, want := r.Sum(), closed(nonce, ""); got != want {
			t.Errorf("New(%d).Sum() = %d, want %d", nonce, got, want)
		}
		for _, piece := range []string{"a", "", "bc", "\xff", "", mixed(600), "é", strings.Repeat("\xff", 600), "\x00"} {
			r.Add(piece)
			sofar += piece
			want := closed(nonce, sofar)
			for range 2 {
				if got := r.Sum(); got != want {
					t.Errorf("nonce %d, %d bytes: %d, want %d", nonce, len(sofar), got, want)
				}
			}
		}
	}
}

// Promise 3.2: an Add of nothing appends nothing, before, between and after.
func TestAddOfNothing(t *testing.T) {
	r := New(5)
	for range 3 {
		r.Add("")
	}
	if got := r.Sum(); got != 5 {
		t.Errorf("of nothing: %d, want 5", got)
	}
	r.Add("a")
	r.Add("")
	r.Add("b")
	r.Add("")
	if got, want := r.Sum(), closed(5, "ab"); got != want {
		t.Errorf("of ab: %d, want %d", got, want)
	}
}

// Promise 3.2: running checksums do not share anything.
func TestRunningsAreSeparate(t *testing.T) {
	p, q, same := New(3), New(4), New(3)
	p.Add("one")
	q.Add("two")
	p.Add("more")
	if got, want := p.Sum(), closed(3, "onemore"); got != want {
		t.Errorf("the first: %d, want %d", got, want)
	}
	if got, want := q.Sum(), closed(4, "two"); got != want {
		t.Errorf("the second: %d, want %d", got, want)
	}
	if got := same.Sum(); got != 3 {
		t.Errorf("the third: %d, want 3", got)
	}
}

// Promise 3.2, P1.
func TestNilRunning(t *testing.T) {
	var r *Running
	if got := r.Sum(); got != 0 {
		t.Errorf("Sum of nil = %d", got)
	}
	for _, s := range strs() {
		r.Add(s)
		if got := r.Sum(); got != 0 {
			t.Errorf("Sum of nil after an Add of %d bytes = %d", len(s), got)
		}
	}
}

// Promise 3.3: pieces of any one size, and two pieces divided at any place.
func TestDivision(t *testing.T) {
	texts := []string{mixed(600), strings.Repeat("\xff", 600), strings.Repeat("é", 300)}
	for _, nonce := range []int{0, 1, -7, 65520, 65521, 65522, math.MaxInt64, math.MinInt64} {
		for _, s := range texts {
			want := Sum(nonce, s)
			for k := 1; k <= len(s); k++ {
				even, two := New(nonce), New(nonce)
				for i := 0; i < len(s); i += k {
					even.Add(s[i:min(i+k, len(s))])
				}
				two.Add(s[:k])
				two.Add(s[k:])
				if even.Sum() != want || two.Sum() != want {
					t.Errorf("nonce %d, pieces of %d: %d; divided there: %d; want %d", nonce, k, even.Sum(), two.Sum(), want)
				}
			}
		}
	}
}

// Promise 3.3: many small pieces against one large one.
func TestManySmallPieces(t *testing.T) {
	for _, s := range []string{strings.Repeat("\xff", 300000), mixed(300000)} {
		r := New(-65520)
		for i := range len(s) {
			r.Add(s[i : i+1])
		}
		if got, want := r.Sum(), Sum(-65520, s); got != want {
			t.Errorf("byte by byte: %d, want %d", got, want)
		}
	}
}

// Promise 3.3: one byte that is changed, at either end or between, to any other byte.
func TestOneChangedByte(t *testing.T) {
	for _, s := range []string{"a", "\x00", "\xff", mixed(300), strings.Repeat("\xff", 300), strings.Repeat("\x00", 70000)} {
		last := len(s) - 1
		for _, nonce := range []int{0, 1, 65520, 65521, 65522, -9, math.MinInt64} {
			old := Sum(nonce, s)
			for _, at := range []int{0, last / 2, last} {
				head, tail := New(nonce), s[at+1:]
				head.Add(s[:at])
				// A long tail takes its time, so that not every byte is tried there.
				step := 1 + len(tail)/1000
				for c := 0; c < 256; c += step {
					if byte(c) == s[at] {
						continue
					}
					r := *head
					r.Add(string([]byte{byte(c)}))
					r.Add(tail)
					if r.Sum() == old {
						t.Errorf("nonce %d: byte %d of %d is changed to %d, the checksum is still %d", nonce, at, len(s), c, old)
					}
				}
			}
		}
	}
}
