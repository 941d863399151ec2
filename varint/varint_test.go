package varint

import (
	"math"
	"sort"
	"strings"
	"testing"

	"annexe/api"
)

const firstOfNine = 1 << 56

// numbers holds, in increasing order and each once, small numbers, the
// numbers around each power of two, and the greatest ones.
func numbers() []uint64 {
	seen := map[uint64]struct{}{}
	for n := range uint64(1000) {
		seen[n] = struct{}{}
		seen[math.MaxUint64-n] = struct{}{}
		seen[firstOfNine+n-500] = struct{}{}
	}
	for bit := range 64 {
		p := uint64(1) << bit
		for _, n := range []uint64{p - 2, p - 1, p, p + 1, p + p/3, p + p/2, p ^ 0x5555555555555555} {
			seen[n] = struct{}{}
		}
	}
	// A multiplier with bits all over spreads numbers over the whole range.
	for i := range uint64(1000) {
		seen[i*0x9e3779b97f4a7c15>>(i%64)] = struct{}{}
	}
	var all []uint64
	for n := range seen {
		all = append(all, n)
	}
	sort.Slice(all, func(i, j int) bool { return all[i] < all[j] })
	return all
}

// ints holds ints of either sign, among them the least and the greatest one.
func ints() []int {
	all := []int{math.MinInt64}
	for _, n := range numbers() {
		if n <= math.MaxInt64 {
			all = append(all, int(n), -int(n), ^int(n))
		}
	}
	return all
}

// spell writes the encoding by the words of the chapter, bit by bit: the bits
// of the number from the left, in groups of seven, each behind its flag.
func spell(n uint64) string {
	bits := ""
	for i := 63; i >= 0; i-- {
		bits += string(rune('0' + n>>i&1))
	}
	tail := ""
	if n < firstOfNine {
		bits = strings.TrimLeft(bits, "0")
		for bits == "" || len(bits)%7 != 0 {
			bits = "0" + bits
		}
	} else {
		bits, tail = bits[:56], bits[56:]
	}
	out := ""
	for i := 0; i < len(bits); i += 7 {
		flag := "1"
		if i+7 == len(bits) && tail == "" {
			flag = "0"
		}
		out += flag + bits[i:i+7]
	}
	return packed(out + tail)
}

// packed returns the bytes of which the bits are given.
func packed(bits string) string {
	var b []byte
	for i := 0; i < len(bits); i += 8 {
		c := 0
		for _, bit := range bits[i : i+8] {
			c = 2*c + int(bit-'0')
		}
		b = append(b, byte(c))
	}
	return string(b)
}

// Promise 2.1.
func TestPutExamples(t *testing.T) {
	for _, c := range []struct {
		n    uint64
		want string
	}{
		{0, "\x00"},
		{1, "\x01"},
		{127, "\x7f"},
		{128, "\x81\x00"},
		{129, "\x81\x01"},
		{255, "\x81\x7f"},
		{256, "\x82\x00"},
		{300, "\x82\x2c"},
		{1<<14 - 1, "\xff\x7f"},
		{1 << 14, "\x81\x80\x00"},
		{1<<21 - 1, "\xff\xff\x7f"},
		{1 << 21, "\x81\x80\x80\x00"},
		{1<<28 - 1, "\xff\xff\xff\x7f"},
		{1 << 28, "\x81\x80\x80\x80\x00"},
		{1 << 35, "\x81\x80\x80\x80\x80\x00"},
		{1 << 42, "\x81\x80\x80\x80\x80\x80\x00"},
		{1<<49 - 1, "\xff\xff\xff\xff\xff\xff\x7f"},
		{1 << 49, "\x81\x80\x80\x80\x80\x80\x80\x00"},
		{1<<56 - 1, "\xff\xff\xff\xff\xff\xff\xff\x7f"},

		// The first of eight groups may be zero, unlike that of fewer.
		{1 << 56, "\x80\xc0\x80\x80\x80\x80\x80\x80\x00"},
		{1<<56 + 1, "\x80\xc0\x80\x80\x80\x80\x80\x80\x01"},
		{1<<56 + 128, "\x80\xc0\x80\x80\x80\x80\x80\x80\x80"},
		{1<<56 + 255, "\x80\xc0\x80\x80\x80\x80\x80\x80\xff"},
		{1<<56 + 256, "\x80\xc0\x80\x80\x80\x80\x80\x81\x00"},
		{1<<57 - 1, "\x80\xff\xff\xff\xff\xff\xff\xff\xff"},
		{1 << 57, "\x81\x80\x80\x80\x80\x80\x80\x80\x00"},
		{1 << 63, "\xc0\x80\x80\x80\x80\x80\x80\x80\x00"},
		{1<<64 - 256, "\xff\xff\xff\xff\xff\xff\xff\xff\x00"},
		{1<<64 - 2, "\xff\xff\xff\xff\xff\xff\xff\xff\xfe"},
		{1<<64 - 1, "\xff\xff\xff\xff\xff\xff\xff\xff\xff"},
	} {
		if got := Put(c.n); got != c.want {
			t.Errorf("Put(%d) = %x, want %x", c.n, got, c.want)
		}
		if got := Len(c.n); got != len(c.want) {
			t.Errorf("Len(%d) = %d, want %d", c.n, got, len(c.want))
		}
		if n, size, err := Get(c.want); n != c.n || size != len(c.want) || err != api.OK {
			t.Errorf("Get(%x) = %d, %d, error %d, want %d", c.want, n, size, err, c.n)
		}
	}
}

// Promise 2.1: Put against the definition, and Len against Put.
func TestPutAndLen(t *testing.T) {
	for _, n := range numbers() {
		want := spell(n)
		if got := Put(n); got != want {
			t.Errorf("Put(%d) = %x, want %x", n, got, want)
		}
		if got := Len(n); got != len(want) {
			t.Errorf("Len(%d) = %d, want %d", n, got, len(want))
		}
	}
}

// Promise 2.1.
func TestGetErrors(t *testing.T) {
	long := strings.Repeat("\x80", 1000)
	for _, c := range []struct {
		in  string
		err api.Errno
	}{
		{"", api.ErrShort},
		{"\x80", api.ErrShort},
		{"\x81", api.ErrShort},
		{"\xff", api.ErrShort},
		{"\xff\xff\xff", api.ErrShort},
		// It is not known to be too long before it has ended.
		{"\x80\x80", api.ErrShort},
		{long[:8], api.ErrShort},
		{"\xff\xff\xff\xff\xff\xff\xff\xff", api.ErrShort},

		{"\x80\x00", api.ErrForm},
		{"\x80\x01", api.ErrForm},
		{"\x80\x7f", api.ErrForm},
		{"\x80\x7f\x80", api.ErrForm},
		{"\x80\x81\x00", api.ErrForm},
		{"\x80\x80\x00", api.ErrForm},
		{"\x80\x80\x80\x80\x80\x80\x80\x01", api.ErrForm},
		{"\x80\xff\xff\xff\xff\xff\xff\x7f", api.ErrForm},

		// Nine bytes for a number that is less than 2^56.
		{long[:9], api.ErrForm},
		{long, api.ErrForm},
		{long[:8] + "\x00", api.ErrForm},
		{long[:8] + "\xff", api.ErrForm},
		{"\x80\x81\x80\x80\x80\x80\x80\x80\x00", api.ErrForm},
		{"\x80\xbf\xff\xff\xff\xff\xff\xff\xff", api.ErrForm},
		{"\x80\xbf\xff\xff\xff\xff\xff\xff\x00", api.ErrForm},
	} {
		if n, size, err := Get(c.in); n != 0 || size != 0 || err != c.err {
			t.Errorf("Get(%x) = %d, %d, error %d, want error %d", c.in, n, size, err, c.err)
		}
	}
}

// Promise 2.1: an encoding that is broken off, and one with groups of zeros before it.
func TestGetBrokenOffAndPadded(t *testing.T) {
	for _, n := range numbers() {
		s := Put(n)
		for k := range len(s) {
			if m, size, err := Get(s[:k]); m != 0 || size != 0 || err != api.ErrShort {
				t.Errorf("Get(%x) = %d, %d, error %d", s[:k], m, size, err)
			}
		}
		for k := 1; len(s)+k <= 8; k++ {
			padded := strings.Repeat("\x80", k) + s
			if m, size, err := Get(padded); m != 0 || size != 0 || err != api.ErrForm {
				t.Errorf("Get(%x) = %d, %d, error %d", padded, m, size, err)
			}
		}
	}
}

// Promise 2.1, P1: every string of up to two bytes, and many longer ones; one
// that Get accepts begins with the encoding of the number.
func TestGetAnyBytes(t *testing.T) {
	check := func(s string) {
		n, size, err := Get(s)
		end := 0
		for end < len(s) && end < 8 && s[end] >= 0x80 {
			end++
		}
		want := api.OK
		switch {
		case end == len(s):
			want = api.ErrShort
		case err == api.OK:
			if size != end+1 || Put(n) != s[:size] {
				t.Errorf("Get(%x) = %d, %d", s, n, size)
			}
		case s[0] == 0x80 && (end < 8 || s[1] < 0xc0):
			want = api.ErrForm
		}
		if err != want || err != api.OK && (n != 0 || size != 0) {
			t.Errorf("Get(%x) = %d, %d, error %d, want error %d", s, n, size, err, want)
		}
	}
	check("")
	for a := range 256 {
		check(string([]byte{byte(a)}))
		for b := range 256 {
			check(string([]byte{byte(a), byte(b)}))
			for k := range 12 {
				check(string([]byte{byte(a), byte(b)}) + strings.Repeat("\x80", k) + "\x01")
				check(string([]byte{byte(a), byte(b)}) + strings.Repeat("\xff", k))
			}
		}
	}
}

// Promise 2.2.
func TestFold(t *testing.T) {
	for _, c := range []struct {
		n    int
		want uint64
	}{
		{0, 0}, {-1, 1}, {1, 2}, {-2, 3}, {2, 4}, {-3, 5}, {150, 300}, {-150, 299},
		{1 << 31, 1 << 32}, {-1 << 31, 1<<32 - 1},
		{1 << 62, 1 << 63}, {-1 << 62, 1<<63 - 1},
		{math.MaxInt64 - 1, 1<<64 - 4}, {math.MaxInt64, 1<<64 - 2},
		{math.MinInt64 + 1, 1<<64 - 3}, {math.MinInt64, 1<<64 - 1},
	} {
		if got := Fold(c.n); got != c.want {
			t.Errorf("Fold(%d) = %d, want %d", c.n, got, c.want)
		}
		if got := Unfold(c.want); got != c.n {
			t.Errorf("Unfold(%d) = %d, want %d", c.want, got, c.n)
		}
	}
}

// Promise 2.2: Unfold inverts Fold, and Fold inverts Unfold.
func TestUnfoldInvertsFold(t *testing.T) {
	for _, n := range ints() {
		if got := Unfold(Fold(n)); got != n {
			t.Errorf("Unfold(Fold(%d)) = %d", n, got)
		}
	}
	for _, n := range numbers() {
		if got := Fold(Unfold(n)); got != n {
			t.Errorf("Fold(Unfold(%d)) = %d", n, got)
		}
	}
}

// Promise 2.3.
func TestFixed(t *testing.T) {
	for _, c := range []struct {
		n    int
		want string
		err  api.Errno
	}{
		{0, "\x00\x00\x00\x00", api.OK},
		{1, "\x00\x00\x00\x01", api.OK},
		{127, "\x00\x00\x00\x7f", api.OK},
		{128, "\x00\x00\x00\x80", api.OK},
		{255, "\x00\x00\x00\xff", api.OK},
		{256, "\x00\x00\x01\x00", api.OK},
		{258, "\x00\x00\x01\x02", api.OK},
		{0x01020304, "\x01\x02\x03\x04", api.OK},
		{0xfedcba98, "\xfe\xdc\xba\x98", api.OK},
		{1<<31 - 1, "\x7f\xff\xff\xff", api.OK},
		{1 << 31, "\x80\x00\x00\x00", api.OK},
		{1<<32 - 2, "\xff\xff\xff\xfe", api.OK},
		{1<<32 - 1, "\xff\xff\xff\xff", api.OK},

		{1 << 32, "", api.ErrRange},
		{1<<32 + 1, "", api.ErrRange},
		{1 << 33, "", api.ErrRange},
		{1 << 62, "", api.ErrRange},
		{math.MaxInt64, "", api.ErrRange},
		{-1, "", api.ErrRange},
		{-1 << 31, "", api.ErrRange},
		{-1 << 32, "", api.ErrRange},
		{-1<<32 + 5, "", api.ErrRange},
		{math.MinInt64, "", api.ErrRange},
	} {
		got, err := Fixed(c.n)
		if got != c.want || err != c.err {
			t.Errorf("Fixed(%d) = %x, error %d, want %x, error %d", c.n, got, err, c.want, c.err)
		}
		if c.err != api.OK {
			continue
		}
		if n, err := Number(c.want); n != c.n || err != api.OK {
			t.Errorf("Number(%x) = %d, error %d, want %d", c.want, n, err, c.n)
		}
	}
}

// Promise 2.3.
func TestNumber(t *testing.T) {
	for _, c := range []struct {
		in   string
		want int
		err  api.Errno
	}{
		{"\x01\x02\x03\x04", 0x01020304, api.OK},
		{"\x01\x02\x03\x04\x05", 0x01020304, api.OK},
		{"\x00\x00\x00\x07" + strings.Repeat("\xff", 100), 7, api.OK},
		{"\xff\xff\xff\xff\xff", 1<<32 - 1, api.OK},
		{"abcd", 0x61626364, api.OK},

		{"", 0, api.ErrShort},
		{"\x00", 0, api.ErrShort},
		{"\x01\x02", 0, api.ErrShort},
		{"\xff\xff\xff", 0, api.ErrShort},
	} {
		if n, err := Number(c.in); n != c.want || err != c.err {
			t.Errorf("Number(%x) = %d, error %d, want %d, error %d", c.in, n, err, c.want, c.err)
		}
	}
}

// Promise 2.3: Number inverts Fixed within the range, and outside of it there is no string.
func TestNumberInvertsFixed(t *testing.T) {
	for _, n := range ints() {
		s, err := Fixed(n)
		if n < 0 || n >= 1<<32 {
			if s != "" || err != api.ErrRange {
				t.Errorf("Fixed(%d) = %x, error %d", n, s, err)
			}
			continue
		}
		if m, e := Number(s + "x"); len(s) != 4 || err != api.OK || m != n || e != api.OK {
			t.Errorf("Fixed(%d) = %x, error %d; Number = %d, error %d", n, s, err, m, e)
		}
	}
}

// Promise 2.4: Get returns the number that was encoded, whatever follows.
func TestGetInvertsPut(t *testing.T) {
	tails := []string{"", "\x00", "\x01", "\x7f", "\x80", "\xff", "x", "\x82\x2c", strings.Repeat("\x80", 20), strings.Repeat("\xff", 20)}
	for _, n := range numbers() {
		s := Put(n)
		for _, tail := range tails {
			if m, size, err := Get(s + tail); m != n || size != len(s) || err != api.OK {
				t.Errorf("Get(%x) = %d, %d, error %d, want %d, %d", s+tail, m, size, err, n, len(s))
			}
		}
	}
}

// Promise 2.4: different numbers have different encodings, and none is a prefix of another one.
func TestNoEncodingIsPrefix(t *testing.T) {
	all := numbers()
	of := map[string]uint64{}
	for _, n := range all {
		s := Put(n)
		if m, ok := of[s]; ok {
			t.Errorf("%d and %d have the encoding %x", m, n, s)
		}
		of[s] = n
	}
	for _, n := range all {
		s := Put(n)
		for k := range len(s) {
			if m, ok := of[s[:k]]; ok {
				t.Errorf("the encoding of %d is a prefix of that of %d", m, n)
			}
		}
	}
}

// Promises 2.1, 2.2: a folded int goes through its encoding.
func TestFoldedThroughBytes(t *testing.T) {
	for _, n := range ints() {
		m, _, err := Get(Put(Fold(n)))
		if got := Unfold(m); got != n || err != api.OK {
			t.Errorf("%d comes back as %d, error %d", n, got, err)
		}
	}
}
