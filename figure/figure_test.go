package figure

import (
	"bytes"
	"math"
	"strings"
	"testing"

	"annexe/api"
)

// samples holds strings of every shape that the chapter distinguishes; the
// tests of P1 and of promise 1.5 go through all of them.
func samples() []string {
	all := []string{
		"", "a", "'", "''", "'''", "''''", "it's", "'it''s'", "'a'b'", "é", "\x00", "\xff\xfe", "\n",
		"0", "-0", "-1", "+1", "1 ", " 1", "1.0", "0x10", "00", "007", "12a", "a12",
		"9223372036854775807", "9223372036854775808", "18446744073709551616", "99999999999999999999999x",
		"0a", "0A", "fF", "0g", "g0", "0", "abc", "zz",
		"abcdefghijklmnop", "abcdefghijklmnopq", "_", "_1", "1_",
		strings.Repeat("0", 1000) + "7", strings.Repeat("9", 1000), strings.Repeat("'", 1001), strings.Repeat("x'", 500),
	}
	for c := range 256 {
		b := string([]byte{byte(c)})
		all = append(all, b, b+b, "a"+b, b+"'", "'"+b, "'"+b+"'", "'"+b+"''"+b+"'", "1"+b)
	}
	return all
}

// Promise 1.1.
func TestText(t *testing.T) {
	for n, want := range map[int]string{
		0: "0", 1: "1", -1: "-1", 9: "9", 10: "10", -10: "-10", 100: "100", 1234567890: "1234567890",
		math.MaxInt64:     "9223372036854775807",
		math.MaxInt64 - 1: "9223372036854775806",
		math.MinInt64:     "-9223372036854775808",
		math.MinInt64 + 1: "-9223372036854775807",
	} {
		if got := Text(n); got != want {
			t.Errorf("Text(%d) = %q, want %q", n, got, want)
		}
	}
}

// Promise 1.1.
func TestRead(t *testing.T) {
	zeros := strings.Repeat("0", 100)
	for _, c := range []struct {
		in   string
		want int
		err  api.Errno
	}{
		{"0", 0, api.OK},
		{"7", 7, api.OK},
		{"10", 10, api.OK},
		{"1234567890", 1234567890, api.OK},
		{"00", 0, api.OK},
		{"007", 7, api.OK},
		{zeros, 0, api.OK},
		{zeros + "12", 12, api.OK},
		{"9223372036854775799", math.MaxInt64 - 8, api.OK},
		{"9223372036854775806", math.MaxInt64 - 1, api.OK},
		{"9223372036854775807", math.MaxInt64, api.OK},
		{zeros + "9223372036854775807", math.MaxInt64, api.OK},

		{"", 0, api.ErrShort},

		{"-1", 0, api.ErrForm},
		{"-", 0, api.ErrForm},
		{"+1", 0, api.ErrForm},
		{" 1", 0, api.ErrForm},
		{"1 ", 0, api.ErrForm},
		{"1a", 0, api.ErrForm},
		{"a1", 0, api.ErrForm},
		{"1_000", 0, api.ErrForm},
		{"0x1", 0, api.ErrForm},
		{"1.5", 0, api.ErrForm},
		{"/", 0, api.ErrForm},
		{":", 0, api.ErrForm},
		{"\x00", 0, api.ErrForm},
		{"1\xb1", 0, api.ErrForm},
		{"\u0661", 0, api.ErrForm},

		{"9223372036854775808", 0, api.ErrOver},
		{"9223372036854775809", 0, api.ErrOver},
		{"9223372036854775810", 0, api.ErrOver},
		{"9300000000000000000", 0, api.ErrOver},
		{"10000000000000000000", 0, api.ErrOver},
		{"18446744073709551615", 0, api.ErrOver},
		{"18446744073709551616", 0, api.ErrOver},
		{"18446744073709551617", 0, api.ErrOver},
		{"92233720368547758070", 0, api.ErrOver},
		{"92233720368547758080", 0, api.ErrOver},
		{zeros + "9223372036854775808", 0, api.ErrOver},
		{strings.Repeat("9", 1000), 0, api.ErrOver},
		{"1" + zeros, 0, api.ErrOver},

		// ErrForm is named before ErrOver.
		{"9223372036854775808x", 0, api.ErrForm},
		{"x9223372036854775808", 0, api.ErrForm},
		{"-9223372036854775808", 0, api.ErrForm},
	} {
		if got, err := Read(c.in); got != c.want || err != c.err {
			t.Errorf("Read(%q) = %d, error %d, want %d, error %d", c.in, got, err, c.want, c.err)
		}
	}
}

// Promise 1.1: each byte alone and behind a digit.
func TestReadEachByte(t *testing.T) {
	for c := range 256 {
		b := string([]byte{byte(c)})
		want, alone, err := 0, 0, api.ErrForm
		if c >= '0' && c <= '9' {
			want, alone, err = 10+c-'0', c-'0', api.OK
		}
		if n, e := Read(b); n != alone || e != err {
			t.Errorf("Read(%q) = %d, error %d", b, n, e)
		}
		if n, e := Read("1" + b); n != want || e != err {
			t.Errorf("Read(%q) = %d, error %d", "1"+b, n, e)
		}
	}
}

// Promise 1.2.
func TestName(t *testing.T) {
	for s, want := range map[string]bool{
		"a": true, "Z": true, "_": true, "z9": true, "A0": true, "_9": true, "__": true, "aB_3": true,
		"abcdefghijklmnop": true, "ABCDEFGHIJKLMNOP": true, "a234567890123456": true, "________________": true,

		"": false, "9": false, "9a": false, "0_": false,
		"abcdefghijklmnopq": false, "a2345678901234567": false,
		"a b": false, "a ": false, " a": false, "a-b": false, "a.b": false, "a'": false, "a\x00": false,
		"é": false, "aé": false, "a\xff": false, "\xe1": false,
	} {
		if got := Name(s); got != want {
			t.Errorf("Name(%q) = %t, want %t", s, got, want)
		}
	}
}

// Promise 1.2: each byte at the beginning, and after a letter up to the greatest length.
func TestNameEachByte(t *testing.T) {
	letters := "_abcdefghijklmnopqrstuvwxyzABCDEFGHIJKLMNOPQRSTUVWXYZ"
	for c := range 256 {
		b := string([]byte{byte(c)})
		first := strings.Contains(letters, b)
		later := first || strings.Contains("0123456789", b)
		if Name(b) != first {
			t.Errorf("Name(%q) = %t", b, !first)
		}
		for n := 1; n < api.MaxName; n++ {
			s := strings.Repeat("x", n) + b
			if Name(s) != later {
				t.Errorf("Name(%q) = %t", s, !later)
			}
		}
		if s := strings.Repeat("x", api.MaxName) + b; Name(s) {
			t.Errorf("Name(%q) = true", s)
		}
	}
}

// Promise 1.2.
func TestFold(t *testing.T) {
	for s, want := range map[string]string{
		"": "", "a": "a", "A": "a", "AZ": "az", "aBc_9": "abc_9", "@[`{": "@[`{",
		"ÀÉ": "ÀÉ", "A\xffB\x00C": "a\xffb\x00c", "\xc1\xda": "\xc1\xda", "KELVIN \u212a": "kelvin \u212a",
	} {
		if got := Fold(s); got != want {
			t.Errorf("Fold(%q) = %q, want %q", s, got, want)
		}
	}
	for c := range 256 {
		want := c
		if c >= 'A' && c <= 'Z' {
			want = c + 32
		}
		if got := Fold(string([]byte{byte(c)})); got != string([]byte{byte(want)}) {
			t.Errorf("Fold of byte %d = %q", c, got)
		}
	}
}

// Promise 1.3.
func TestQuote(t *testing.T) {
	for s, want := range map[string]string{
		"": "''", "a": "'a'", "it's": "'it''s'", "'": "''''", "''": "''''''",
		"'a": "'''a'", "a'": "'a'''", "'a'": "'''a'''", "\"": "'\"'", "\\'": "'\\'''",
		"\x00\xff": "'\x00\xff'", "é'": "'é'''",
	} {
		if got := Quote(s); got != want {
			t.Errorf("Quote(%q) = %q, want %q", s, got, want)
		}
	}
}

// Promise 1.3.
func TestUnquote(t *testing.T) {
	for _, c := range []struct {
		in, want string
		err      api.Errno
	}{
		{"''", "", api.OK},
		{"'a'", "a", api.OK},
		{"'it''s'", "it's", api.OK},
		{"''''", "'", api.OK},
		{"''''''", "''", api.OK},
		{"'''a'", "'a", api.OK},
		{"'a'''", "a'", api.OK},
		{"'a''''b'", "a''b", api.OK},
		{"'\x00\xff'", "\x00\xff", api.OK},
		{"'\"\\'", "\"\\", api.OK},
		{"'é'", "é", api.OK},

		{"", "", api.ErrShort},
		{"'", "", api.ErrShort},
		{"a", "", api.ErrShort},
		{"\xff", "", api.ErrShort},

		{"ab", "", api.ErrForm},
		{"'a", "", api.ErrForm},
		{"a'", "", api.ErrForm},
		{"abc", "", api.ErrForm},
		{"'abc", "", api.ErrForm},
		{"abc'", "", api.ErrForm},
		{" 'a'", "", api.ErrForm},
		{"'a' ", "", api.ErrForm},
		{"\"a\"", "", api.ErrForm},
		{"`a'", "", api.ErrForm},
		{"a''", "", api.ErrForm},
		{"''a", "", api.ErrForm},

		{"'''", "", api.ErrForm},
		{"'''''", "", api.ErrForm},
		{"''a'", "", api.ErrForm},
		{"'a''", "", api.ErrForm},
		{"'a'b'", "", api.ErrForm},
		{"'a'''b'", "", api.ErrForm},
		{"'a''b'c'", "", api.ErrForm},
		{"'a'b'c'", "", api.ErrForm},
		{"'a'b''", "", api.ErrForm},
	} {
		if got, err := Unquote(c.in); got != c.want || err != c.err {
			t.Errorf("Unquote(%q) = %q, error %d, want %q, error %d", c.in, got, err, c.want, c.err)
		}
	}
}

// Promise 1.4.
func TestHex(t *testing.T) {
	for s, want := range map[string]string{
		"": "", "\x00": "00", "\x0a": "0a", "\xa0": "a0", "\xff": "ff", "AZ": "415a",
		"\x01\x23\x45\x67\x89\xab\xcd\xef": "0123456789abcdef", "é": "c3a9",
	} {
		if got := Hex(s); got != want {
			t.Errorf("Hex(%q) = %q, want %q", s, got, want)
		}
	}
}

// Promise 1.4.
func TestUnhex(t *testing.T) {
	for _, c := range []struct {
		in, want string
		err      api.Errno
	}{
		{"", "", api.OK},
		{"00", "\x00", api.OK},
		{"0aFF", "\x0a\xff", api.OK},
		{"a0A0", "\xa0\xa0", api.OK},
		{"0123456789abcdef", "\x01\x23\x45\x67\x89\xab\xcd\xef", api.OK},
		{"0123456789ABCDEF", "\x01\x23\x45\x67\x89\xab\xcd\xef", api.OK},
		{"fEfEdCbA", "\xfe\xfe\xdc\xba", api.OK},
		{"c3a9", "é", api.OK},

		{"0", "", api.ErrShort},
		{"f", "", api.ErrShort},
		{"abc", "", api.ErrShort},
		{"00000", "", api.ErrShort},
		// ErrShort is named before ErrForm.
		{"g", "", api.ErrShort},
		{"0gg", "", api.ErrShort},

		{"0g", "", api.ErrForm},
		{"g0", "", api.ErrForm},
		{"G0", "", api.ErrForm},
		{"  ", "", api.ErrForm},
		{"0x", "", api.ErrForm},
		{"00zz", "", api.ErrForm},
		{"zz00", "", api.ErrForm},
		{"-1", "", api.ErrForm},
		{"é", "", api.ErrForm},
		{"\x00\x00", "", api.ErrForm},
	} {
		if got, err := Unhex(c.in); got != c.want || err != c.err {
			t.Errorf("Unhex(%q) = %q, error %d, want %q, error %d", c.in, got, err, c.want, c.err)
		}
	}
}

// Promise 1.4: each byte as either digit of a pair.
func TestUnhexEachByte(t *testing.T) {
	for c := range 256 {
		b := string([]byte{byte(c)})
		digit := strings.Index("0123456789abcdef", b)
		if digit < 0 && c >= 'A' && c <= 'F' {
			digit = c - 'A' + 10
		}
		want, err := [2]string{}, api.ErrForm
		if digit >= 0 {
			want, err = [2]string{string([]byte{byte(digit << 4)}), string([]byte{byte(digit)})}, api.OK
		}
		for i, in := range []string{b + "0", "0" + b} {
			if got, e := Unhex(in); got != want[i] || e != err {
				t.Errorf("Unhex(%q) = %q, error %d, want %q, error %d", in, got, e, want[i], err)
			}
		}
	}
}

// Promise 1.5: Read inverts Text.
func TestReadInvertsText(t *testing.T) {
	check := func(n int) {
		if got, err := Read(Text(n)); got != n || err != api.OK {
			t.Errorf("Read(Text(%d)) = %d, error %d", n, got, err)
		}
	}
	for n := range 2000 {
		check(n)
		check(math.MaxInt64 - n)
	}
	for bit := range 63 {
		check(1 << bit)
		check(1<<bit - 1)
		check(1<<bit + 1)
	}
	for p, digits := 1, 1; digits <= 19; p, digits = p*10, digits+1 {
		check(p)
		check(p - 1)
		check(p + 1)
	}
	if n, err := Read(Text(-1)); n != 0 || err != api.ErrForm {
		t.Errorf("Read(Text(-1)) = %d, error %d", n, err)
	}
}

// Promise 1.5: Unquote inverts Quote, and Unhex inverts Hex, in either case of digits.
func TestUnquoteAndUnhexInvert(t *testing.T) {
	for _, s := range samples() {
		if got, err := Unquote(Quote(s)); got != s || err != api.OK {
			t.Errorf("Unquote(Quote(%q)) = %q, error %d", s, got, err)
		}
		if got, err := Unhex(Hex(s)); got != s || err != api.OK {
			t.Errorf("Unhex(Hex(%q)) = %q, error %d", s, got, err)
		}
		if got, err := Unhex(strings.ToUpper(Hex(s))); got != s || err != api.OK {
			t.Errorf("Unhex of capital digits of %q = %q, error %d", s, got, err)
		}
	}
}

// P1: with an error, the other result is the zero value; without one, the
// literal and the digits are what the formatting function returns.
func TestZeroWithError(t *testing.T) {
	for _, s := range samples() {
		if n, err := Read(s); err != api.OK && n != 0 {
			t.Errorf("Read(%q) = %d, error %d", s, n, err)
		}
		u, err := Unquote(s)
		if err != api.OK && u != "" || err == api.OK && Quote(u) != s {
			t.Errorf("Unquote(%q) = %q, error %d", s, u, err)
		}
		h, err := Unhex(s)
		if err != api.OK && h != "" || err == api.OK && Hex(h) != Fold(s) {
			t.Errorf("Unhex(%q) = %q, error %d", s, h, err)
		}
	}
}

// The iterator accepts any string type, produces each byte, and stops when it is told to.
func TestBytesOf(t *testing.T) {
	type word string
	var got []byte
	for c := range bytesOf(word("é\xffa")) {
		got = append(got, c)
	}
	if !bytes.Equal(got, []byte{0xc3, 0xa9, 0xff, 'a'}) {
		t.Errorf("bytes: %v", got)
	}
	n := 0
	for c := range bytesOf("abc") {
		n++
		if c == 'b' {
			break
		}
	}
	if n != 2 {
		t.Errorf("%d bytes before the stop", n)
	}
}
