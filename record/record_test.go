package record

import (
	"fmt"
	"math"
	"slices"
	"strings"
	"testing"

	"annexe/api"
	"annexe/value"
	"annexe/varint"
)

// ints holds, each once, ints of every length that an encoding may have, and both ends of the range.
func ints() []int {
	all := []int{math.MinInt64, math.MaxInt64}
	for bit := range 63 {
		p := 1 << bit
		all = append(all, p-1, p, p+1, -p, -p-1)
	}
	slices.Sort(all)
	return slices.Compact(all)
}

// strs holds strings of which the bytes could be taken for something else, and
// of the lengths at which the mark grows or the limit is reached.
func strs() []string {
	all := []string{"", "\x00", "\x00\x00", "\x01", "\x80", "\x80\x00", "\xff", "a", "ab", "A", "'", "é", "\x03\x00\x01\x06\x01ab"}
	for _, n := range []int{3, 10, 62, 63, 64, 999, 1000} {
		all = append(all, strings.Repeat("a", n), strings.Repeat("\xff", n))
	}
	return all
}

// values holds valid values of each kind.
func values() []api.Value {
	all := []api.Value{{}}
	for _, n := range ints() {
		all = append(all, value.Number(n))
	}
	for _, s := range strs() {
		all = append(all, value.Text(s), blob(s))
	}
	return all
}

// rows holds rows of each length that an encoding may have, each row once.
func rows() [][]api.Value {
	vs := values()
	all := [][]api.Value{nil}
	for _, v := range vs {
		all = append(all, row(v))
	}
	short := []api.Value{{}, value.Number(0), value.Number(1), value.Number(-1), value.Number(1 << 40), value.Text(""), value.Text("a"), value.Text("\x00"), blob(""), blob("a"), blob("\x01")}
	for _, a := range short {
		for _, b := range short {
			all = append(all, row(a, b))
			for _, c := range short {
				all = append(all, row(a, b, c))
			}
		}
	}
	// Windows over all values give the longer rows.
	for n := 4; n <= 16; n++ {
		for i := 0; i+n <= len(vs); i += 5 {
			all = append(all, slices.Clone(vs[i:i+n]))
		}
	}
	return all
}

// longRow returns a row of n values, of each kind in turn.
func longRow(n int) []api.Value {
	var all []api.Value
	for i := range n {
		all = append(all, []api.Value{{}, value.Number(i), value.Text("t"), blob("b")}[i%4])
	}
	return all
}

// spell writes an encoding by the words of the chapter.
func spell(vs []api.Value) string {
	marks, data := varint.Put(uint64(len(vs))), ""
	for _, v := range vs {
		size := uint64(len(v.S))
		switch v.Kind {
		case api.Null:
			marks += "\x00"
		case api.Int:
			marks += "\x01"
			data += varint.Put(varint.Fold(v.N))
		case api.Text:
			marks += varint.Put(2 + 2*size)
			data += v.S
		case api.Blob:
			marks += varint.Put(3 + 2*size)
			data += v.S
		}
	}
	return marks + data
}

// Promise 5.1.
func TestEncode(t *testing.T) {
	a1000 := strings.Repeat("a", 1000)
	for _, c := range []struct {
		row  []api.Value
		want string
	}{
		{row(api.Value{}, value.Number(-1), value.Text("ab")), "\x03\x00\x01\x06\x01\x61\x62"},

		{nil, "\x00"},
		{row(), "\x00"},
		{row(api.Value{}), "\x01\x00"},
		{row(value.Number(0)), "\x01\x01\x00"},
		{row(value.Number(-1)), "\x01\x01\x01"},
		{row(value.Number(1)), "\x01\x01\x02"},
		{row(value.Number(63)), "\x01\x01\x7e"},
		{row(value.Number(-64)), "\x01\x01\x7f"},
		{row(value.Number(64)), "\x01\x01\x81\x00"},
		{row(value.Number(math.MaxInt64)), "\x01\x01\xff\xff\xff\xff\xff\xff\xff\xff\xfe"},
		{row(value.Number(math.MinInt64)), "\x01\x01\xff\xff\xff\xff\xff\xff\xff\xff\xff"},
		{row(value.Text("")), "\x01\x02"},
		{row(blob("")), "\x01\x03"},
		{row(value.Text("a")), "\x01\x04a"},
		{row(blob("a")), "\x01\x05a"},
		{row(value.Text("\x00\xff")), "\x01\x06\x00\xff"},

		// From 63 bytes on, a mark has two bytes.
		{row(value.Text(a1000[:62])), "\x01\x7e" + a1000[:62]},
		{row(blob(a1000[:62])), "\x01\x7f" + a1000[:62]},
		{row(value.Text(a1000[:63])), "\x01\x81\x00" + a1000[:63]},
		{row(blob(a1000[:63])), "\x01\x81\x01" + a1000[:63]},
		{row(value.Text(a1000)), "\x01\x8f\x52" + a1000},
		{row(blob(a1000)), "\x01\x8f\x53" + a1000},

		// All marks come before all data.
		{row(value.Number(5), value.Number(6)), "\x02\x01\x01\x0a\x0c"},
		{row(value.Text("a"), blob("bc")), "\x02\x04\x07abc"},
		{row(blob(""), value.Text("x"), api.Value{}, value.Number(300), value.Text("")), "\x05\x03\x04\x00\x01\x02x\x84\x58"},
		{make([]api.Value, 16), "\x10" + strings.Repeat("\x00", 16)},
		{longRow(16), "\x10" + strings.Repeat("\x00\x01\x04\x05", 4) + "\x02tb\x0atb\x12tb\x1atb"},
	} {
		if got, err := Encode(c.row); got != c.want || err != api.OK {
			t.Errorf("Encode(%s) = %.40x, error %d, want %.40x", show(c.row), got, err, c.want)
		}
		if got := Len(c.row); got != len(c.want) {
			t.Errorf("Len(%s) = %d, want %d", show(c.row), got, len(c.want))
		}
		decodesTo(t, c.want, c.row)
	}
}

// Promise 5.1: Encode against the definition, and Len against Encode.
func TestEncodeRows(t *testing.T) {
	for _, r := range rows() {
		want := spell(r)
		if got, err := Encode(r); got != want || err != api.OK {
			t.Errorf("Encode(%s) = %.40x, error %d, want %.40x", show(r), got, err, want)
		}
		if got := Len(r); got != len(want) {
			t.Errorf("Len(%s) = %d, want %d", show(r), got, len(want))
		}
	}
}

// Promise 5.1: a row of 16 values of the greatest size has an encoding.
func TestEncodeGreatest(t *testing.T) {
	for _, v := range []api.Value{value.Number(math.MinInt64), value.Text(strings.Repeat("\xff", 1000)), blob(strings.Repeat("\x00", 1000))} {
		r := slices.Repeat(row(v), 16)
		s, err := Encode(r)
		if s != spell(r) || err != api.OK || Len(r) != len(s) {
			t.Errorf("%d bytes, error %d, Len %d", len(s), err, Len(r))
		}
		decodesTo(t, s, r)
	}
}

// Promise 5.1: the number of values is checked first, and then the first value that is not valid decides.
func TestEncodeErrors(t *testing.T) {
	over := strings.Repeat("a", 1001)
	kind, long := api.Value{Kind: api.Null, N: 1}, value.Text(over)
	with := func(n, at int, v api.Value) []api.Value {
		r := longRow(n)
		r[at] = v
		return r
	}
	for _, c := range []struct {
		row  []api.Value
		want api.Errno
	}{
		{longRow(17), api.ErrArity},
		{make([]api.Value, 17), api.ErrArity},
		{make([]api.Value, 1000), api.ErrArity},
		{with(17, 0, kind), api.ErrArity},
		{with(17, 0, long), api.ErrArity},
		{with(17, 16, kind), api.ErrArity},
		{with(17, 16, long), api.ErrArity},
		{slices.Repeat(row(kind), 17), api.ErrArity},

		{row(kind), api.ErrKind},
		{row(api.Value{Kind: api.Null, S: "a"}), api.ErrKind},
		{row(api.Value{Kind: api.Int, N: 1, S: "a"}), api.ErrKind},
		{row(api.Value{Kind: api.Text, N: 1, S: "a"}), api.ErrKind},
		{row(api.Value{Kind: api.Text, N: 1, S: over}), api.ErrKind},
		{row(api.Value{Kind: api.Blob, N: -1}), api.ErrKind},
		{row(api.Value{Kind: api.Any}), api.ErrKind},
		{row(api.Value{Kind: -1}), api.ErrKind},
		{row(api.Value{Kind: math.MinInt64}), api.ErrKind},
		{row(api.Value{Kind: math.MaxInt64, N: 1, S: over}), api.ErrKind},
		{row(long), api.ErrLong},
		{row(blob(over)), api.ErrLong},

		{with(2, 1, kind), api.ErrKind},
		{with(3, 1, long), api.ErrLong},
		{with(16, 15, kind), api.ErrKind},
		{with(16, 15, long), api.ErrLong},
		{row(kind, long), api.ErrKind},
		{row(long, kind), api.ErrLong},
		{row(api.Value{}, value.Number(1), long, value.Text("a"), kind), api.ErrLong},
		{row(api.Value{}, value.Number(1), kind, value.Text("a"), long), api.ErrKind},
	} {
		if s, err := Encode(c.row); s != "" || err != c.want {
			t.Errorf("Encode(%s) = %.40x, error %d, want error %d", show(c.row), s, err, c.want)
		}
		if n := Len(c.row); n != 0 {
			t.Errorf("Len(%s) = %d", show(c.row), n)
		}
	}
}

// Promise 5.1, and the section Rules: the row is left as it is.
func TestEncodeChangesNothing(t *testing.T) {
	for _, r := range [][]api.Value{longRow(16), longRow(17), row(value.Text("Ab"), api.Value{Kind: 9, N: 1, S: "x"})} {
		before := slices.Clone(r)
		Encode(r)
		Len(r)
		if !slices.Equal(r, before) {
			t.Errorf("%s has become %s", show(before), show(r))
		}
	}
}

// Promise 5.2: one thing is wrong.
func TestDecodeErrors(t *testing.T) {
	nine := strings.Repeat("\xff", 9)
	a1000 := strings.Repeat("a", 1000)
	for _, c := range []struct {
		in  string
		err api.Errno
	}{
		// The number of values.
		{"", api.ErrShort},
		{"\x80", api.ErrShort},
		{"\x81", api.ErrShort},
		{nine[:8], api.ErrShort},
		{"\x80\x00", api.ErrForm},
		{"\x80\x01\x00", api.ErrForm},
		{"\x80\x90\x00", api.ErrForm},
		{strings.Repeat("\x80", 8) + "\x01\x00", api.ErrForm},
		{"\x11", api.ErrArity},
		{"\x11" + strings.Repeat("\x00", 17), api.ErrArity},
		{"\x7f", api.ErrArity},
		{"\x81\x00", api.ErrArity},
		{nine, api.ErrArity},
		// 2^32 + 1 and 2^63 + 1: a number that were cut to 32 or 63 bits would be 1.
		{"\x90\x80\x80\x80\x01\x00", api.ErrArity},
		{varint.Put(1<<63+1) + "\x00", api.ErrArity},

		// A mark.
		{"\x01", api.ErrShort},
		{"\x02\x00", api.ErrShort},
		{"\x10" + strings.Repeat("\x00", 15), api.ErrShort},
		{"\x01\x80", api.ErrShort},
		{"\x01\x8f", api.ErrShort},
		{"\x02\x00\x81", api.ErrShort},
		{"\x01\x80\x00", api.ErrForm},
		{"\x01\x80\x01\x02", api.ErrForm},
		{"\x02\x00\x80\x02", api.ErrForm},
		{"\x01\x80\x8f\x52" + a1000, api.ErrForm},
		{"\x01\x8f\x54", api.ErrLong},
		{"\x01\x8f\x55", api.ErrLong},
		{"\x01\x8f\x54" + a1000 + "a", api.ErrLong},
		{"\x01\x8f\x55" + a1000 + "a", api.ErrLong},
		{"\x02\x00\x8f\x54", api.ErrLong},
		{"\x01" + nine, api.ErrLong},
		{"\x01" + varint.Put(1<<64-2), api.ErrLong},
		{"\x01" + varint.Put(1<<63), api.ErrLong},
		{"\x01" + varint.Put(1<<63+1), api.ErrLong},
		{"\x01" + varint.Put(1<<32), api.ErrLong},
		{"\x01" + varint.Put(1<<33+4) + "a", api.ErrLong},

		// An Int.
		{"\x01\x01", api.ErrShort},
		{"\x01\x01\x80", api.ErrShort},
		{"\x01\x01" + nine[:8], api.ErrShort},
		{"\x02\x01\x01\x00", api.ErrShort},
		{"\x01\x01\x80\x00", api.ErrForm},
		{"\x02\x01\x01\x00\x80\x7f", api.ErrForm},

		// A Text or a Blob.
		{"\x01\x04", api.ErrShort},
		{"\x01\x05", api.ErrShort},
		{"\x01\x06a", api.ErrShort},
		{"\x01\x07a", api.ErrShort},
		{"\x01\x8f\x52", api.ErrShort},
		{"\x01\x8f\x53", api.ErrShort},
		{"\x01\x8f\x52" + a1000[1:], api.ErrShort},
		{"\x01\x8f\x53" + a1000[1:], api.ErrShort},
		{"\x02\x04\x04a", api.ErrShort},
		{"\x02\x04\x05a", api.ErrShort},

		// Bytes at the end.
		{"\x00\x00", api.ErrMore},
		{"\x00\x80", api.ErrMore},
		{"\x01\x00x", api.ErrMore},
		{"\x01\x00\x00", api.ErrMore},
		{"\x01\x01\x00\x00", api.ErrMore},
		{"\x01\x02a", api.ErrMore},
		{"\x01\x03a", api.ErrMore},
		{"\x01\x04ab", api.ErrMore},
		{"\x01\x8f\x52" + a1000 + "a", api.ErrMore},
		{"\x10" + strings.Repeat("\x00", 17), api.ErrMore},
	} {
		fails(t, c.in, c.err)
	}
}

// Promise 5.2: two things are wrong, and the first in byte order decides.
func TestDecodeFirstError(t *testing.T) {
	for _, c := range []struct {
		in  string
		err api.Errno
	}{
		// The number of values, and then a mark.
		{"\x11\x80\x00", api.ErrArity},
		{"\x11\x8f\x54", api.ErrArity},
		{"\x80\x11\x8f\x54", api.ErrForm},
		// A number that is too great, but not as Put encodes it.
		{"\x80\x11", api.ErrForm},

		// Two marks.
		{"\x02\x80\x00\x8f\x54", api.ErrForm},
		{"\x02\x8f\x54\x80\x00", api.ErrLong},
		{"\x02\x8f\x54\x80", api.ErrLong},
		{"\x02\x8f\x54", api.ErrLong},
		{"\x02\x80\x00", api.ErrForm},
		{"\x02\x80\x00\x80", api.ErrForm},
		// A mark that is too great, but not as Put encodes it.
		{"\x01\x80\x8f\x54", api.ErrForm},

		// A mark, and the data of an earlier or a later value.
		{"\x02\x01\x8f\x54\x80\x00", api.ErrLong},
		{"\x02\x01\x80\x00\x80", api.ErrForm},
		{"\x02\x8f\x54\x01\x80\x00", api.ErrLong},
		{"\x02\x04\x8f\x54", api.ErrLong},
		{"\x02\x06\x80\x00a", api.ErrForm},
		{"\x01\x8f\x54x", api.ErrLong},

		// The data of two values.
		{"\x02\x01\x04\x80\x00", api.ErrForm},
		{"\x02\x04\x01a\x80\x00", api.ErrForm},
		{"\x02\x06\x01a", api.ErrShort},
		{"\x02\x01\x06\x80\x01a", api.ErrForm},
		// The Text takes the bytes that would not be an Int; if it is shorter, nothing is wrong.
		{"\x02\x06\x01\x80\x00", api.ErrShort},

		// The data, and bytes at the end.
		{"\x01\x01\x80\x00x", api.ErrForm},
		{"\x02\x01\x00\x80\x00\x00", api.ErrForm},
	} {
		fails(t, c.in, c.err)
	}
	decodesTo(t, "\x02\x04\x01\x80\x00", row(value.Text("\x80"), value.Number(0)))
}

// Promise 5.2: an encoding that ends too early, and one with a byte too many.
func TestDecodeCutOffAndLonger(t *testing.T) {
	for _, r := range append(rows(), longRow(16)) {
		s := spell(r)
		for k := range len(s) {
			fails(t, s[:k], api.ErrShort)
		}
		fails(t, s+"\x00", api.ErrMore)
		fails(t, s+"\xff", api.ErrMore)
		fails(t, s+s, api.ErrMore)
	}
}

// Promise 5.2.
func TestColumn(t *testing.T) {
	for _, r := range rows() {
		s := spell(r)
		for i, want := range r {
			if v, err := Column(s, i); v != want || err != api.OK {
				t.Errorf("Column(%.40x, %d) = %s, error %d, want %s", s, i, show(row(v)), err, show(row(want)))
			}
		}
		for _, i := range []int{-1, len(r), len(r) + 1, 16, -len(r) - 1, math.MinInt64, math.MaxInt64} {
			if v, err := Column(s, i); v != (api.Value{}) || err != api.ErrRange {
				t.Errorf("Column(%.40x, %d) = %s, error %d", s, i, show(row(v)), err)
			}
		}
	}
}

// Promise 5.2: the error of Decode comes before ErrRange, and also where the
// value itself could be read.
func TestColumnErrors(t *testing.T) {
	for _, c := range []struct {
		in  string
		err api.Errno
	}{
		{"", api.ErrShort},
		{"\x11", api.ErrArity},
		{"\x80\x01\x00", api.ErrForm},
		{"\x01\x8f\x54", api.ErrLong},
		{"\x02\x04\x04a", api.ErrShort},
		{"\x02\x01\x01\x00\x80\x00", api.ErrForm},
		{"\x02\x01\x01\x00\x00\x00", api.ErrMore},
		{"\x00x", api.ErrMore},
	} {
		for _, i := range []int{math.MinInt64, -1, 0, 1, 2, 16, 17, math.MaxInt64} {
			if v, err := Column(c.in, i); v != (api.Value{}) || err != c.err {
				t.Errorf("Column(%.40x, %d) = %s, error %d, want error %d", c.in, i, show(row(v)), err, c.err)
			}
		}
	}
}

// Promise 5.2, and the section Rules: a row that was returned shares nothing with another one.
func TestDecodeShares(t *testing.T) {
	s := spell(longRow(4))
	a, _ := Decode(s)
	for i := range a {
		a[i] = api.Value{Kind: 9, N: 9, S: "x"}
	}
	decodesTo(t, s, longRow(4))
	if v, err := Column(s, 2); v != value.Text("t") || err != api.OK {
		t.Errorf("Column = %s, error %d", show(row(v)), err)
	}
}

// Promise 5.3: Decode inverts Encode.
func TestDecodeInvertsEncode(t *testing.T) {
	for _, r := range rows() {
		s, err := Encode(r)
		if err != api.OK {
			t.Errorf("Encode(%s): error %d", show(r), err)
		}
		decodesTo(t, s, r)
	}
}

// Promise 5.3: different rows have different encodings, and none is a prefix of another one.
func TestDifferentRows(t *testing.T) {
	of := map[string]int{}
	all := rows()
	for i, r := range all {
		s, _ := Encode(r)
		if k, ok := of[s]; ok {
			t.Errorf("%s and %s have the encoding %.40x", show(all[k]), show(r), s)
		}
		of[s] = i
	}
	for i, r := range all {
		s, _ := Encode(r)
		for k := range len(s) {
			if j, ok := of[s[:k]]; ok {
				t.Errorf("the encoding of %s is a prefix of that of %s", show(all[j]), show(all[i]))
			}
		}
	}
}

// Promises 5.2, 5.3, P1: all strings of up to five bytes out of those that
// matter, each against the words of the chapter.
func TestDecodeAnyBytes(t *testing.T) {
	var extend func(s string, left int)
	accepted := 0
	extend = func(s string, left int) {
		if follows(t, s) {
			accepted++
		}
		if left == 0 {
			return
		}
		for _, c := range []byte{0, 1, 2, 3, 4, 5, 6, 0x10, 0x11, 0x54, 0x7f, 0x80, 0x8f, 0xff} {
			extend(s+string([]byte{c}), left-1)
		}
	}
	extend("", 5)
	for a := range 256 {
		for b := range 256 {
			follows(t, string([]byte{byte(a), byte(b)}))
			follows(t, "\x01"+string([]byte{byte(a), byte(b)}))
			follows(t, "\x01\x01"+string([]byte{byte(a), byte(b)}))
		}
	}
	if accepted < 100 {
		t.Errorf("only %d strings are encodings", accepted)
	}
}

// Promises 5.2, 5.3, P1: encodings with one byte changed, left out or doubled.
func TestDecodeDamaged(t *testing.T) {
	for _, r := range rows() {
		s := spell(r)
		// In a long encoding, the bytes behind the marks are all alike.
		for i := range min(len(s), 40) {
			for _, c := range []byte{0, 1, s[i] ^ 1, s[i] ^ 0x80, s[i] + 2, 0x8f, 0xff} {
				follows(t, s[:i]+string([]byte{c})+s[i+1:])
			}
			follows(t, s[:i]+s[i+1:])
			follows(t, s[:i+1]+s[i:])
		}
	}
}

// follows requires of Decode what the chapter says of any bytes, and reports
// whether they are an encoding; one that is accepted is the one that Encode returns.
func follows(t *testing.T, s string) bool {
	t.Helper()
	want := verdict(s)
	if want != api.OK {
		fails(t, s, want)
		return false
	}
	r, err := Decode(s)
	if err != api.OK {
		t.Errorf("Decode(%.40x): error %d", s, err)
	}
	if again, err := Encode(r); again != s || err != api.OK {
		t.Errorf("Encode(Decode(%.40x)) = %.40x, error %d", s, again, err)
	}
	return true
}

// verdict returns the error that the chapter requires of Decode. It only counts
// the bytes of each part, and takes no value from them.
func verdict(s string) api.Errno {
	at := 0
	number := func() (uint64, api.Errno) {
		n, size, err := varint.Get(s[at:])
		at += size
		return n, err
	}
	n, err := number()
	if err != api.OK {
		return err
	}
	if n > 16 {
		return api.ErrArity
	}
	var marks []uint64
	for uint64(len(marks)) < n {
		m, err := number()
		if err != api.OK {
			return err
		}
		if m > 3+2*1000 {
			return api.ErrLong
		}
		marks = append(marks, m)
	}
	for _, m := range marks {
		if m == 1 {
			if _, err := number(); err != api.OK {
				return err
			}
		} else if m > 1 {
			at += int(m/2) - 1
		}
		if at > len(s) {
			return api.ErrShort
		}
	}
	if at < len(s) {
		return api.ErrMore
	}
	return api.OK
}

func row(vs ...api.Value) []api.Value { return vs }

func blob(s string) api.Value { return api.Value{Kind: api.Blob, S: s} }

// show returns a row with its strings shortened so that a failure can be read.
func show(r []api.Value) string {
	var all []string
	for _, v := range r {
		all = append(all, fmt.Sprintf("{%d %d %.10q of %d bytes}", v.Kind, v.N, v.S, len(v.S)))
	}
	return strings.Join(all, " ")
}

// fails requires that Decode returns an error, and nothing beside it.
func fails(t *testing.T, s string, want api.Errno) {
	t.Helper()
	if r, err := Decode(s); len(r) != 0 || err != want {
		t.Errorf("Decode(%.40x) = %s, error %d, want error %d", s, show(r), err, want)
	}
}

// decodesTo requires that Decode returns a row.
func decodesTo(t *testing.T, s string, want []api.Value) {
	t.Helper()
	if r, err := Decode(s); !slices.Equal(r, want) || err != api.OK {
		t.Errorf("Decode(%.40x) = %s, error %d, want %s", s, show(r), err, show(want))
	}
}
