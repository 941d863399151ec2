package value

import (
	"math"
	"slices"
	"strconv"
	"strings"
	"testing"

	"annexe/api"
	"annexe/figure"
)

// kinds holds the kinds of values, the numbers beside them, and both ends of the range.
func kinds() []int {
	return []int{math.MinInt64, -5, -1, 0, 1, 2, 3, 4, 5, 16, 1 << 32, math.MaxInt64}
}

// strs holds strings of every shape that the chapter distinguishes.
func strs() []string {
	return []string{
		"", "\x00", "\x00\x00", "'", "@", "A", "AB", "Ab", "B", "Z", "[", "_", "`", "a", "aB", "a\x00", "ab", "abc", "b", "z", "{",
		"\x7f", "\x80", "\xc1", "\xe1", "\xff", "\xff\xff", "É", "é", "\u212a",
		bytesLong(1000, 'a'), bytesLong(1000, 'A'), bytesLong(1001, 'a'), bytesLong(1001, 'A'), bytesLong(1001, 'B'),
	}
}

// bytesLong returns n - 1 bytes a, and a last byte.
func bytesLong(n int, last byte) string {
	return strings.Repeat("a", n-1) + string([]byte{last})
}

// all holds values of all kinds, valid or not: each combination of kinds, numbers and strings.
func all() []api.Value {
	var vs []api.Value
	for _, k := range kinds() {
		for _, n := range []int{math.MinInt64, -1, 0, 1, math.MaxInt64} {
			for _, s := range strs() {
				vs = append(vs, api.Value{Kind: k, N: n, S: s})
			}
		}
	}
	return vs
}

func sign(n int) int {
	switch {
	case n < 0:
		return -1
	case n > 0:
		return 1
	}
	return 0
}

// Promise 4.1.
func TestCheck(t *testing.T) {
	most, over := bytesLong(1000, 'a'), bytesLong(1001, 'a')
	for _, c := range []struct {
		v    api.Value
		want api.Errno
	}{
		{api.Value{}, api.OK},
		{api.Value{Kind: api.Null, N: 1}, api.ErrKind},
		{api.Value{Kind: api.Null, N: -1}, api.ErrKind},
		{api.Value{Kind: api.Null, N: math.MinInt64}, api.ErrKind},
		{api.Value{Kind: api.Null, S: "a"}, api.ErrKind},
		{api.Value{Kind: api.Null, S: "\x00"}, api.ErrKind},
		{api.Value{Kind: api.Null, N: 1, S: "a"}, api.ErrKind},
		{api.Value{Kind: api.Null, S: most}, api.ErrKind},
		{api.Value{Kind: api.Null, S: over}, api.ErrKind},
		{api.Value{Kind: api.Null, N: 1, S: over}, api.ErrKind},

		{api.Value{Kind: api.Int}, api.OK},
		{api.Value{Kind: api.Int, N: 1}, api.OK},
		{api.Value{Kind: api.Int, N: -1}, api.OK},
		{api.Value{Kind: api.Int, N: math.MaxInt64}, api.OK},
		{api.Value{Kind: api.Int, N: math.MinInt64}, api.OK},
		{api.Value{Kind: api.Int, S: "a"}, api.ErrKind},
		{api.Value{Kind: api.Int, S: "\x00"}, api.ErrKind},
		{api.Value{Kind: api.Int, N: 1, S: "1"}, api.ErrKind},
		{api.Value{Kind: api.Int, S: most}, api.ErrKind},
		{api.Value{Kind: api.Int, N: 7, S: over}, api.ErrKind},

		{api.Value{Kind: -1}, api.ErrKind},
		{api.Value{Kind: -1, S: over}, api.ErrKind},
		{api.Value{Kind: api.Any}, api.ErrKind},
		{api.Value{Kind: api.Any, N: 1}, api.ErrKind},
		{api.Value{Kind: api.Any, S: "a"}, api.ErrKind},
		{api.Value{Kind: api.Any, S: over}, api.ErrKind},
		{api.Value{Kind: 5}, api.ErrKind},
		{api.Value{Kind: 1 << 32}, api.ErrKind},
		{api.Value{Kind: math.MinInt64}, api.ErrKind},
		{api.Value{Kind: math.MaxInt64, S: over}, api.ErrKind},
	} {
		if got := Check(c.v); got != c.want {
			t.Errorf("Check(%s) = %d, want %d", show(c.v), got, c.want)
		}
	}
}

// Promise 4.1: Texts and Blobs. The limit counts bytes, and ErrKind is named before ErrLong.
func TestCheckOfBytes(t *testing.T) {
	for _, c := range []struct {
		n    int
		s    string
		want api.Errno
	}{
		{0, "", api.OK},
		{0, "a", api.OK},
		{0, "\x00\xff", api.OK},
		{0, bytesLong(999, 'a'), api.OK},
		{0, bytesLong(1000, 'a'), api.OK},
		{0, bytesLong(1001, 'a'), api.ErrLong},
		{0, strings.Repeat("\xff", 100000), api.ErrLong},
		{0, strings.Repeat("é", 500), api.OK},
		{0, strings.Repeat("é", 501), api.ErrLong},
		{1, "", api.ErrKind},
		{-1, "", api.ErrKind},
		{math.MinInt64, "", api.ErrKind},
		{1, "a", api.ErrKind},
		{1, bytesLong(1000, 'a'), api.ErrKind},
		{1, bytesLong(1001, 'a'), api.ErrKind},
		{-1, bytesLong(1001, 'a'), api.ErrKind},
	} {
		for _, k := range []int{api.Text, api.Blob} {
			v := api.Value{Kind: k, N: c.n, S: c.s}
			if got := Check(v); got != c.want {
				t.Errorf("Check(%s) = %d, want %d", show(v), got, c.want)
			}
		}
	}
}

// Promise 4.1.
func TestNumber(t *testing.T) {
	for _, n := range []int{math.MinInt64, -1, 0, 1, 7, math.MaxInt64} {
		v := Number(n)
		if want := (api.Value{Kind: 1, N: n}); v != want {
			t.Errorf("Number(%d) = %s", n, show(v))
		}
		if err := Check(v); err != api.OK {
			t.Errorf("Check(Number(%d)) = %d", n, err)
		}
	}
}

// Promise 4.1: Text returns any string as it is; it is Check that tells if it is too long.
func TestText(t *testing.T) {
	for _, s := range strs() {
		v := Text(s)
		if want := (api.Value{Kind: 2, S: s}); v != want {
			t.Errorf("Text(%s) = %s", brief(s), show(v))
		}
		want := api.OK
		if len(s) > 1000 {
			want = api.ErrLong
		}
		if err := Check(v); err != want {
			t.Errorf("Check(Text(%s)) = %d, want %d", brief(s), err, want)
		}
	}
}

// Promise 4.2: values in increasing order, whether or not nocase is true.
func TestCompareInOrder(t *testing.T) {
	vs := []api.Value{
		{},
		Number(math.MinInt64), Number(math.MinInt64 + 1), Number(-5), Number(-1), Number(0), Number(1), Number(3), Number(10),
		Number(math.MaxInt64 - 1), Number(math.MaxInt64),
		Text(""), Text("\x00"), Text("\x00\x00"), Text("\x00\x01"), Text("\x01"), Text("10"), Text("3"), Text("@"), Text("@@"),
		Text("[a"), Text("`"), Text("`z"), Text("a"), Text("a\x00"), Text("aa"), Text("ab"), Text("abc"), Text("b"), Text("z"), Text("{"),
		Text("\x7f"), Text("\x80"), Text("\xc3"), Text("É"), Text("é"), Text("\xfe\xff"), Text("\xff"), Text("\xff\x00"),
		blob(""), blob("\x00"), blob("\x00\x00"), blob("@"), blob("A"), blob("AB"), blob("Ab"), blob("B"), blob("Z"), blob("["),
		blob("`"), blob("a"), blob("aB"), blob("ab"), blob("b"), blob("z"), blob("{"), blob("\x7f"), blob("\x80"), blob("\xff"), blob("\xff\xff"),
	}
	inOrder(t, vs, false)
	inOrder(t, vs, true)
}

// Promise 4.2: the letters A to Z and the bytes beside them. Without nocase,
// each comes before [, and with nocase, after ` and before {.
func TestCompareLetters(t *testing.T) {
	inOrder(t, []api.Value{Text("@"), Text("A"), Text("AB"), Text("Ab"), Text("B"), Text("Z"), Text("["), Text("`"), Text("a"), Text("z"), Text("{")}, false)
	inOrder(t, []api.Value{Text("@"), Text("["), Text("\\"), Text("]"), Text("^"), Text("_"), Text("`"), Text("A"), Text("AB"), Text("b"), Text("M"), Text("z"), Text("{")}, true)
	for _, c := range []struct {
		a, b         string
		exact, loose int
	}{
		{"Ab", "aB", -1, 0},
		{"AB", "ab", -1, 0},
		{"a", "A", 1, 0},
		{"B", "a", -1, 1},
		{"a", "B", 1, -1},
		{"A", "ab", -1, -1},
		{"a", "AB", 1, -1},
		{"AB", "a", -1, 1},
		{"Z", "[", -1, 1},
		{"Z", "_", -1, 1},
		{"Z", "`", -1, 1},
		{"Z", "{", -1, -1},
		{"A", "@", 1, 1},
		{"[", "{", -1, -1},
		{"@", "`", -1, -1},
		{"É", "é", -1, -1},
		{"\xc1", "\xe1", -1, -1},
		{"X1y", "x1Y", -1, 0},
		{"\x00A", "\x00a", -1, 0},
		// The Kelvin sign is no K, although its small letter is k.
		{"\u212a", "k", 1, 1},
		{bytesLong(1000, 'A'), bytesLong(1000, 'a'), -1, 0},
		{bytesLong(1000, 'B'), bytesLong(1000, 'a'), -1, 1},
	} {
		compareIs(t, Text(c.a), Text(c.b), false, c.exact)
		compareIs(t, Text(c.a), Text(c.b), true, c.loose)
		compareIs(t, blob(c.a), blob(c.b), false, c.exact)
		compareIs(t, blob(c.a), blob(c.b), true, c.exact)
	}
}

// Promise 4.2: each byte as a Text and as a Blob, against each other byte.
func TestCompareEachByte(t *testing.T) {
	small := func(c int) int {
		if c >= 65 && c <= 90 {
			return c + 32
		}
		return c
	}
	for a := range 256 {
		for b := range 256 {
			s, u := string([]byte{byte(a)}), string([]byte{byte(b)})
			compareIs(t, Text(s), Text(u), false, sign(a-b))
			compareIs(t, Text(s), Text(u), true, sign(small(a)-small(b)))
			compareIs(t, blob(s), blob(u), false, sign(a-b))
			compareIs(t, blob(s), blob(u), true, sign(a-b))
		}
	}
}

// Promise 4.2: values that are not valid are compared by Kind, then by N, then by S.
func TestCompareNotValid(t *testing.T) {
	vs := []api.Value{
		{Kind: math.MinInt64, N: 9, S: "z"},
		{Kind: -1, N: math.MaxInt64, S: "z"},
		{Kind: api.Null, N: math.MinInt64},
		{Kind: api.Null, N: -1, S: "z"},
		{},
		{Kind: api.Null, S: "A"}, {Kind: api.Null, S: "a"},
		{Kind: api.Null, N: 1},
		{Kind: api.Null, N: 1, S: "a"},
		{Kind: api.Int, N: -1, S: "z"},
		{Kind: api.Int},
		{Kind: api.Int, S: "A"}, {Kind: api.Int, S: "B"}, {Kind: api.Int, S: "a"}, {Kind: api.Int, S: "ab"},
		{Kind: api.Int, N: 1},
		{Kind: api.Int, N: math.MaxInt64, S: "a"},
		{Kind: api.Text, N: math.MinInt64, S: "z"},
		{Kind: api.Text, N: -1, S: "a"}, {Kind: api.Text, N: -1, S: "b"},
		{Kind: api.Text}, {Kind: api.Text, S: "z"},
		{Kind: api.Text, N: 1}, {Kind: api.Text, N: 1, S: "a"},
		{Kind: api.Blob, N: -1, S: "z"},
		{Kind: api.Blob}, {Kind: api.Blob, S: "z"},
		{Kind: api.Blob, N: 1, S: "A"}, {Kind: api.Blob, N: 1, S: "B"}, {Kind: api.Blob, N: 1, S: "a"},
		{Kind: 4, N: -1}, {Kind: 4, S: "A"}, {Kind: 4, S: "B"}, {Kind: 4, S: "a"}, {Kind: 4, N: 1},
		{Kind: 5, N: math.MinInt64},
		{Kind: math.MaxInt64, N: math.MinInt64},
	}
	inOrder(t, vs, false)
	inOrder(t, vs, true)
}

// Promise 4.2: S is compared to its end, even if it is longer than that of a valid value.
func TestCompareLong(t *testing.T) {
	for _, k := range []int{api.Null, api.Int, api.Text, api.Blob, api.Any} {
		vs := []api.Value{{Kind: k, S: bytesLong(1000, 'a')}, {Kind: k, S: bytesLong(1001, 'a')}, {Kind: k, S: bytesLong(1001, 'b')}, {Kind: k, S: bytesLong(1001, 'c')}}
		inOrder(t, vs, false)
		inOrder(t, vs, true)
	}
}

// Promise 4.2: Texts that are not valid, with nocase. Were they compared as
// they are, the second of three Texts would be between two that are equal.
func TestCompareNotValidTexts(t *testing.T) {
	low := Text("a" + bytesLong(1000, 'a'))
	compareIs(t, Text("B"), Text("b"), true, 0)
	compareIs(t, low, Text("b"), true, -1)
	compareIs(t, low, Text("B"), true, -1)
	compareIs(t, low, Text("B"), false, 1)
	compareIs(t, Text(bytesLong(1001, 'A')), Text(bytesLong(1001, 'a')), true, 0)
	compareIs(t, Text(bytesLong(1001, 'A')), Text(bytesLong(1001, 'a')), false, -1)
	compareIs(t, api.Value{Kind: api.Text, N: 1, S: "A"}, api.Value{Kind: api.Text, N: 1, S: "a"}, true, 0)
	compareIs(t, api.Value{Kind: api.Text, N: 1, S: "A"}, api.Value{Kind: api.Text, N: 1, S: "a"}, false, -1)
}

// Promise 4.2.
func TestRows(t *testing.T) {
	one, two, low, upper := Number(1), Number(2), Text("a"), Text("A")
	row := func(vs ...api.Value) []api.Value { return vs }
	yes := []bool{true}
	for _, c := range []struct {
		a, b   []api.Value
		nocase []bool
		want   int
	}{
		{nil, nil, nil, 0},
		{nil, row(), []bool{}, 0},
		{nil, nil, yes, 0},
		{nil, row(api.Value{}), nil, -1},
		{row(), row(one), yes, -1},
		{row(one), row(one), nil, 0},
		{row(one), row(two), nil, -1},
		{row(one, two), row(one), nil, 1},
		{row(one, api.Value{}), row(one), nil, 1},
		{row(one, two), row(one, one), nil, 1},

		// A difference counts before the lengths, and the first one before the others.
		{row(one, two), row(two), nil, -1},
		{row(two), row(one, two), nil, 1},
		{row(one, two), row(two, one), nil, -1},
		{row(one, low, one), row(one, upper, two), nil, 1},
		{row(one, low, one), row(one, upper, two), []bool{false, true, false}, -1},
		{row(two, low), row(one, low, one), []bool{true, true, true}, 1},

		// An absent element of nocase counts as false, and one too many as nothing.
		{row(low), row(upper), nil, 1},
		{row(low), row(upper), []bool{}, 1},
		{row(low), row(upper), []bool{false}, 1},
		{row(low), row(upper), yes, 0},
		{row(low), row(upper), []bool{true, false, true}, 0},
		{row(low), row(upper), []bool{false, true, true}, 1},
		{row(low, low), row(upper, upper), yes, 1},
		{row(low, low), row(upper, upper), []bool{true, false}, 1},
		{row(low, low), row(upper, upper), []bool{false, true}, 1},
		{row(low, low), row(upper, low), []bool{false, true}, 1},
		{row(low, low), row(low, upper), []bool{false, true}, 0},
		{row(low, low), row(upper, upper), []bool{true, true}, 0},
		{row(low, low), row(upper, upper), []bool{true, true, false}, 0},
		{row(low, low), row(upper), yes, 1},
		{row(low), row(upper, low), yes, -1},
		{row(blob("a")), row(blob("A")), yes, 1},

		// Values that are not valid count like others.
		{row(api.Value{Kind: -1}), row(api.Value{}), nil, -1},
		{row(api.Value{Kind: 4, S: "a"}), row(api.Value{Kind: 4, S: "A"}), yes, 1},
	} {
		if got := Rows(c.a, c.b, c.nocase); got != c.want {
			t.Errorf("Rows(%v, %v, %v) = %d, want %d", c.a, c.b, c.nocase, got, c.want)
		}
		if got := Rows(c.b, c.a, c.nocase); got != -c.want {
			t.Errorf("Rows(%v, %v, %v) = %d, want %d", c.b, c.a, c.nocase, got, -c.want)
		}
	}
}

// Promise 4.2: rows of one value are compared as their values are.
func TestRowsOfOne(t *testing.T) {
	vs := all()
	for i := range vs {
		a, b := vs[i], vs[(i*7+3)%len(vs)]
		for _, nocase := range []bool{false, true} {
			want := Compare(a, b, nocase)
			if got := Rows([]api.Value{a}, []api.Value{b}, []bool{nocase}); got != want {
				t.Errorf("Rows of %s and %s, %v: %d, want %d", show(a), show(b), nocase, got, want)
			}
		}
	}
}

// Promise 4.2, and the section Rules: the lists are left as they are.
func TestRowsChangesNothing(t *testing.T) {
	a, b := []api.Value{Number(1), Text("Ab")}, []api.Value{Number(1), Text("aB"), {}}
	nocase := []bool{false, true}
	Rows(a, b, nocase)
	if !slices.Equal(a, []api.Value{Number(1), Text("Ab")}) || !slices.Equal(b, []api.Value{Number(1), Text("aB"), {}}) {
		t.Errorf("rows: %v and %v", a, b)
	}
	if !slices.Equal(nocase, []bool{false, true}) {
		t.Errorf("nocase: %v", nocase)
	}
}

// Promise 4.3: a value that is not valid is printed by what its Kind uses of it.
func TestPrint(t *testing.T) {
	for _, c := range []struct {
		v    api.Value
		want string
	}{
		{api.Value{}, "null"},
		{api.Value{Kind: api.Null, N: 3, S: "a"}, "null"},

		{Number(0), "0"},
		{Number(7), "7"},
		{Number(-1), "-1"},
		{Number(math.MaxInt64), "9223372036854775807"},
		{Number(math.MinInt64), "-9223372036854775808"},
		{api.Value{Kind: api.Int, N: 3, S: "a"}, "3"},

		{Text(""), "''"},
		{Text("a"), "'a'"},
		{Text("it's"), "'it''s'"},
		{Text("''"), "''''''"},
		{Text("null"), "'null'"},
		{Text("Ab \x00\xff\n"), "'Ab \x00\xff\n'"},
		{Text("é"), "'é'"},
		{api.Value{Kind: api.Text, N: 3, S: "a"}, "'a'"},
		{Text(bytesLong(1001, 'a')), "'" + bytesLong(1001, 'a') + "'"},

		{blob(""), "x''"},
		{blob("\x0a"), "x'0a'"},
		{blob("\x00\xab\xff"), "x'00abff'"},
		{blob("'"), "x'27'"},
		{blob("A'a"), "x'412761'"},
		{api.Value{Kind: api.Blob, N: 3, S: "a"}, "x'61'"},
		{blob(strings.Repeat("\xff", 1001)), "x'" + strings.Repeat("f", 2002) + "'"},

		{api.Value{Kind: -1, N: 3, S: "a"}, ""},
		{api.Value{Kind: api.Any}, ""},
		{api.Value{Kind: api.Any, N: 3, S: "a"}, ""},
		{api.Value{Kind: 5, S: "a"}, ""},
		{api.Value{Kind: 1 << 32}, ""},
		{api.Value{Kind: math.MinInt64, N: 1}, ""},
		{api.Value{Kind: math.MaxInt64, N: 1}, ""},
	} {
		if got := Print(c.v); got != c.want {
			t.Errorf("Print(%s) = %s, want %s", show(c.v), brief(got), brief(c.want))
		}
	}
}

// Promise 4.3.
func TestKind(t *testing.T) {
	names := map[int]string{0: "null", 1: "int", 2: "text", 3: "blob", 4: "any"}
	for k := -300; k <= 300; k++ {
		if got := Kind(k); got != names[k] {
			t.Errorf("Kind(%d) = %q, want %q", k, got, names[k])
		}
	}
	for _, k := range []int{math.MinInt64, math.MinInt32, 1 << 32, 1<<32 + 1, math.MaxInt64} {
		if got := Kind(k); got != "" {
			t.Errorf("Kind(%d) = %q", k, got)
		}
	}
}

// Promise 4.4: a valid value of each Kind, in columns of each Kind.
func TestFits(t *testing.T) {
	for _, v := range []api.Value{Number(0), Number(math.MinInt64), Text(""), Text(bytesLong(1000, 'a')), blob(""), blob("\xff")} {
		for _, k := range kinds() {
			want := api.ErrType
			if k == 4 || k == v.Kind {
				want = api.OK
			}
			for _, c := range columns(k) {
				if got := Fits(c, v); got != want {
					t.Errorf("Fits(%+v, %s) = %d, want %d", c, show(v), got, want)
				}
			}
		}
	}
}

// Promise 4.4: a Null fits a column of any Kind, unless the column is NotNull.
func TestFitsNull(t *testing.T) {
	for _, k := range kinds() {
		for _, c := range columns(k) {
			want := api.OK
			if c.NotNull {
				want = api.ErrNull
			}
			if got := Fits(c, api.Value{}); got != want {
				t.Errorf("Fits(%+v, null) = %d, want %d", c, got, want)
			}
		}
	}
}

// Promise 4.4: the error of Check comes before ErrNull and ErrType.
func TestFitsNotValid(t *testing.T) {
	over := bytesLong(1001, 'a')
	for _, c := range []struct {
		v    api.Value
		want api.Errno
	}{
		{api.Value{Kind: api.Null, N: 1}, api.ErrKind},
		{api.Value{Kind: api.Null, S: "a"}, api.ErrKind},
		{api.Value{Kind: api.Int, S: "a"}, api.ErrKind},
		{api.Value{Kind: api.Text, N: 1}, api.ErrKind},
		{api.Value{Kind: api.Text, N: 1, S: over}, api.ErrKind},
		{api.Value{Kind: api.Blob, N: -1}, api.ErrKind},
		{api.Value{Kind: -1}, api.ErrKind},
		{api.Value{Kind: api.Any}, api.ErrKind},
		{api.Value{Kind: api.Any, S: over}, api.ErrKind},
		{api.Value{Kind: 5}, api.ErrKind},
		{Text(over), api.ErrLong},
		{blob(over), api.ErrLong},
	} {
		for _, k := range kinds() {
			for _, col := range columns(k) {
				if got := Fits(col, c.v); got != c.want {
					t.Errorf("Fits(%+v, %s) = %d, want %d", col, show(c.v), got, c.want)
				}
			}
		}
	}
}

// Promise 4.5: there is one sequence of all values by which each two of them
// are compared. Two places in it are equal only for the same value, or with
// nocase for Texts that are the same after Fold.
func TestOrderIsTotal(t *testing.T) {
	for _, nocase := range []bool{false, true} {
		vs := all()
		slices.SortStableFunc(vs, func(a, b api.Value) int { return Compare(a, b, nocase) })
		places := make([]int, len(vs))
		for i := 1; i < len(vs); i++ {
			places[i] = places[i-1]
			if !same(vs[i-1], vs[i], nocase) {
				places[i]++
			}
		}
		for i, a := range vs {
			for k, b := range vs {
				if got, want := Compare(a, b, nocase), sign(places[i]-places[k]); got != want {
					t.Fatalf("Compare(%s, %s, %v) = %d, want %d", show(a), show(b), nocase, got, want)
				}
			}
		}
	}
}

// Promise 4.5: rows have a total order, too, if each column has one.
func TestOrderOfRowsIsTotal(t *testing.T) {
	vs := []api.Value{{}, Number(-1), Number(1), Text(""), Text("A"), Text("a"), Text("B"), blob("A"), blob("a")}
	rows := [][]api.Value{nil}
	for _, a := range vs {
		rows = append(rows, []api.Value{a})
		for _, b := range vs {
			rows = append(rows, []api.Value{a, b})
		}
	}
	for _, nocase := range [][]bool{nil, {true}, {false, true}, {true, true}} {
		sorted := slices.Clone(rows)
		slices.SortStableFunc(sorted, func(a, b []api.Value) int { return Rows(a, b, nocase) })
		place := make([]int, len(sorted))
		for i := 1; i < len(sorted); i++ {
			place[i] = place[i-1] - Rows(sorted[i-1], sorted[i], nocase)
		}
		for i, a := range sorted {
			for k, b := range sorted {
				if got, want := Rows(a, b, nocase), sign(place[i]-place[k]); got != want {
					t.Fatalf("Rows(%v, %v, %v) = %d, want %d", a, b, nocase, got, want)
				}
			}
		}
	}
}

// P1: no arguments make a call panic, and a value is valid for Fits and Check alike.
func TestAnyArguments(t *testing.T) {
	for _, v := range all() {
		err := Check(v)
		if err != api.OK && err != api.ErrKind && err != api.ErrLong {
			t.Errorf("Check(%s) = %d", show(v), err)
		}
		if got := Fits(api.Column{Kind: api.Any}, v); got != err {
			t.Errorf("Fits(any, %s) = %d, want %d", show(v), got, err)
		}
		if got := Print(v); (got == "") != (v.Kind < 0 || v.Kind > 3) {
			t.Errorf("Print(%s) = %s", show(v), brief(got))
		}
	}
}

// columns holds the columns of a Kind with each combination of properties.
func columns(k int) []api.Column {
	var cs []api.Column
	for i := range 8 {
		cs = append(cs, api.Column{Name: "c", Kind: k, NotNull: i&1 != 0, Unique: i&2 != 0, NoCase: i&4 != 0})
	}
	return append(cs, api.Column{Kind: k})
}

func blob(s string) api.Value { return api.Value{Kind: api.Blob, S: s} }

func same(a, b api.Value, nocase bool) bool {
	if nocase && a.Kind == api.Text && b.Kind == api.Text {
		a.S, b.S = figure.Fold(a.S), figure.Fold(b.S)
	}
	return a == b
}

// inOrder requires that each value is less than those after it.
func inOrder(t *testing.T, vs []api.Value, nocase bool) {
	t.Helper()
	for i := range vs {
		for k := range vs {
			compareIs(t, vs[i], vs[k], nocase, sign(i-k))
		}
	}
}

func compareIs(t *testing.T, a, b api.Value, nocase bool, want int) {
	t.Helper()
	if got := Compare(a, b, nocase); got != want {
		t.Errorf("Compare(%s, %s, %v) = %d, want %d", show(a), show(b), nocase, got, want)
	}
	if got := Compare(b, a, nocase); got != -want {
		t.Errorf("Compare(%s, %s, %v) = %d, want %d", show(b), show(a), nocase, got, -want)
	}
}

func show(v api.Value) string {
	return "{" + strconv.Itoa(v.Kind) + " " + strconv.Itoa(v.N) + " " + brief(v.S) + "}"
}

// brief returns a string in Go's quotes, shortened so that a failure can be read.
func brief(s string) string {
	if len(s) <= 40 {
		return strconv.Quote(s)
	}
	return strconv.Quote(s[:20]+".."+s[len(s)-5:]) + " of " + strconv.Itoa(len(s)) + " bytes"
}
