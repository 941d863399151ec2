package logic

import (
	"fmt"
	"math"
	"math/big"
	"slices"
	"strings"
	"testing"

	"annexe/api"
	"annexe/value"
)

const (
	least    = math.MinInt64
	greatest = math.MaxInt64
)

// truths holds the truth values and, from the fourth on, numbers that count as unknown.
func truths() []int {
	return []int{0, 1, 2, 3, 4, 7, 255, 256, 257, -1, -2, -3, 1 << 32, 1<<32 + 1, greatest, least, least + 1}
}

// plain returns the truth value for which a number counts.
func plain(t int) int {
	if t == 0 || t == 1 {
		return t
	}
	return 2
}

// ints holds, each once, ints at which results start to be too great, and their neighbours.
func ints() []int {
	all := []int{least, least + 1, greatest - 1, greatest, 3037000499, 3037000500, -3037000499, -3037000500, 7, -7, 10, -10}
	for bit := range 63 {
		p := 1 << bit
		all = append(all, p-1, p, p+1, -p, -p-1, -p+1)
	}
	for _, n := range []int{2, 3, 5, 7, 1000003} {
		all = append(all, greatest/n, greatest/n+1, greatest/-n, greatest/-n-1, least/n, least/n-1, least/-n, least/-n+1)
	}
	slices.Sort(all)
	return slices.Compact(all)
}

// operators holds all operators, the ones on numbers from the seventh to the eleventh.
func operators() []string {
	return []string{"=", "<>", "<", "<=", ">", ">=", "+", "-", "*", "/", "%", "||"}
}

func comparisons() []string   { return operators()[:6] }
func onNumbers() []string     { return operators()[6:11] }
func both() []bool            { return []bool{false, true} }
func blob(s string) api.Value { return api.Value{Kind: api.Blob, S: s} }

// valid holds valid values of each kind.
func valid() []api.Value {
	all := []api.Value{{}}
	for _, n := range []int{least, least + 1, -7, -2, -1, 0, 1, 2, 7, greatest - 1, greatest} {
		all = append(all, value.Number(n))
	}
	for _, s := range []string{"", "\x00", "0", "1", "A", "Ab", "B", "a", "aB", "b", "[", "é", "É", "\xff", strings.Repeat("a", 999), strings.Repeat("a", 1000), strings.Repeat("A", 1000)} {
		all = append(all, value.Text(s), blob(s))
	}
	return all
}

// Promise 6.1.
func TestTruth(t *testing.T) {
	for _, c := range []struct {
		v    api.Value
		want int
		err  api.Errno
	}{
		{api.Value{}, 2, api.OK},
		{value.Number(0), 0, api.OK},
		{value.Number(1), 1, api.OK},
		{value.Number(2), 1, api.OK},
		{value.Number(-1), 1, api.OK},
		{value.Number(-2), 1, api.OK},
		{value.Number(256), 1, api.OK},
		{value.Number(1 << 32), 1, api.OK},
		{value.Number(greatest), 1, api.OK},
		{value.Number(least), 1, api.OK},
		{value.Text(""), 0, api.ErrType},
		{value.Text("0"), 0, api.ErrType},
		{value.Text("1"), 0, api.ErrType},
		{value.Text("true"), 0, api.ErrType},
		{blob(""), 0, api.ErrType},
		{blob("\x01"), 0, api.ErrType},
		{api.Value{Kind: api.Any}, 0, api.ErrType},
		{api.Value{Kind: api.Any, N: 1}, 0, api.ErrType},
		{api.Value{Kind: 5, N: 1}, 0, api.ErrType},
		{api.Value{Kind: -1, N: 1}, 0, api.ErrType},
		{api.Value{Kind: 1<<32 + 1, N: 1}, 0, api.ErrType},
		{api.Value{Kind: greatest}, 0, api.ErrType},
		{api.Value{Kind: least}, 0, api.ErrType},
	} {
		if got, err := Truth(c.v); got != c.want || err != c.err {
			t.Errorf("Truth(%s) = %d, error %d, want %d, error %d", show(c.v), got, err, c.want, c.err)
		}
	}
}

// Promise 6.1.
func TestOf(t *testing.T) {
	values := []api.Value{value.Number(0), value.Number(1), {}}
	for _, n := range truths() {
		got, want := Of(n), values[plain(n)]
		if got != want {
			t.Errorf("Of(%d) = %s, want %s", n, show(got), show(want))
		}
		if back, err := Truth(got); back != plain(n) || err != api.OK {
			t.Errorf("Truth(Of(%d)) = %d, error %d", n, back, err)
		}
	}
}

// Promise 6.1.
func TestNot(t *testing.T) {
	for _, n := range truths() {
		if got, want := Not(n), [3]int{1, 0, 2}[plain(n)]; got != want {
			t.Errorf("Not(%d) = %d, want %d", n, got, want)
		}
	}
}

// Promise 6.1: all pairs of truth values, and of numbers that count as unknown.
func TestAndOr(t *testing.T) {
	and := [3][3]int{{0, 0, 0}, {0, 1, 2}, {0, 2, 2}}
	or := [3][3]int{{0, 1, 2}, {1, 1, 1}, {2, 1, 2}}
	for _, a := range truths() {
		for _, b := range truths() {
			if got, want := And(a, b), and[plain(a)][plain(b)]; got != want {
				t.Errorf("And(%d, %d) = %d, want %d", a, b, got, want)
			}
			if got, want := Or(a, b), or[plain(a)][plain(b)]; got != want {
				t.Errorf("Or(%d, %d) = %d, want %d", a, b, got, want)
			}
		}
	}
}

// Promise 6.2: both ends of the range, and one beyond each.
func TestAdd(t *testing.T) {
	for _, c := range []struct {
		a, b, want int
		err        api.Errno
	}{
		{1, 2, 3, api.OK},
		{-1, -2, -3, api.OK},
		{5, -8, -3, api.OK},
		{0, 0, 0, api.OK},
		{greatest, 0, greatest, api.OK},
		{least, 0, least, api.OK},
		{greatest - 1, 1, greatest, api.OK},
		{greatest, 1, 0, api.ErrOver},
		{greatest, -1, greatest - 1, api.OK},
		{least + 1, -1, least, api.OK},
		{least, -1, 0, api.ErrOver},
		{least, 1, least + 1, api.OK},
		{greatest, greatest, 0, api.ErrOver},
		{least, least, 0, api.ErrOver},
		{least, greatest, -1, api.OK},
		{1 << 62, 1 << 62, 0, api.ErrOver},
		{1 << 62, 1<<62 - 1, greatest, api.OK},
		{-1 << 62, -1 << 62, least, api.OK},
		{-1 << 62, -1<<62 - 1, 0, api.ErrOver},
	} {
		is(t, "Add", c.a, c.b, result(Add(c.a, c.b)), outcome{c.want, c.err})
		is(t, "Add", c.b, c.a, result(Add(c.b, c.a)), outcome{c.want, c.err})
	}
}

// Promise 6.2: both ends of the range, and one beyond each.
func TestMul(t *testing.T) {
	for _, c := range []struct {
		a, b, want int
		err        api.Errno
	}{
		{2, 3, 6, api.OK},
		{-2, 3, -6, api.OK},
		{-2, -3, 6, api.OK},
		{0, 0, 0, api.OK},
		{0, 1, 0, api.OK},
		{0, -1, 0, api.OK},
		{0, least, 0, api.OK},
		{0, greatest, 0, api.OK},
		{1, 1, 1, api.OK},
		{1, -1, -1, api.OK},
		{1, least, least, api.OK},
		{1, greatest, greatest, api.OK},
		{-1, -1, 1, api.OK},
		{-1, greatest, -greatest, api.OK},
		{-1, least + 1, greatest, api.OK},
		{-1, least, 0, api.ErrOver},
		{2, 1 << 62, 0, api.ErrOver},
		{-2, 1 << 62, least, api.OK},
		{2, -1 << 62, least, api.OK},
		{-2, -1 << 62, 0, api.ErrOver},
		{2, 1<<62 - 1, greatest - 1, api.OK},
		{2, -1<<62 - 1, 0, api.ErrOver},
		{7, greatest / 7, greatest, api.OK},
		{3, greatest/3 + 1, 0, api.ErrOver},
		{1 << 32, 1 << 31, 0, api.ErrOver},
		{1 << 32, -1 << 31, least, api.OK},
		{1 << 32, 1 << 32, 0, api.ErrOver},
		{2, least, 0, api.ErrOver},
		{2, greatest, 0, api.ErrOver},
		{greatest, greatest, 0, api.ErrOver},
		{greatest, least, 0, api.ErrOver},
		{least, least, 0, api.ErrOver},
	} {
		is(t, "Mul", c.a, c.b, result(Mul(c.a, c.b)), outcome{c.want, c.err})
		is(t, "Mul", c.b, c.a, result(Mul(c.b, c.a)), outcome{c.want, c.err})
	}
}

// Promise 6.2: Add and Mul return the exact result of many pairs, or ErrOver.
func TestAddMulExact(t *testing.T) {
	for _, a := range ints() {
		for _, b := range ints() {
			x, y := big.NewInt(int64(a)), big.NewInt(int64(b))
			is(t, "Add", a, b, result(Add(a, b)), narrow(new(big.Int).Add(x, y)))
			is(t, "Mul", a, b, result(Mul(a, b)), narrow(new(big.Int).Mul(x, y)))
		}
	}
}

// Promise 6.2.
func TestNegative(t *testing.T) {
	for _, c := range []struct {
		v, want api.Value
		err     api.Errno
	}{
		{api.Value{}, api.Value{}, api.OK},
		{value.Number(0), value.Number(0), api.OK},
		{value.Number(1), value.Number(-1), api.OK},
		{value.Number(-1), value.Number(1), api.OK},
		{value.Number(7), value.Number(-7), api.OK},
		{value.Number(greatest), value.Number(-greatest), api.OK},
		{value.Number(-greatest), value.Number(greatest), api.OK},
		{value.Number(least), api.Value{}, api.ErrOver},
		{value.Text(""), api.Value{}, api.ErrType},
		{value.Text("1"), api.Value{}, api.ErrType},
		{blob(""), api.Value{}, api.ErrType},
		{blob("\x01"), api.Value{}, api.ErrType},
		{api.Value{Kind: api.Any, N: 1}, api.Value{}, api.ErrType},
		{api.Value{Kind: -1, N: least}, api.Value{}, api.ErrType},
		{api.Value{Kind: 1<<32 + 1, N: 1}, api.Value{}, api.ErrType},
	} {
		if got, err := Negative(c.v); got != c.want || err != c.err {
			t.Errorf("Negative(%s) = %s, error %d, want %s, error %d", show(c.v), show(got), err, show(c.want), c.err)
		}
	}
}

// Promise 6.3: what is no operator is ErrNone before anything else, also with
// operands that are Nulls, of other kinds, or too long together.
func TestBinaryNoOperator(t *testing.T) {
	ops := []string{
		"", " ", "\x00", "^", "!", "!=", "==", "=<", "=>", "><", "<<", ">>", "<=>", "|", "|||", "&", "&&", "**", "//", "%%", "++", "--", "+-",
		"and", "or", "not", "is", "in", "div", "mod", "AND", "a", "=a", "\u2260", "\u2264", "\uff1d", strings.Repeat("=", 100000),
	}
	for _, op := range operators() {
		ops = append(ops, " "+op, op+" ", op+"\x00", op+"=", op+op+op, "'"+op+"'")
	}
	for _, op := range ops {
		if slices.Contains(operators(), op) {
			continue
		}
		for _, a := range valid() {
			for _, b := range valid() {
				binaryIs(t, op, a, b, false, api.Value{}, api.ErrNone)
			}
		}
	}
}

// Promise 6.3: a Null on either side, or on both, comes before all other errors.
func TestBinaryNull(t *testing.T) {
	for _, op := range operators() {
		for _, nocase := range both() {
			for _, v := range valid() {
				binaryIs(t, op, api.Value{}, v, nocase, api.Value{}, api.OK)
				binaryIs(t, op, v, api.Value{}, nocase, api.Value{}, api.OK)
			}
		}
	}
}

// Promise 6.3: the results of all comparisons with values that are less, equal and greater.
func TestBinaryComparison(t *testing.T) {
	n, x := value.Number, value.Text
	for _, c := range []struct {
		a, b         api.Value
		exact, loose int // the order of a and b without nocase, and with it
	}{
		{n(1), n(2), -1, -1},
		{n(2), n(2), 0, 0},
		{n(0), n(-1), 1, 1},
		{n(-10), n(-9), -1, -1},
		{n(least), n(greatest), -1, -1},
		{n(least), n(least), 0, 0},
		{n(least), n(least + 1), -1, -1},
		{n(greatest), n(greatest - 1), 1, 1},
		{x(""), x(""), 0, 0},
		{x(""), x("a"), -1, -1},
		{x("a"), x("ab"), -1, -1},
		{x("10"), x("9"), -1, -1},
		{x("a"), x("b"), -1, -1},
		{x("Ab"), x("aB"), -1, 0},
		{x("a"), x("A"), 1, 0},
		{x("B"), x("a"), -1, 1},
		{x("Z"), x("["), -1, 1},
		{x("É"), x("é"), -1, -1},
		{x("\xff"), x("\x00"), 1, 1},
		{blob("a"), blob("a"), 0, 0},
		{blob("A"), blob("a"), -1, -1},
		{blob("B"), blob("a"), -1, -1},
		{blob("b"), blob("a"), 1, 1},
		{n(5), x(""), -1, -1},
		{n(greatest), x("0"), -1, -1},
		{n(1), x("1"), -1, -1},
		{n(5), blob(""), -1, -1},
		{x("z"), blob(""), -1, -1},
		{x("a"), blob("a"), -1, -1},
		{x("\xff"), blob("\x00"), -1, -1},
	} {
		comparisonsAre(t, c.a, c.b, false, c.exact)
		comparisonsAre(t, c.b, c.a, false, -c.exact)
		comparisonsAre(t, c.a, c.b, true, c.loose)
		comparisonsAre(t, c.b, c.a, true, -c.loose)
	}
}

// Promise 6.3: comparisons use the order of value.Compare for all values.
func TestBinaryComparisonLikeCompare(t *testing.T) {
	for _, a := range valid()[1:] {
		for _, b := range valid()[1:] {
			for _, nocase := range both() {
				comparisonsAre(t, a, b, nocase, value.Compare(a, b, nocase))
			}
		}
	}
}

// Promise 6.3: a value that is no number on either side, or on both, comes before a division by 0.
func TestBinaryNumbersOnly(t *testing.T) {
	others := []api.Value{value.Text(""), value.Text("1"), blob(""), blob("\x01")}
	for _, op := range onNumbers() {
		for _, v := range others {
			for _, n := range []int{0, 1, -1, least, greatest} {
				binaryIs(t, op, v, value.Number(n), false, api.Value{}, api.ErrType)
				binaryIs(t, op, value.Number(n), v, true, api.Value{}, api.ErrType)
			}
			for _, w := range others {
				binaryIs(t, op, v, w, false, api.Value{}, api.ErrType)
			}
		}
	}
}

// Promise 6.3.
func TestBinaryNumbers(t *testing.T) {
	over := outcome{0, api.ErrOver}
	for _, c := range []struct {
		op   string
		a, b int
		want outcome
	}{
		{"+", 1, 2, of(3)},
		{"+", greatest, 0, of(greatest)},
		{"+", greatest, 1, over},
		{"+", least, -1, over},
		{"+", least, greatest, of(-1)},

		{"-", 1, 2, of(-1)},
		{"-", 2, 1, of(1)},
		{"-", 0, greatest, of(-greatest)},
		{"-", 0, least, over},
		{"-", 1, least, over},
		{"-", -1, least, of(greatest)},
		{"-", -2, least, of(greatest - 1)},
		{"-", least, least, of(0)},
		{"-", least, 0, of(least)},
		{"-", least, 1, over},
		{"-", least, -1, of(least + 1)},
		{"-", least + 1, 1, of(least)},
		{"-", -1, greatest, of(least)},
		{"-", -2, greatest, over},
		{"-", greatest, greatest, of(0)},
		{"-", greatest, -1, over},
		{"-", greatest - 1, -1, of(greatest)},
		{"-", greatest, least, over},
		{"-", least, greatest, over},

		{"*", 6, -7, of(-42)},
		{"*", 1 << 62, -2, of(least)},
		{"*", 1 << 62, 2, over},
		{"*", least, -1, over},
		{"*", -1, least, over},
		{"*", least, 0, of(0)},

		{"/", 7, 2, of(3)},
		{"/", 7, -2, of(-3)},
		{"/", -7, 2, of(-3)},
		{"/", -7, -2, of(3)},
		{"/", 1, 2, of(0)},
		{"/", -1, 2, of(0)},
		{"/", 0, 5, of(0)},
		{"/", 0, -1, of(0)},
		{"/", 7, -1, of(-7)},
		{"/", greatest, -1, of(-greatest)},
		{"/", least + 1, -1, of(greatest)},
		{"/", least, -1, over},
		{"/", least, 1, of(least)},
		{"/", least, -2, of(1 << 62)},
		{"/", least, least, of(1)},
		{"/", greatest, least, of(0)},
		{"/", least, greatest, of(-1)},

		{"%", 7, 2, of(1)},
		{"%", 7, -2, of(1)},
		{"%", -7, 2, of(-1)},
		{"%", -7, -2, of(-1)},
		{"%", 6, -2, of(0)},
		{"%", 1, 5, of(1)},
		{"%", -1, 5, of(-1)},
		{"%", 0, -5, of(0)},
		{"%", 7, -1, of(0)},
		{"%", least, -1, of(0)},
		{"%", least, 1, of(0)},
		{"%", least, 10, of(-8)},
		{"%", least, -10, of(-8)},
		{"%", greatest, least, of(greatest)},
		{"%", least, greatest, of(-1)},
	} {
		binaryIs(t, c.op, value.Number(c.a), value.Number(c.b), false, c.want.value(), c.want.err)
		binaryIs(t, c.op, value.Number(c.a), value.Number(c.b), true, c.want.value(), c.want.err)
	}
}

// Promise 6.3: a division by 0 is Null, not an error.
func TestBinaryByZero(t *testing.T) {
	for _, n := range ints() {
		binaryIs(t, "/", value.Number(n), value.Number(0), false, api.Value{}, api.OK)
		binaryIs(t, "%", value.Number(n), value.Number(0), false, api.Value{}, api.OK)
	}
}

// Promise 6.3: operators on numbers return the exact result of many pairs, or ErrOver.
func TestBinaryNumbersExact(t *testing.T) {
	exact := map[string]func(z, x, y *big.Int) *big.Int{
		"+": (*big.Int).Add, "-": (*big.Int).Sub, "*": (*big.Int).Mul, "/": (*big.Int).Quo, "%": (*big.Int).Rem,
	}
	for _, op := range onNumbers() {
		for _, a := range ints() {
			for _, b := range ints() {
				if b == 0 && (op == "/" || op == "%") {
					continue
				}
				want := narrow(exact[op](new(big.Int), big.NewInt(int64(a)), big.NewInt(int64(b))))
				binaryIs(t, op, value.Number(a), value.Number(b), false, want.value(), want.err)
			}
		}
	}
}

// Promise 6.3.
func TestBinaryTexts(t *testing.T) {
	a1000 := strings.Repeat("a", 1000)
	for _, c := range []struct {
		a, b, want string
		err        api.Errno
	}{
		{"", "", "", api.OK},
		{"a", "", "a", api.OK},
		{"", "b", "b", api.OK},
		{"a", "b", "ab", api.OK},
		{"b", "a", "ba", api.OK},
		{"A'", "\x00\xff", "A'\x00\xff", api.OK},
		{"\xc3", "\xa9", "é", api.OK},
		{a1000, "", a1000, api.OK},
		{"", a1000, a1000, api.OK},
		{a1000[:999], "b", a1000[:999] + "b", api.OK},
		{"b", a1000[:999], "b" + a1000[:999], api.OK},
		{a1000[:500], a1000[:500], a1000, api.OK},
		{a1000[:500], a1000[:501], "", api.ErrLong},
		{a1000, "b", "", api.ErrLong},
		{"b", a1000, "", api.ErrLong},
		{a1000, a1000, "", api.ErrLong},
		{strings.Repeat("é", 250), strings.Repeat("é", 250), strings.Repeat("é", 500), api.OK},
		{strings.Repeat("é", 250), strings.Repeat("é", 251), "", api.ErrLong},
	} {
		want := api.Value{}
		if c.err == api.OK {
			want = value.Text(c.want)
		}
		binaryIs(t, "||", value.Text(c.a), value.Text(c.b), false, want, c.err)
		binaryIs(t, "||", value.Text(c.a), value.Text(c.b), true, want, c.err)
	}
}

// Promise 6.3: a value that is no Text comes before one that is too long.
func TestBinaryTextsOnly(t *testing.T) {
	a1000 := strings.Repeat("a", 1000)
	others := []api.Value{value.Number(0), value.Number(1), value.Number(least), blob(""), blob("a"), blob(a1000)}
	for _, v := range others {
		for _, s := range []string{"", "a", a1000} {
			binaryIs(t, "||", v, value.Text(s), false, api.Value{}, api.ErrType)
			binaryIs(t, "||", value.Text(s), v, true, api.Value{}, api.ErrType)
		}
		for _, w := range others {
			binaryIs(t, "||", v, w, false, api.Value{}, api.ErrType)
		}
	}
}

// Promise 6.4: De Morgan's laws, and And and Or are commutative.
func TestLawsOfTruths(t *testing.T) {
	for _, a := range truths() {
		for _, b := range truths() {
			if Not(And(a, b)) != Or(Not(a), Not(b)) || Not(Or(a, b)) != And(Not(a), Not(b)) {
				t.Errorf("De Morgan's laws do not hold for %d and %d", a, b)
			}
			if And(a, b) != And(b, a) || Or(a, b) != Or(b, a) {
				t.Errorf("And or Or is not commutative for %d and %d", a, b)
			}
		}
	}
}

// Promise 6.4: Add and Mul are commutative.
func TestLawsOfNumbers(t *testing.T) {
	for _, a := range ints() {
		for _, b := range ints() {
			if result(Add(a, b)) != result(Add(b, a)) || result(Mul(a, b)) != result(Mul(b, a)) {
				t.Errorf("Add or Mul is not commutative for %d and %d", a, b)
			}
		}
	}
}

// Promise 6.4: = and <> are commutative, and a < b has the result of b > a (as a <= b has that of b >= a).
func TestLawsOfComparisons(t *testing.T) {
	mirror := map[string]string{"=": "=", "<>": "<>", "<": ">", ">": "<", "<=": ">=", ">=": "<="}
	for _, a := range valid() {
		for _, b := range valid() {
			for _, nocase := range both() {
				for _, op := range comparisons() {
					want, err := Binary(op, a, b, nocase)
					binaryIs(t, mirror[op], b, a, nocase, want, err)
				}
			}
		}
	}
}

// P1: Binary ends for values that are not valid, and together with an error it
// returns the zero value.
func TestBinaryAnyArguments(t *testing.T) {
	vs := valid()
	for _, k := range []int{least, -1, 0, 1, 2, 3, 4, 5, 1 << 32, greatest} {
		for _, n := range []int{least, -1, 0, 1, greatest} {
			for _, s := range []string{"", "a", "A", strings.Repeat("a", 1001)} {
				vs = append(vs, api.Value{Kind: k, N: n, S: s})
			}
		}
	}
	for _, op := range append(operators(), "", "^", "<=>") {
		for _, a := range vs {
			for _, b := range vs {
				v, err := Binary(op, a, b, true)
				if err != api.OK && v != (api.Value{}) {
					t.Errorf("Binary(%q, %s, %s) = %s, error %d", op, show(a), show(b), show(v), err)
				}
			}
		}
	}
}

// outcome is what a calculation returns.
type outcome struct {
	n   int
	err api.Errno
}

func of(n int) outcome { return outcome{n, api.OK} }

func result(n int, err api.Errno) outcome { return outcome{n, err} }

// narrow returns what is promised if the exact result is n.
func narrow(n *big.Int) outcome {
	if !n.IsInt64() {
		return outcome{0, api.ErrOver}
	}
	return of(int(n.Int64()))
}

func (o outcome) value() api.Value {
	if o.err != api.OK {
		return api.Value{}
	}
	return value.Number(o.n)
}

func is(t *testing.T, name string, a, b int, got, want outcome) {
	t.Helper()
	if got != want {
		t.Errorf("%s(%d, %d) = %d, error %d, want %d, error %d", name, a, b, got.n, got.err, want.n, want.err)
	}
}

func binaryIs(t *testing.T, op string, a, b api.Value, nocase bool, want api.Value, wantErr api.Errno) {
	t.Helper()
	if got, err := Binary(op, a, b, nocase); got != want || err != wantErr {
		t.Errorf("Binary(%.40q, %s, %s, %v) = %s, error %d, want %s, error %d", op, show(a), show(b), nocase, show(got), err, show(want), wantErr)
	}
}

// comparisonsAre requires the result of each comparison of values that are in the given order.
func comparisonsAre(t *testing.T, a, b api.Value, nocase bool, order int) {
	t.Helper()
	// What =, <>, <, <=, > and >= return, for the orders -1, 0 and 1.
	results := [3][6]int{{0, 1, 1, 1, 0, 0}, {1, 0, 0, 1, 0, 1}, {0, 1, 0, 0, 1, 1}}
	for i, op := range comparisons() {
		binaryIs(t, op, a, b, nocase, value.Number(results[order+1][i]), api.OK)
	}
}

// show returns a value, shortened so that a failure can be read.
func show(v api.Value) string { return fmt.Sprintf("{%d %d %.40q}", v.Kind, v.N, v.S) }
