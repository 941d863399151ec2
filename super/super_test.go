package super

import (
	"math"
	"slices"
	"strings"
	"testing"

	"annexe/api"
)

// four returns a number in four bytes, by the words of 2.3.
func four(n uint32) string {
	return string([]byte{byte(n >> 24), byte(n >> 16), byte(n >> 8), byte(n)})
}

// check32 returns the checksum with a nonce by the words of chapter 3.
func check32(nonce uint32, s string) uint32 {
	a, b := nonce%65521, uint32(0)
	for i := range len(s) {
		a = (a + uint32(s[i])) % 65521
		b = (b + a) % 65521
	}
	return 65536*b + a
}

// long returns a string after a length, which need not be its own.
func long(n uint32, s string) string { return four(n) + s }

// texts returns strings, each after its length.
func texts(l ...string) string {
	var b strings.Builder
	for _, p := range l {
		b.WriteString(long(uint32(len(p)), p))
	}
	return b.String()
}

// closed returns any first mark and contents with a checksum and any last mark.
func closed(first, contents string, nonce uint32, last string) string {
	s := first + contents
	return s + four(check32(nonce, s)) + last
}

// journal returns what has the marks and the checksum of a super-journal,
// with any number of files and any contents after it.
func journal(n uint32, contents string) string {
	return closed("annxsupr", four(n)+contents, 11, "rpusxnna")
}

// spell returns the encoding of files, whether or not they may be in one super-journal.
func spell(l ...string) string { return journal(uint32(len(l)), texts(l...)) }

// trailer returns what has the marks and the checksum of a trailer, with any contents.
func trailer(contents string) string { return closed("annxname", contents, 13, "emanxnna") }

// put returns s with other bytes from a place on.
func put(s string, at int, other string) string { return s[:at] + other + s[at+len(other):] }

// name returns a path of n bytes that differs from those with another k.
func name(k, n int) string { return strings.Repeat(string(rune('a'+k)), n) }

// names returns n different paths of any permitted length.
func names(n int) []string {
	l := make([]string, n)
	for k := range l {
		l[k] = name(k, 1+k*7%40)
	}
	return l
}

// everyByte returns the 256 bytes in order.
func everyByte() string {
	b := make([]byte, 256)
	for i := range b {
		b[i] = byte(i)
	}
	return string(b)
}

// paths holds paths of any bytes, of the least and the greatest length and between them.
func paths() []string {
	l := []string{
		"m-s1", "main", "main-j", "main-s1", "main-s1000", "Main", "main ", " main", "main\x00", "\x00main",
		"\x00", "\x00\x00", "\x00\x00\x00\x01", "\x00\x00\x00\x01a", "\xff", "\xff\xff\xff\xff", "\x80", "\n", "/", "..", "é", "日本",
		"annxsupr", "rpusxnna", "annxname", "emanxnna", "annxjrnl", "annxnameemanxnna",
		strings.Repeat("\x00", 39), strings.Repeat("\x00", 40), strings.Repeat("\xff", 40), strings.Repeat("é", 20),
		name(0, 39), name(0, 40), name(23, 40), name(0, 39) + "b", "b" + name(0, 39), name(0, 39) + "\x00",
		texts("m-s1"), trailer("")[:20], trailer(texts("m-s1")), spell(), spell("abc", "d"),
	}
	for i := range 256 {
		l = append(l, everyByte()[i:i+1], "a"+everyByte()[i:i+1])
	}
	for at := 0; at < 256; at += 32 {
		l = append(l, everyByte()[at:at+32])
	}
	slices.Sort(l)
	return slices.Compact(l)
}

// noPaths holds strings that are no paths.
func noPaths() []string {
	return []string{
		"", name(0, 41), strings.Repeat("\x00", 41), name(0, 42), name(0, 80), strings.Repeat("é", 21), strings.Repeat("é", 40), name(0, 40) + "\x00",
		name(0, 255), name(0, 256), name(0, 257), name(0, 256+4), everyByte(), name(0, 1000), name(0, 65536+4),
	}
}

// lists holds files of super-journals: every number of them, all paths in
// one list or another, and paths that are almost equal.
func lists() [][]string {
	l := [][]string{
		{"main", "other"}, {"other", "main"}, {"a", "A"}, {"a", "a\x00"}, {"\x00", "\x00\x00"}, {"a", "aa"}, {"aa", "a"}, {"ab", "ba"}, {"a", "a "},
		{name(0, 40), name(0, 39)}, {name(0, 40), name(0, 39) + "b"}, {name(0, 40), "b" + name(0, 39)}, {strings.Repeat("\x00", 40), strings.Repeat("\x00", 39) + "\x01"},
		{"annxsupr", "rpusxnna"}, {"é", "e\u0301"}, {"main", "temp", "o1", "o2", "o3", "o4", "o5", "o6", "o7", "o8", "o9", "o10"},
	}
	all := paths()
	for n := 2; n <= 12; n++ {
		l = append(l, names(n))
		for at := 0; at+n <= len(all); at += n {
			l = append(l, all[at:at+n])
		}
		back := names(n)
		slices.Reverse(back)
		l = append(l, back)
		same := make([]string, n)
		for k := range same {
			same[k] = name(k, 40)
		}
		l = append(l, same)
	}
	return l
}

// encodes requires that Encode returns an encoding and leaves its argument as it was.
func encodes(t *testing.T, l []string, want string) {
	t.Helper()
	before := slices.Clone(l)
	if s, err := Encode(l); s != want || err != api.OK {
		t.Errorf("Encode(%q) = %x, error %d, want %x", l, s, err, want)
	}
	if !slices.Equal(l, before) {
		t.Errorf("Encode changed %q to %q", before, l)
	}
}

// refuses requires that Encode returns an error, and nothing beside it.
func refuses(t *testing.T, l []string, want api.Errno) {
	t.Helper()
	before := slices.Clone(l)
	if s, err := Encode(l); s != "" || err != want {
		t.Errorf("Encode(%.80q) = %x, error %d, want error %d", l, s, err, want)
	}
	if !slices.Equal(l, before) {
		t.Errorf("Encode changed %q to %q", before, l)
	}
}

// decodes requires that Decode returns files.
func decodes(t *testing.T, s string, want []string) {
	t.Helper()
	if l, err := Decode(s); !slices.Equal(l, want) || err != api.OK {
		t.Errorf("Decode(%.80x) = %q, error %d, want %q", s, l, err, want)
	}
}

// named requires that Named returns a path.
func named(t *testing.T, s, want string) {
	t.Helper()
	if n, err := Named(s); n != want || err != api.OK {
		t.Errorf("Named(%.80x) = %q, error %d, want %q", s, n, err, want)
	}
}

// noJournal requires that Decode returns an error, and nothing beside it.
func noJournal(t *testing.T, s string) {
	t.Helper()
	if l, err := Decode(s); len(l) != 0 || err != api.ErrForm {
		t.Errorf("Decode(%d bytes, %.200x) = %q, error %d, want error %d", len(s), s, l, err, api.ErrForm)
	}
}

// noTrailer requires that Named returns an error, and nothing beside it.
func noTrailer(t *testing.T, s string) {
	t.Helper()
	if n, err := Named(s); n != "" || err != api.ErrForm {
		t.Errorf("Named(%d bytes, %.200x) = %q, error %d, want error %d", len(s), s, n, err, api.ErrForm)
	}
}

// neither requires that a string is neither a super-journal nor a trailer.
func neither(t *testing.T, s string) {
	t.Helper()
	noJournal(t, s)
	noTrailer(t, s)
}

// Promise 10.1: the very bytes of super-journals, and Decode of them.
func TestJournalBytes(t *testing.T) {
	for _, c := range []struct {
		l    []string
		want string
	}{
		{[]string{"main", "other"}, "annxsupr\x00\x00\x00\x02\x00\x00\x00\x04main\x00\x00\x00\x05other\x73\xea\x07\x5crpusxnna"},
		{[]string{"a", "b"}, "annxsupr\x00\x00\x00\x02\x00\x00\x00\x01a\x00\x00\x00\x01b\x44\x1e\x04\x51rpusxnna"},
		{[]string{"b", "a"}, "annxsupr\x00\x00\x00\x02\x00\x00\x00\x01b\x00\x00\x00\x01a\x44\x23\x04\x51rpusxnna"},
		{[]string{"\x00", "\xff"}, "annxsupr\x00\x00\x00\x02\x00\x00\x00\x01\x00\x00\x00\x00\x01\xff\x42\x75\x04\x8drpusxnna"},
		{[]string{name(23, 40), name(24, 39) + "\x00"}, "annxsupr\x00\x00\x00\x02\x00\x00\x00\x28" + name(23, 40) + "\x00\x00\x00\x28" + name(24, 39) + "\x00" + "\xa6\xa9\x29\x0brpusxnna"},
		{
			strings.Split("abcdefghijkl", ""),
			"annxsupr\x00\x00\x00\x0c" +
				"\x00\x00\x00\x01a\x00\x00\x00\x01b\x00\x00\x00\x01c\x00\x00\x00\x01d\x00\x00\x00\x01e\x00\x00\x00\x01f" +
				"\x00\x00\x00\x01g\x00\x00\x00\x01h\x00\x00\x00\x01i\x00\x00\x00\x01j\x00\x00\x00\x01k\x00\x00\x00\x01l" +
				"\x7c\xbc\x08\x70rpusxnna",
		},
	} {
		encodes(t, c.l, c.want)
		decodes(t, c.want, c.l)
	}
}

// Promise 10.2: the very bytes of trailers, and Named of them; the first is
// the chapter's example.
func TestTrailerBytes(t *testing.T) {
	for _, c := range []struct{ name, want string }{
		{"m-s1", "annxname\x00\x00\x00\x04m-s1\x2d\xf6\x04\xa5emanxnna"},
		{"\x00", "annxname\x00\x00\x00\x01\x00\x20\x69\x03\x64emanxnna"},
		{"\xff", "annxname\x00\x00\x00\x01\xff\x21\x68\x04\x63emanxnna"},
		{"main-s1", "annxname\x00\x00\x00\x07main-s1\x3f\x95\x05\xe0emanxnna"},
		{"annxname", "annxname\x00\x00\x00\x08annxname\x47\x74\x06\xc1emanxnna"},
		{"emanxnna", "annxname\x00\x00\x00\x08emanxnna\x47\x5a\x06\xc1emanxnna"},
		{name(23, 40), "annxname\x00\x00\x00\x28" + name(23, 40) + "\x2b\x62\x16\x4bemanxnna"},
	} {
		if s, err := Trailer(c.name); s != c.want || err != api.OK {
			t.Errorf("Trailer(%q) = %x, error %d, want %x", c.name, s, err, c.want)
		}
		named(t, c.want, c.name)
	}
}

// Promises 10.1 and 10.3: Encode and Decode against the definition of an encoding.
func TestJournals(t *testing.T) {
	for _, l := range lists() {
		encodes(t, l, spell(l...))
		decodes(t, spell(l...), l)
	}
}

// Promises 10.2 and 10.3: Trailer and Named against the definition of a trailer.
func TestTrailers(t *testing.T) {
	for _, p := range paths() {
		want := trailer(texts(p))
		if s, err := Trailer(p); s != want || err != api.OK {
			t.Errorf("Trailer(%q) = %x, error %d, want %x", p, s, err, want)
		}
		named(t, want, p)
	}
}

// Promises 10.1 and 10.2: paths of every length.
func TestLengths(t *testing.T) {
	for n := range 1100 {
		p := strings.Repeat("p", n)
		s, err := Trailer(p)
		if n >= 1 && n <= 40 {
			encodes(t, []string{"a", p}, spell("a", p))
			encodes(t, []string{p, "a", "b"}, spell(p, "a", "b"))
			decodes(t, spell("a", p), []string{"a", p})
			if s != trailer(texts(p)) || err != api.OK {
				t.Errorf("Trailer of %d bytes = %x, error %d", n, s, err)
			}
			named(t, trailer(texts(p)), p)
			continue
		}
		refuses(t, []string{"a", p}, api.ErrName)
		refuses(t, []string{p, "a", "b"}, api.ErrName)
		noJournal(t, spell("a", p))
		noJournal(t, spell(p, "a", "b"))
		if s != "" || err != api.ErrName {
			t.Errorf("Trailer of %d bytes = %x, error %d", n, s, err)
		}
		noTrailer(t, trailer(texts(p)))
	}
}

// Promise 10.1: too few and too many files, which is named before what is
// wrong with their paths.
func TestEncodeArity(t *testing.T) {
	refuses(t, nil, api.ErrArity)
	refuses(t, []string{}, api.ErrArity)
	for _, p := range append(paths(), noPaths()...) {
		refuses(t, []string{p}, api.ErrArity)
	}
	for _, n := range []int{13, 14, 16, 26, 256 + 2, 1000, 65536 + 2} {
		l := make([]string, n)
		refuses(t, l, api.ErrArity)
		for k := range l {
			l[k] = "same"
		}
		refuses(t, l, api.ErrArity)
		for k := range l {
			l[k] = four(uint32(k))
		}
		refuses(t, l, api.ErrArity)
		for _, p := range noPaths() {
			l[n%12] = p
			refuses(t, l, api.ErrArity)
		}
	}
	for n := range 30 {
		if n < 2 || n > 12 {
			refuses(t, names(n), api.ErrArity)
		} else {
			encodes(t, names(n), spell(names(n)...))
		}
	}
}

// Promise 10.1: a string that is no path, at each place of a list; it is named
// before two equal paths, also if it comes after them or is one of them.
func TestEncodeName(t *testing.T) {
	for n := 2; n <= 12; n++ {
		for k := range n {
			for _, p := range noPaths() {
				l := names(n)
				l[k] = p
				refuses(t, l, api.ErrName)
				for at := range n {
					if at != k {
						l[at] = l[(k+1)%n]
					}
				}
				refuses(t, l, api.ErrName)
				l[(k+1)%n] = p
				refuses(t, l, api.ErrName)
			}
		}
		refuses(t, make([]string, n), api.ErrName)
	}
}

// Promise 10.1: two equal paths, at any two places of a list, of any number of files.
func TestEncodeTwice(t *testing.T) {
	for n := 2; n <= 12; n++ {
		for j := range n {
			for i := range j {
				for _, p := range []string{"main", "\x00", "\x00\x00", name(23, 40), "\xff"} {
					l := names(n)
					l[i], l[j] = p, p
					refuses(t, l, api.ErrTwice)
					noJournal(t, spell(l...))
				}
			}
		}
		l := slices.Repeat([]string{"main"}, n)
		refuses(t, l, api.ErrTwice)
		noJournal(t, spell(l...))
	}
	refuses(t, []string{"a", "b", "a"}, api.ErrTwice)
	refuses(t, []string{"a", "b", "b", "a"}, api.ErrTwice)
}

// Promise 10.2: strings that are no paths.
func TestTrailerName(t *testing.T) {
	for _, p := range noPaths() {
		if s, err := Trailer(p); s != "" || err != api.ErrName {
			t.Errorf("Trailer(%.80q) = %x, error %d, want error %d", p, s, err, api.ErrName)
		}
		noTrailer(t, trailer(texts(p)))
	}
}

// sampleJournals holds super-journals of some lists: few and many files, short and long paths.
func sampleJournals() []string {
	return []string{
		spell("a", "b"), spell("main", "other"), spell("\x00", "\x00\x00"), spell(names(12)...), spell(name(0, 40), name(1, 40), name(2, 40)),
		spell("rpusxnna", "annxsupr"), spell(spell(), "x"), spell(strings.Repeat("\x00", 40), strings.Repeat("\x00", 39)),
	}
}

// sampleTrailers holds trailers of short and long paths.
func sampleTrailers() []string {
	var l []string
	for _, p := range []string{"m-s1", "a", "\x00", strings.Repeat("\x00", 40), name(0, 40), "\xff\xff", "emanxnna", "annxname", trailer(texts("m-s1"))} {
		l = append(l, trailer(texts(p)))
	}
	return l
}

// Promises 10.1 and 10.2: what is no encoding at all.
func TestNothing(t *testing.T) {
	for _, s := range []string{
		"", "\x00", "a", "annxsupr", "rpusxnna", "annxname", "emanxnna", "annxsuprrpusxnna", "annxnameemanxnna",
		spell(), trailer(""), trailer(four(0)), trailer(four(1)), trailer(four(math.MaxUint32)), journal(2, ""), journal(2, four(0)), journal(2, texts("a")),
		closed("annxsupr", "", 11, "rpusxnna"), closed("annxsupr", "\x00\x00\x02", 11, "rpusxnna"), closed("annxname", "\x00\x00\x01", 13, "emanxnna"),
		closed("annxsupr", texts("m-s1"), 11, "rpusxnna"), closed("annxname", four(2)+texts("a", "b"), 13, "emanxnna"),
		everyByte(), strings.Repeat("annxsupr", 9), strings.Repeat("annxname", 9),
	} {
		neither(t, s)
	}
	for n := range 600 {
		neither(t, strings.Repeat("\x00", n))
		neither(t, strings.Repeat("\xff", n))
		neither(t, "annxsupr"+strings.Repeat("\x00", n))
		neither(t, "annxname"+strings.Repeat("\x00", n))
		neither(t, strings.Repeat("\x00", n)+"rpusxnna")
		neither(t, strings.Repeat("\x00", n)+"emanxnna")
	}
}

// Promises 10.1, 10.2 and 10.3: proper prefixes, alone and over zero bytes, up
// to the length of the encoding and others; and what is there only from a place on.
func TestTorn(t *testing.T) {
	for _, s := range append(sampleJournals(), sampleTrailers()...) {
		for k := range len(s) {
			neither(t, s[:k])
			for _, n := range []int{len(s) - k, 1, 8, 520} {
				neither(t, s[:k]+strings.Repeat("\x00", n))
			}
			if k > 0 {
				neither(t, s[k:])
				neither(t, strings.Repeat("\x00", k)+s[k:])
			}
			// What survives of a torn one may also lack its middle.
			for to := k + 1; to < len(s); to++ {
				if hole := s[:k] + strings.Repeat("\x00", to-k) + s[to:]; hole != s {
					neither(t, hole)
				}
				neither(t, s[:k]+s[to:])
			}
		}
	}
}

// Promises 10.1 and 10.2: bytes behind, before and within an encoding.
func TestMore(t *testing.T) {
	for _, s := range append(sampleJournals(), sampleTrailers()...) {
		for _, more := range []string{"\x00", "\xff", "a", "\x00\x00\x00\x00", "more", "rpusxnna", "emanxnna", s, spell("a", "b"), trailer(texts("a")), strings.Repeat("\x00", 5000)} {
			neither(t, s+more)
			neither(t, more+s)
			for k := 1; k < len(s); k++ {
				neither(t, s[:k]+more+s[k:])
			}
		}
	}
}

// Promises 10.1 and 10.2: any byte of an encoding, changed to any other one.
func TestOneChangedByte(t *testing.T) {
	for _, s := range append(sampleJournals(), sampleTrailers()...) {
		for k := range len(s) {
			for d := 1; d < 256; d++ {
				neither(t, put(s, k, string([]byte{s[k] ^ byte(d)})))
			}
		}
	}
}

// Promise 10.1: the checksum is right, and the number of files is not that of
// the paths, or is none that a super-journal may have.
func TestDecodeNumber(t *testing.T) {
	numbers := []uint32{0, 1, 2, 3, 5, 11, 12, 13, 14, 255, 256, 257, 256 + 2, 65536 + 2, 1<<24 + 2, 1<<31 - 1, 1 << 31, 1<<31 + 2, math.MaxUint32 - 1, math.MaxUint32}
	for k := range 20 {
		l := names(k)
		for _, n := range numbers {
			if int(n) == k && k >= 2 && k <= 12 {
				decodes(t, journal(n, texts(l...)), l)
			} else {
				noJournal(t, journal(n, texts(l...)))
			}
		}
	}
	for _, k := range []int{256, 257, 256 + 2, 65536 + 2} {
		l := make([]string, k)
		for i := range l {
			l[i] = four(uint32(i))
		}
		contents := texts(l...)
		for _, n := range numbers {
			noJournal(t, journal(n, contents))
		}
	}
}

// Promises 10.1 and 10.2: the checksum is right, and a string has another
// length than the one that stands before it, also one beyond all that follows.
func TestWrongLengths(t *testing.T) {
	for n := range uint32(600) {
		lengths := []uint32{n, 1<<16 + n, 1<<24 + n, 1<<31 + n, math.MaxUint32 - n}
		for _, m := range lengths {
			if m != 4 {
				noJournal(t, journal(2, long(m, "main")+texts("other")))
				noJournal(t, journal(2, texts("other")+long(m, "main")))
				noJournal(t, journal(3, texts("other", "third")+long(m, "main")))
				noTrailer(t, trailer(long(m, "m-s1")))
			}
			if m != 40 {
				noJournal(t, journal(2, texts("other")+long(m, name(0, 40))))
				noTrailer(t, trailer(long(m, name(0, 40))))
			}
			noTrailer(t, trailer(four(m)))
		}
	}
}

// Promises 10.1 and 10.2: the checksum is right, and paths are empty or too
// long, at each place of a list.
func TestWrongPaths(t *testing.T) {
	for _, p := range noPaths() {
		for n := 2; n <= 12; n++ {
			for k := range n {
				l := names(n)
				l[k] = p
				noJournal(t, spell(l...))
			}
		}
		noJournal(t, spell(p, p))
		noTrailer(t, trailer(texts(p)))
	}
}

// Promises 10.1 and 10.2: the checksum is right, and bytes are left between
// the last path and the checksum.
func TestLeft(t *testing.T) {
	for _, left := range []string{"\x00", "a", "\x00\x00\x00", four(0), four(1), texts("c"), texts("c", "d"), texts(name(2, 40)), "rpusxnna", "emanxnna", strings.Repeat("\x00", 40)} {
		for n := 2; n <= 12; n++ {
			noJournal(t, journal(uint32(n), texts(names(n)...)+left))
		}
		noJournal(t, journal(2, left+texts("a", "b")))
		noTrailer(t, trailer(texts("m-s1")+left))
		noTrailer(t, trailer(left+texts("m-s1")))
		noTrailer(t, trailer(texts(name(0, 40))+left))
	}
}

// Promises 10.1 and 10.2: marks that are exchanged or others, with any nonce;
// only those of the definition are right.
func TestMarks(t *testing.T) {
	files, path := four(2)+texts("main", "other"), texts("m-s1")
	firsts := []string{"annxsupr", "rpusxnna", "annxname", "emanxnna", "annxjrnl", "lnrjxnna", "ANNXSUPR", "ANNXNAME", "annxsup", "annxnam", "", "\x00\x00\x00\x00\x00\x00\x00\x00", "annxsuprannxsupr", "annxnameannxname"}
	for _, first := range firsts {
		for _, last := range append(firsts, "rpusxnn", "emanxnn", "RPUSXNNA", "EMANXNNA", "rpusxnnarpusxnna") {
			for _, nonce := range []uint32{0, 1, 7, 11, 12, 13, 65520} {
				f, p := closed(first, files, nonce, last), closed(first, path, nonce, last)
				if f == spell("main", "other") {
					decodes(t, f, []string{"main", "other"})
				} else {
					noJournal(t, f)
				}
				if p == trailer(path) {
					named(t, p, "m-s1")
				} else {
					noTrailer(t, p)
				}
				noTrailer(t, f)
				noJournal(t, p)
			}
		}
	}
}

// Promises 10.1 and 10.2: checksums with any other nonce, the other one's
// among them, of other bytes, or in another order.
func TestOtherSums(t *testing.T) {
	for _, s := range append(sampleJournals(), sampleTrailers()...) {
		at := len(s) - 12
		right := uint32(s[at])<<24 | uint32(s[at+1])<<16 | uint32(s[at+2])<<8 | uint32(s[at+3])
		sums := []uint32{
			0, 1, math.MaxUint32, check32(11, s[8:at]), check32(13, s[8:at]), check32(11, s[:at-1]), check32(13, s[:at-1]), check32(11, s), check32(13, s), check32(11, s[:at]+s[at+4:]), check32(13, s[:at]+s[at+4:]),
			right + 1, right - 1, right ^ 1<<31, right + 65521, right - 65521, right + 65536, right<<16 | right>>16, right<<8 | right>>24,
		}
		for nonce := range uint32(100) {
			sums = append(sums, check32(nonce, s[:at]))
		}
		for _, sum := range sums {
			if sum != right {
				neither(t, put(s, at, four(sum)))
			}
		}
	}
}

// Promises 10.1 and 10.2: parts of different encodings do not make one.
func TestMixed(t *testing.T) {
	all := append(sampleJournals(), sampleTrailers()...)
	for i, s := range all {
		for j, o := range all {
			for k := 1; i != j && k < min(len(s), len(o)); k++ {
				if mix := s[:k] + o[k:]; mix != s && mix != o {
					neither(t, mix)
				}
				if mix := s[:k] + o[len(o)-k:]; mix != s && mix != o {
					neither(t, mix)
				}
			}
		}
	}
}

// Promise 10.3: Decode inverts Encode, Named inverts Trailer, neither accepts
// what the other one does, and no two encodings are equal.
func TestInverse(t *testing.T) {
	seen := map[string][]string{}
	for _, l := range lists() {
		s, err := Encode(l)
		if err != api.OK {
			t.Errorf("Encode(%q): error %d", l, err)
		}
		decodes(t, s, l)
		noTrailer(t, s)
		if other, ok := seen[s]; ok && !slices.Equal(other, l) {
			t.Errorf("%q and %q have one encoding", other, l)
		}
		seen[s] = l
	}
	trailers := map[string]string{}
	for _, p := range paths() {
		s, err := Trailer(p)
		if err != api.OK {
			t.Errorf("Trailer(%q): error %d", p, err)
		}
		named(t, s, p)
		noJournal(t, s)
		if other, ok := trailers[s]; ok {
			t.Errorf("%q and %q have one trailer", other, p)
		}
		trailers[s] = p
	}
}

// Promise 10.3 and DOC.md, Rules: what was returned is shared with nothing,
// and nothing is kept from call to call.
func TestNotShared(t *testing.T) {
	l := []string{"main", "other", "third"}
	s, _ := Encode(l)
	first, _ := Decode(s)
	l[0] = "changed"
	clear(first)
	decodes(t, s, []string{"main", "other", "third"})
	second, _ := Decode(s)
	_ = append(second[:1], "more")
	third, _ := Decode(s)
	if !slices.Equal(third, []string{"main", "other", "third"}) {
		t.Errorf("Decode = %q", third)
	}
	if s != spell("main", "other", "third") {
		t.Errorf("the encoding became %x", s)
	}
}

// chance is a short rule that gives numbers without an order that is seen at once.
type chance uint64

func (c *chance) below(n int) int {
	*c = *c*6364136223846793005 + 1442695040888963407
	return int(uint64(*c) >> 33 % uint64(n))
}

// Promise 10.1 and 10.2, P1: damaged strings with a right checksum; only what
// is the encoding of what was returned is accepted.
func TestDamaged(t *testing.T) {
	c := chance(1)
	pieces := []string{"", "\x00", "\x01", "\x02", "\x03", "\x28", "\xff", four(0), four(1), four(2), four(3), texts("a"), texts("b"), texts("cd"), texts(name(0, 40)), "annxsupr", "rpusxnna"}
	accepted := 0
	for range 200000 {
		contents := four(uint32(c.below(4)))
		for range c.below(5) {
			contents += pieces[c.below(len(pieces))]
		}
		s := closed("annxsupr", contents, 11, "rpusxnna")
		l, err := Decode(s)
		switch {
		case err == api.OK && spell(l...) == s && len(l) >= 2 && !slices.Contains(l, "") && !repeated(l):
			accepted++
		case err != api.ErrForm || len(l) != 0:
			t.Errorf("Decode(%x) = %q, error %d", s, l, err)
		}
		path, err := Named(closed("annxname", contents[4:], 13, "emanxnna"))
		switch {
		case err == api.OK && texts(path) == contents[4:] && path != "" && len(path) <= 40:
			accepted++
		case err != api.ErrForm || path != "":
			t.Errorf("Named of %x = %q, error %d", contents[4:], path, err)
		}
	}
	if accepted < 1000 {
		t.Errorf("only %d were accepted", accepted)
	}
}

// repeated reports whether two of some strings are equal.
func repeated(l []string) bool {
	sorted := slices.Sorted(slices.Values(l))
	return len(slices.Compact(sorted)) != len(l)
}

// Promise P1: long arguments.
func TestLong(t *testing.T) {
	huge := strings.Repeat("annxsupr\x00\x00\x00\x02\x00\x00\x00\x01a", 1<<20)
	neither(t, huge)
	neither(t, "annxname\x7f\xff\xff\xff"+huge)
	neither(t, trailer(long(uint32(len(huge)), huge)))
	neither(t, spell("a", huge))
	refuses(t, []string{huge, huge}, api.ErrName)
	refuses(t, make([]string, 1<<20), api.ErrArity)
	if s, err := Trailer(huge); s != "" || err != api.ErrName {
		t.Errorf("Trailer of %d bytes = %d bytes, error %d", len(huge), len(s), err)
	}
}
