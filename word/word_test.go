package word_test

import (
	"slices"
	"strings"
	"testing"
	"unicode"

	"demesne/api"
	"demesne/word"
)

// The runes of a name as the chapter lists them, one by one.
const (
	latin    = "abcdefghijklmnopqrstuvwxyz"
	greek    = "αβγδεζηθικλμνξοπρςστυφχψω"
	cyrillic = "абвгдежзийклмнопрстуфхцчшщъыьэюя"
	inner    = "0123456789-"
)

// badBytes are texts without any rune's bytes: each of their bytes counts one.
var badBytes = []string{
	"\x80", "\xbf", "\xc0", "\xff", "\xff\xfe",
	"\xce",             // the beginning of a greek rune
	"\xd1",             // the beginning of a cyrillic one
	"\xe2\x82",         // the beginning of a rune of three bytes
	"\xf0\x9f\x98",     // and of one of four
	"\xc1\xa1",         // `a`, longer than need be
	"\xe0\x8e\xb1",     // U+03B1, longer than need be
	"\xed\xa0\x80",     // half of a pair
	"\xf4\x90\x80\x80", // past the last rune
	"\xf8\x88\x80\x80\x80",
}

// samples are names of all kinds and lengths.
func samples() []string {
	all := []string{"a", "z", "α", "ω", "ς", "а", "я", "a0", "a9", "a-", "z9-", "a--", "team-2", "αдz-7", "дом"}
	for _, letter := range []string{"a", "z", "α", "ω", "а", "я"} {
		all = append(all, strings.Repeat(letter, api.MaxName-1), strings.Repeat(letter, api.MaxName))
	}
	return all
}

// noSamples are texts that are no names, and hold no `/`.
func noSamples() []string {
	all := []string{
		"", " ", "A", "Z", "0", "9", "-", "9a", "-a", "0α", "-я", "a ", " a", "a b", "a_b", "a.b", "a:b", "aB", "a\x00", "a\n", "`", "{",
		"Α", "Ω", "ΰ", "ϊ", "ά", "А", "Я", "ѐ", "ё", "é", "ａ", "a\u0301", "€", "😀", "\ufffd", "a\ufffd", "\ufeffa",
	}
	for _, letter := range []string{"a", "α", "я", "a-0"} {
		all = append(all, strings.Repeat(letter, api.MaxName+1))
	}
	for _, bad := range badBytes {
		all = append(all, bad, "a"+bad, bad+"a", "a"+bad+"a")
	}
	return all
}

// P2.1: of all runes those of the chapter may begin a name, those and the inner ones may go on in it.
func TestRightOfEveryRune(t *testing.T) {
	letters := latin + greek + cyrillic
	for r := rune(0); r <= unicode.MaxRune; r++ {
		if unicode.Is(unicode.Cs, r) {
			continue // no rune of UTF-8: see badBytes
		}
		begins := strings.ContainsRune(letters, r)
		goesOn := begins || strings.ContainsRune(inner, r)
		if word.Right(string(r)) != begins || word.Right(string(r)+"a") != begins {
			t.Errorf("%U begins a name: want %v", r, begins)
		}
		if word.Right("a"+string(r)) != goesOn || word.Right("я"+string(r)+"b") != goesOn {
			t.Errorf("%U goes on in a name: want %v", r, goesOn)
		}
	}
}

// P2.1: ordinary names, and what is none.
func TestRight(t *testing.T) {
	for _, s := range samples() {
		if !word.Right(s) {
			t.Errorf("Right(%q) = false", s)
		}
	}
	for _, s := range append(noSamples(), "/", "a/", "/a", "a/b") {
		if word.Right(s) {
			t.Errorf("Right(%q) = true", s)
		}
	}
}

// P2.1: runes are counted, not bytes: as many as MaxName are a name, one more is none.
func TestRightLengths(t *testing.T) {
	for _, piece := range []string{"a", "α", "я"} {
		for n := range 3 * api.MaxName {
			want := n >= 1 && n <= api.MaxName
			if s := strings.Repeat(piece, n); word.Right(s) != want {
				t.Errorf("Right of %d times %s: want %v", n, piece, want)
			}
			if s := strings.Repeat("9", n); n > 0 && word.Right(piece+s[1:]) != want {
				t.Errorf("Right of %s and %d digits: want %v", piece, n-1, want)
			}
		}
	}
}

// P2.1: a rune that is right is not so in another form: no byte alone but ASCII's, no pair but the runes' own.
func TestRightOfEveryPairOfBytes(t *testing.T) {
	names := map[string]bool{}
	for _, first := range latin + greek + cyrillic {
		names[string(first)] = true
		for _, second := range latin + greek + cyrillic + inner {
			names[string(first)+string(second)] = true
		}
	}
	for n := range 1 << 16 {
		pair := string([]byte{byte(n >> 8), byte(n)})
		if word.Right(pair) != names[pair] || word.Right(pair[:1]) != names[pair[:1]] {
			t.Errorf("Right(%q) = %v, Right(%q) = %v", pair, word.Right(pair), pair[:1], word.Right(pair[:1]))
		}
	}
}

// P2.1: runes are counted one by one, whether they may stand in a name or not.
func TestCount(t *testing.T) {
	for s, want := range map[string]int{
		"": 0, "a": 1, "A /": 3, "αω": 2, "дом": 3, "a\x00b": 3, "€": 1, "😀": 1, "a\u0301": 2, "\ufffd": 1, "\ufffd\ufffd": 2, "\U0010ffff": 1,
		"aα\xff": 3, "\xe0\xa0": 2, "\xe2\x82a": 3, "\xce\xceα": 3, "\xf0\x9f\x98😀": 4, "\xed\xa0\x80": 3,
	} {
		if got := word.Count(s); got != want {
			t.Errorf("Count(%q) = %d, want %d", s, got, want)
		}
	}
	for _, bad := range badBytes {
		if got := word.Count(bad); got != len(bad) {
			t.Errorf("Count(%q) = %d, want %d", bad, got, len(bad))
		}
	}
	long := strings.Repeat("α", 1<<20) + strings.Repeat("\xff", 1<<20)
	if got := word.Count(long); got != 1<<21 {
		t.Errorf("Count of a long text = %d, want %d", got, 1<<21)
	}
}

// runeBytes tells how many bytes the rune at the beginning of s has; 0, if none stands there.
func runeBytes(s string) int {
	for size := 1; size <= 4 && size <= len(s); size++ {
		r := rune(s[0])
		if size > 1 {
			r = rune(s[0]) & (0xff >> (size + 1))
		}
		for i := 1; i < size; i++ {
			r = r<<6 | rune(s[i])&0x3f
		}
		if string(r) == s[:size] {
			return size
		}
	}
	return 0
}

func countByHand(s string) int {
	n := 0
	for len(s) > 0 {
		s = s[max(1, runeBytes(s)):]
		n++
	}
	return n
}

// P2.1: of all texts of up to four of the bytes at which forms of runes turn.
func TestCountOfBytes(t *testing.T) {
	turns := "\x00a\x7f\x80\x8f\x90\x9f\xa0\xb1\xbf\xc0\xc1\xc2\xce\xdf\xe0\xed\xef\xf0\xf4\xf5\xff"
	var check func(s string)
	check = func(s string) {
		if got, want := word.Count(s), countByHand(s); got != want {
			t.Errorf("Count(%q) = %d, want %d", s, got, want)
		}
		for i := 0; i < len(turns) && len(s) < 4; i++ {
			check(s + turns[i:i+1])
		}
	}
	check("")
}

// wantPath holds Parts and Ups of the path of these names against them.
func wantPath(t *testing.T, names ...string) {
	t.Helper()
	s := strings.Join(names, "/")
	if got := word.Parts(s); !slices.Equal(got, names) {
		t.Errorf("Parts(%q) = %q, want %q", s, got, names)
	}
	var ups []string
	for i := range names {
		ups = append(ups, strings.Join(names[:i+1], "/"))
	}
	if got := word.Ups(s); !slices.Equal(got, ups) {
		t.Errorf("Ups(%q) = %q, want %q", s, got, ups)
	}
	for _, up := range ups {
		if !word.Under(up, s) {
			t.Errorf("Under(%q, %q) = false", up, s)
		}
	}
}

func wantNoPath(t *testing.T, s string) {
	t.Helper()
	if parts, ups := word.Parts(s), word.Ups(s); len(parts) != 0 || len(ups) != 0 {
		t.Errorf("Parts(%q) = %q, Ups = %q, want none", s, parts, ups)
	}
	for _, other := range []string{s, "a", "", s + "/a", "a/" + s} {
		if word.Under(s, other) || word.Under(other, s) {
			t.Errorf("Under of %q and %q = true", s, other)
		}
	}
}

// P2.2: of one, two and three names each way.
func TestPaths(t *testing.T) {
	for _, a := range samples() {
		wantPath(t, a)
		for _, b := range samples() {
			wantPath(t, a, b)
			for _, c := range samples() {
				wantPath(t, a, b, c)
			}
		}
	}
}

// P2.2: the chapter's example.
func TestUpsExample(t *testing.T) {
	if got := word.Ups("a/b"); !slices.Equal(got, []string{"a", "a/b"}) {
		t.Errorf("Ups(a/b) = %q", got)
	}
}

// P2.2: what is no name is no part of a path, wherever it stands; more names than MaxParts are no path.
func TestNoPaths(t *testing.T) {
	for _, bad := range noSamples() {
		for _, s := range []string{bad, bad + "/a", "a/" + bad, bad + "/a/b", "a/" + bad + "/b", "a/b/" + bad} {
			wantNoPath(t, s)
		}
	}
	for _, s := range []string{
		"/", "//", "///", "/a", "a/", "a//b", "/a/b", "a/b/", "a/b/c/", "/a/b/c", "a\\b", "a/b/c/d", "a/b/c/d/e", "a/b/c/D",
		"a/1", "a/-", "a／b", strings.Repeat("/", 1<<20), strings.Repeat("a/", 1<<20) + "a", strings.Repeat("a", 1<<20),
	} {
		wantNoPath(t, s)
	}
}

// P2.2: of paths that are none of each other's first names, by names and not by bytes.
func TestNotUnder(t *testing.T) {
	for _, c := range [][2]string{
		{"a/b", "a"}, {"a/b/c", "a/b"}, {"a/b/c", "a"},
		{"a", "b"}, {"a", "ab"}, {"ab", "a"}, {"a/b", "a/bc"}, {"a", "a-"}, {"a", "aα"}, {"a", "ab/c"},
		{"b", "a/b"}, {"b/c", "a/b/c"}, {"c", "a/b/c"}, {"a/c", "a/b/c"}, {"a/b", "a/c"},
		{"", ""}, {"", "a"}, {"a", ""}, {"a/", "a/b"}, {"/", "a/b"}, {"a", "a/B"}, {"a", "a/b/c/d"}, {"a/b/c/d", "a/b/c/d"},
		{"a", "a/"}, {"a", "a//b"}, {"\xce", "α"}, {"а", "a/b"},
	} {
		if word.Under(c[0], c[1]) {
			t.Errorf("Under(%q, %q) = true", c[0], c[1])
		}
	}
}

// P2.3: no text of more bytes than twice MaxName is a name, and one of as many is.
func TestBytesOfNames(t *testing.T) {
	longest := 0
	for _, piece := range []string{"a", "z", "α", "ω", "а", "я", "aα", "яa", "a0", "я-"} {
		for n := range 3 * api.MaxName {
			if s := strings.Repeat(piece, n); word.Right(s) {
				longest = max(longest, len(s))
			}
		}
	}
	if longest != 2*api.MaxName {
		t.Errorf("the longest name has %d bytes, want %d", longest, 2*api.MaxName)
	}
}

// orderSamples are all paths of a few names that begin one another, and texts that are none.
func orderSamples() (paths, others []string) {
	names := []string{"a", "ab", "α", "a-"}
	for _, a := range names {
		paths = append(paths, a)
		for _, b := range names {
			paths = append(paths, a+"/"+b)
			for _, c := range names {
				paths = append(paths, a+"/"+b+"/"+c)
			}
		}
	}
	return paths, []string{"", "/", "a/", "/a", "A", "a/B", "a//b", "a/a/a/a", "\xff"}
}

// P2.3: a path is Under itself, and two different ones at most one way.
func TestUnderOfItselfAndBothWays(t *testing.T) {
	paths, others := orderSamples()
	for _, a := range append(paths, others...) {
		if word.Under(a, a) != slices.Contains(paths, a) {
			t.Errorf("Under(%q, %q) = %v", a, a, word.Under(a, a))
		}
		for _, b := range append(paths, others...) {
			if a != b && word.Under(a, b) && word.Under(b, a) {
				t.Errorf("%q and %q are Under each other", a, b)
			}
		}
	}
}

// P2.3: what is Under by what is between is so at once.
func TestUnderByBetween(t *testing.T) {
	paths, others := orderSamples()
	all := append(paths, others...)
	steps := 0
	for _, a := range all {
		for _, b := range all {
			if !word.Under(a, b) {
				continue
			}
			for _, c := range all {
				if word.Under(b, c) && !word.Under(a, c) {
					t.Errorf("%q, %q, %q: the first is not Under the last", a, b, c)
				}
				if a != b && b != c && word.Under(b, c) {
					steps++
				}
			}
		}
	}
	if steps == 0 {
		t.Error("nothing was Under by what is between")
	}
}

// P3: an answer is new memory: what is written into one is not seen in the next one.
func TestAnswersAreNew(t *testing.T) {
	for _, call := range []func(string) []string{word.Parts, word.Ups} {
		first := call("a/b/c")
		want := slices.Clone(first)
		clear(first[:cap(first)])
		if got := call("a/b/c"); !slices.Equal(got, want) {
			t.Errorf("the second answer = %q, want %q", got, want)
		}
	}
}

// P1 to P6: at any argument a call ends, and the answers agree with one another.
func FuzzWords(f *testing.F) {
	f.Add("", "")
	f.Add("a", "a/b/c")
	f.Add("αβ/дом", "αβ/дом/c-1")
	f.Add("a//b", "\xff/\xce")
	f.Fuzz(func(t *testing.T, a, b string) {
		for _, s := range []string{a, b} {
			if word.Count(s) != countByHand(s) {
				t.Errorf("Count(%q) = %d", s, word.Count(s))
			}
			checkParts(t, s)
		}
		begins := a == b || strings.HasPrefix(b, a+"/")
		want := len(word.Parts(a)) > 0 && len(word.Parts(b)) > 0 && begins
		if word.Under(a, b) != want {
			t.Errorf("Under(%q, %q): want %v", a, b, want)
		}
	})
}

func checkParts(t *testing.T, s string) {
	t.Helper()
	pieces := strings.Split(s, "/")
	wrong := func(piece string) bool { return !word.Right(piece) }
	if len(pieces) > api.MaxParts || slices.ContainsFunc(pieces, wrong) {
		wantNoPath(t, s)
		return
	}
	wantPath(t, pieces...)
}
