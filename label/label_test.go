package label_test

import (
	"bytes"
	"encoding/binary"
	"math"
	"slices"
	"strings"
	"testing"

	"demesne/api"
	"demesne/label"
	"demesne/word"
)

// Pairs are written key, value by turns.
func pairs(texts ...string) []label.Pair {
	var l []label.Pair
	for i := 0; i+1 < len(texts); i += 2 {
		l = append(l, label.Pair{Key: texts[i], Value: texts[i+1]})
	}
	return l
}

// rising tells n pairs whose keys rise.
func rising(n int) []label.Pair {
	var l []label.Pair
	for i := range n {
		l = append(l, label.Pair{Key: "k" + string(rune('a'+i)), Value: "v"})
	}
	return l
}

// samples are right labels, with the edges of names and counts, and keys that rise just so.
func samples() [][]label.Pair {
	all := [][]label.Pair{
		nil,
		{},
		pairs("a", "a"),
		pairs("disk", "ssd", "zone", "αβ"),
		pairs("a", "z", "b", "y", "c", "x"),
		pairs("a", "v", "a-", "v", "a0", "v", "a9", "v", "aa", "v", "b", "v"),
		pairs("z", "v", "α", "v", "ω", "v", "а", "v", "я", "v"),
		pairs("zzzz", "v", "α", "v"),
		pairs("ab", "c", "abc", "c"),
		pairs(strings.Repeat("a", api.MaxName), strings.Repeat("я", api.MaxName)),
		pairs(strings.Repeat("α", api.MaxName-1), "v", strings.Repeat("α", api.MaxName), strings.Repeat("z", api.MaxName)),
		pairs("same", "same", "samf", "same"),
	}
	for n := range api.MaxLabels + 1 {
		all = append(all, rising(n))
	}
	return all
}

// noNames are texts that are no names.
var noNames = []string{
	"", " ", "A", "0", "9a", "-", "-a", "a b", "a ", " a", "a=", "=", "a=b", "a,", ",", "a,b", "?", "a/b", "aB", "a\x00", "é", "a\xff", "\xce", "\xc1\xa1", "€",
	strings.Repeat("a", api.MaxName+1), strings.Repeat("я", api.MaxName+1), strings.Repeat("a", 2*api.MaxName), strings.Repeat("a", 1000),
}

// wrongs are labels that are not right.
func wrongs() [][]label.Pair {
	all := [][]label.Pair{
		pairs("zone", "a", "disk", "ssd"),
		pairs("a", "v", "a", "v"),
		pairs("a", "v", "a", "w"),
		pairs("a", "w", "a", "v"),
		pairs("a", "v", "b", "v", "a", "v"),
		pairs("a", "v", "c", "v", "b", "v"),
		pairs("b", "v", "a", "v", "c", "v"),
		pairs("a", "v", "b", "v", "b", "v"),
		pairs("abc", "v", "ab", "v"),
		pairs("a0", "v", "a-", "v"),
		pairs("α", "v", "z", "v"),
		pairs("α", "v", "zzzz", "v"),
		pairs("а", "v", "ω", "v"),
		{{}},
		{{}, {}},
		rising(api.MaxLabels + 1),
		rising(2 * api.MaxLabels),
		slices.Repeat(rising(1), api.MaxLabels),
		slices.Repeat(rising(1), 1000),
	}
	for _, bad := range noNames {
		for at := range 3 {
			badKey, badValue := rising(3), rising(3)
			badKey[at].Key, badValue[at].Value = bad, bad
			all = append(all, badKey, badValue)
		}
		all = append(all, pairs(bad, "v"), pairs("k", bad), pairs(bad, bad))
	}
	return all
}

// rightByHand asks of each pair, and of each two, what the chapter asks.
func rightByHand(l []label.Pair) bool {
	if len(l) > api.MaxLabels {
		return false
	}
	for i, p := range l {
		if !word.Right(p.Key) || !word.Right(p.Value) {
			return false
		}
		for _, later := range l[i+1:] {
			if bytes.Compare([]byte(p.Key), []byte(later.Key)) >= 0 {
				return false
			}
		}
	}
	return true
}

// P4.1: ordinary labels, the edges, and what is not right.
func TestRight(t *testing.T) {
	for _, l := range samples() {
		if !label.Right(l) {
			t.Errorf("Right(%q) = false", l)
		}
	}
	for _, l := range wrongs() {
		if label.Right(l) {
			t.Errorf("Right(%q) = true", l)
		}
	}
}

// eachList hands in every list of up to most pairs of these texts.
func eachList(texts []string, most int, do func(l []label.Pair)) {
	var grow func(l []label.Pair)
	grow = func(l []label.Pair) {
		do(l)
		if len(l) == most {
			return
		}
		for _, key := range texts {
			for _, value := range texts {
				grow(append(slices.Clip(l), label.Pair{Key: key, Value: value}))
			}
		}
	}
	grow(nil)
}

// P4.1: of all short lists of texts that are names, and that are none, in every order.
func TestRightOfAllLists(t *testing.T) {
	eachList([]string{"a", "a-", "b", "α", "A"}, 3, func(l []label.Pair) {
		if got, want := label.Right(l), rightByHand(l); got != want {
			t.Errorf("Right(%q) = %v", l, got)
		}
	})
}

// P4.1: as many as MaxLabels are right, one more is not, wherever it is put.
func TestRightCounts(t *testing.T) {
	most := rising(api.MaxLabels)
	for at := range api.MaxLabels + 1 {
		key := "a"
		if at > 0 {
			key = most[at-1].Key + "-"
		}
		over := slices.Insert(slices.Clone(most), at, label.Pair{Key: key, Value: "v"})
		if !rightByHand(over[:api.MaxLabels]) || label.Right(over) {
			t.Errorf("Right(%q) = true", over)
		}
		if !label.Right(over[:api.MaxLabels]) || !label.Right(over[1:]) {
			t.Errorf("not right without the last, or the first, of %q", over)
		}
	}
}

// P4.1: two keys that change places are not right, wherever they stand.
func TestRightOrder(t *testing.T) {
	for i := range api.MaxLabels {
		for j := range i {
			l := rising(api.MaxLabels)
			l[i], l[j] = l[j], l[i]
			if label.Right(l) {
				t.Errorf("Right(%q) = true", l)
			}
			l = rising(api.MaxLabels)
			l[i].Key = l[j].Key
			if label.Right(l) {
				t.Errorf("Right(%q) = true", l)
			}
		}
	}
}

// P4.1: the first pair of a key is found, in whatever list it stands.
func TestFind(t *testing.T) {
	for _, c := range []struct {
		l    []label.Pair
		key  string
		want string
		ok   bool
	}{
		{pairs("disk", "ssd", "zone", "αβ"), "zone", "αβ", true},
		{pairs("disk", "ssd", "zone", "αβ"), "disk", "ssd", true},
		{pairs("disk", "ssd", "zone", "αβ"), "ssd", "", false},
		{pairs("disk", "ssd", "zone", "αβ"), "dis", "", false},
		{pairs("disk", "ssd", "zone", "αβ"), "disks", "", false},
		{pairs("disk", "ssd", "zone", "αβ"), "Disk", "", false},
		{pairs("disk", "ssd", "zone", "αβ"), "", "", false},
		{nil, "a", "", false},
		{nil, "", "", false},
		{pairs("a", "1", "a", "2"), "a", "1", true},
		{pairs("b", "1", "a", "2", "b", "3", "a", "4"), "a", "2", true},
		{pairs("z", "1", "a", "2"), "a", "2", true},
		{pairs("a", "", "a", "b"), "a", "", true},
		{pairs("", "x"), "", "x", true},
		{pairs("\xff", "\xfe"), "\xff", "\xfe", true},
		{append(slices.Repeat(pairs("a", "b"), 1000), label.Pair{Key: "z", Value: "last"}), "z", "last", true},
	} {
		if got, ok := label.Find(c.l, c.key); got != c.want || ok != c.ok {
			t.Errorf("Find(%q, %q) = %q, %v, want %q, %v", c.l, c.key, got, ok, c.want, c.ok)
		}
	}
	for _, l := range samples() {
		for _, p := range l {
			if got, ok := label.Find(l, p.Key); got != p.Value || !ok {
				t.Errorf("Find(%q, %q) = %q, %v", l, p.Key, got, ok)
			}
		}
	}
}

// putByHand puts the pairs as the chapter says, right or not.
func putByHand(l []label.Pair) string {
	form := binary.AppendUvarint(nil, uint64(len(l)))
	for _, p := range l {
		for _, text := range []string{p.Key, p.Value} {
			form = append(binary.AppendUvarint(form, uint64(len(text))), text...)
		}
	}
	return string(form)
}

// P4.2: the forms as bytes; none of what is not right.
func TestPut(t *testing.T) {
	for _, c := range []struct {
		l    []label.Pair
		want string
	}{
		{nil, "\x00"},
		{pairs("a", "b"), "\x01\x01a\x01b"},
		{pairs("disk", "ssd", "zone", "αβ"), "\x02\x04disk\x03ssd\x04zone\x04αβ"},
		{pairs("k", strings.Repeat("я", 16)), "\x01\x01k\x20" + strings.Repeat("я", 16)},
	} {
		if got := label.Put(c.l); got != c.want {
			t.Errorf("Put(%q) = %x, want %x", c.l, got, c.want)
		}
	}
	for _, l := range samples() {
		if got, want := label.Put(l), putByHand(l); got != want {
			t.Errorf("Put(%q) = %x, want %x", l, got, want)
		}
	}
	for _, l := range wrongs() {
		if got := label.Put(l); got != "" {
			t.Errorf("Put(%q) = %x, want nothing", l, got)
		}
	}
}

func wantNoBytes(t *testing.T, s string, at int) {
	t.Helper()
	if l, next, ok := label.Get(s, at); len(l) != 0 || next != 0 || ok {
		t.Errorf("Get(%x, %d) = %q, %d, %v, want nothing", s, at, l, next, ok)
	}
}

// P4.2, P4.3: what is put is got, wherever it stands and whatever stands around it; what is cut off is not.
func TestGetWhatWasPut(t *testing.T) {
	for _, l := range samples() {
		form := label.Put(l)
		for _, ahead := range []string{"", "z", "\x80\x80", "\x01\x01a\x01b"} {
			for _, behind := range []string{"", "z", "\xff\xff", "\x01c\x01d"} {
				got, next, ok := label.Get(ahead+form+behind, len(ahead))
				if !slices.Equal(got, l) || next != len(ahead)+len(form) || !ok {
					t.Errorf("Get of %q between %x and %x = %q, %d, %v", l, ahead, behind, got, next, ok)
				}
			}
			for cut := range len(form) {
				wantNoBytes(t, ahead+form[:cut], len(ahead))
			}
		}
	}
}

// P4.2: a place outside the text has no labels.
func TestGetPlaces(t *testing.T) {
	for _, s := range []string{"", "\x00", "\x01\x01a\x01b", "\x00\x00"} {
		for _, at := range []int{math.MinInt, -4, -1, len(s), len(s) + 1, 1 << 62, math.MaxInt} {
			wantNoBytes(t, s, at)
		}
	}
}

// P4.2: what would be put of what is not right is not got.
func TestGetOfWrongLabels(t *testing.T) {
	for _, l := range wrongs() {
		form := putByHand(l)
		wantNoBytes(t, form, 0)
		wantNoBytes(t, "z"+form+"z", 1)
	}
}

// P4.2: a count that is none, longer than need be, past the limit or past what stands behind it has no labels.
func TestGetWrongCounts(t *testing.T) {
	body := strings.Repeat("\x01a\x01b", 40)
	for _, count := range []string{
		"\x80", "\x80\x00", "\x81\x00", "\x82\x80\x00", "\x02", "\x08", "\x09", "\x0a", "\x7f", "\x80\x01", "\x81\x02", "\xff\x7f",
		strings.Repeat("\xff", 9) + "\x01", strings.Repeat("\x80", 9) + "\x01", "\x81" + strings.Repeat("\x80", 8) + "\x01",
		strings.Repeat("\xff", 9) + "\x02", strings.Repeat("\x80", 10) + "\x01", "\x81\x80\x80\x80\x10",
	} {
		wantNoBytes(t, count+body, 0)
		wantNoBytes(t, count, 0)
	}
	nine := putByHand(rising(api.MaxLabels + 1))
	wantNoBytes(t, nine, 0)
	for _, more := range []byte{0, 1, 7} {
		got, _, ok := label.Get(string(append([]byte{more}, nine[1:]...)), 0)
		if !slices.Equal(got, rising(int(more))) || !ok {
			t.Errorf("Get of the first %d of nine = %q, %v", more, got, ok)
		}
	}
}

// P4.2: a text whose length is none, longer than need be, or past the end makes all labels none, wherever it stands.
func TestGetWrongTexts(t *testing.T) {
	for _, bad := range []string{"\x80", "\x81\x00a", "\x00", "\x02a", "\x21" + strings.Repeat("a", 33), "\x40" + strings.Repeat("я", 32), "\x81\x80\x00a",
		strings.Repeat("\xff", 9) + "\x01a", strings.Repeat("\xff", 9) + "\x02a", "\x81" + strings.Repeat("\x80", 8) + "\x01a", "\x01A", "\x019", "\x01\xce"} {
		for at := range 4 {
			pieces := []string{"\x02", "\x01a", "\x01b", "\x01c", "\x01d"}
			pieces[at+1] = bad
			wantNoBytes(t, strings.Join(pieces, ""), 0)
			wantNoBytes(t, "z"+strings.Join(pieces[:at+2], ""), 1)
		}
	}
}

// getByHand looks for the right labels that s begins with by the library's numbers.
func getByHand(s string) (l []label.Pair, taken int, ok bool) {
	number := func() (uint64, bool) {
		u, size := binary.Uvarint([]byte(s[taken:]))
		if size <= 0 || size != len(binary.AppendUvarint(nil, u)) {
			return 0, false
		}
		taken += size
		return u, true
	}
	text := func() (string, bool) {
		size, ok := number()
		if !ok || size > uint64(len(s)-taken) {
			return "", false
		}
		taken += int(size)
		return s[taken-int(size) : taken], true
	}
	count, ok := number()
	for ; ok && count > 0 && len(l) <= api.MaxLabels; count-- {
		key, first := text()
		value, second := text()
		l, ok = append(l, label.Pair{Key: key, Value: value}), first && second
	}
	if !ok || count > 0 || !rightByHand(l) {
		return nil, 0, false
	}
	return l, taken, true
}

// P4.2: of each form with any one byte of it turned into any other one.
func TestGetTurnedBytes(t *testing.T) {
	for _, l := range samples() {
		form := []byte(label.Put(l))
		for at := range form {
			was := form[at]
			for b := range 256 {
				form[at] = byte(b)
				want, wantNext, wantOK := getByHand(string(form))
				got, next, ok := label.Get(string(form), 0)
				if !slices.Equal(got, want) || next != wantNext || ok != wantOK {
					t.Errorf("Get(%x, 0) = %q, %d, %v, want %q, %d, %v", form, got, next, ok, want, wantNext, wantOK)
				}
			}
			form[at] = was
		}
	}
}

// P4.2: the texts; `?` of what is not right.
func TestText(t *testing.T) {
	for _, c := range []struct {
		l    []label.Pair
		want string
	}{
		{nil, "-"},
		{[]label.Pair{}, "-"},
		{pairs("a", "b"), "a=b"},
		{pairs("disk", "ssd", "zone", "αβ"), "disk=ssd,zone=αβ"},
		{pairs("a-", "b-", "a0", "b0"), "a-=b-,a0=b0"},
		{rising(8), "ka=v,kb=v,kc=v,kd=v,ke=v,kf=v,kg=v,kh=v"},
	} {
		if got := label.Text(c.l); got != c.want {
			t.Errorf("Text(%q) = %s, want %s", c.l, got, c.want)
		}
	}
	for _, l := range wrongs() {
		if got := label.Text(l); got != "?" {
			t.Errorf("Text(%q) = %q, want ?", l, got)
		}
	}
}

// textByHand shows one pair or more as the chapter says, right or not.
func textByHand(l []label.Pair) string {
	var text strings.Builder
	for _, p := range l {
		text.WriteString("," + p.Key + "=" + p.Value)
	}
	return strings.TrimPrefix(text.String(), ",")
}

func wantNoText(t *testing.T, text string) {
	t.Helper()
	if l, ok := label.Parse(text); len(l) != 0 || ok {
		t.Errorf("Parse(%q) = %q, %v, want nothing", text, l, ok)
	}
}

// P4.2, P4.3: what is shown is parsed, and nothing that has a little more or less.
func TestParseWhatIsShown(t *testing.T) {
	for _, l := range samples() {
		text := label.Text(l)
		if len(l) > 0 && text != textByHand(l) {
			t.Errorf("Text(%q) = %s", l, text)
		}
		if got, ok := label.Parse(text); !slices.Equal(got, l) || !ok {
			t.Errorf("Parse(%s) = %q, %v", text, got, ok)
		}
		for _, around := range []string{" ", ",", "=", "\n", "\x00", "?", "\xff", "A"} {
			wantNoText(t, around+text)
			wantNoText(t, text+around)
		}
		for _, ahead := range []string{"-", "-,", "9", "zz=v,"} {
			if len(l) > 0 && l[0].Key < "zz" {
				wantNoText(t, ahead+text)
			}
		}
	}
}

// P4.2: wrong texts by hand; that of what is not right is the text of nothing that is.
func TestParseWrongTexts(t *testing.T) {
	for _, text := range []string{
		"", "?", "--", "-,", ",-", "-=-", "a", "a=", "=a", "=", "==", ",", ",,", "=,=", "a=b,", ",a=b", "a=b,,c=d", "a=b=c", "a==b", "a=b,c", "a,b=c", "a=b,-", "-,a=b",
		"b=a,a=a", "a=a,a=b", "a=a,a=a", "zone=a,disk=ssd", "a = b", "a=b, c=d", "a=b ,c=d", "A=b", "a=B", "a=b;c=d", "a:b", "a=1", "1=a", "a=-", "-=a", "a=?",
		"a=b,c=d,b=e", "α=a,z=a", "a\uff1db", "a=b\uff0cc=d", "a=b\n", "a=b\x00", "a=\xff", "a=\xce",
		strings.Repeat(",", 7), strings.Repeat(",", 8), strings.Repeat(",", 100000), strings.Repeat("=", 100000), strings.Repeat("a=b,", 100000), strings.Repeat("a", 100000),
		"a=" + strings.Repeat("b", api.MaxName+1), strings.Repeat("я", api.MaxName+1) + "=b",
	} {
		wantNoText(t, text)
	}
	for _, l := range wrongs() {
		wantNoText(t, textByHand(l))
	}
}

// parseByHand looks for right labels by going through the text byte by byte.
func parseByHand(text string) ([]label.Pair, bool) {
	if text == "-" {
		return nil, true
	}
	l, inValue := []label.Pair{{}}, false
	for i := range len(text) {
		last := &l[len(l)-1]
		switch {
		case text[i] == '=' && !inValue:
			inValue = true
		case text[i] == ',' && inValue:
			l, inValue = append(l, label.Pair{}), false
		case inValue:
			last.Value += text[i : i+1]
		default:
			last.Key += text[i : i+1]
		}
	}
	if !inValue || !rightByHand(l) {
		return nil, false
	}
	return l, true
}

// P4.2: of all short texts of the bytes that labels are shown with.
func TestParseOfAllShortTexts(t *testing.T) {
	runes := []string{"a", "b", "=", ",", "-", "α", "?"}
	var grow func(text string, left int)
	grow = func(text string, left int) {
		want, wantOK := parseByHand(text)
		if got, ok := label.Parse(text); !slices.Equal(got, want) || ok != wantOK {
			t.Errorf("Parse(%q) = %q, %v, want %q, %v", text, got, ok, want, wantOK)
		}
		for _, r := range runes {
			if left > 0 {
				grow(text+r, left-1)
			}
		}
	}
	grow("", 7)
}

// P4.3: of all short lists both forms tell the same again, if it is right, and no two share one.
func TestFormsOfAllLists(t *testing.T) {
	shown, put := map[string]bool{}, map[string]bool{}
	eachList([]string{"a", "a-", "b", "α", "bb"}, 3, func(l []label.Pair) {
		if !label.Right(l) {
			return
		}
		text, form := label.Text(l), label.Put(l)
		if shown[text] || put[form] {
			t.Errorf("%q has the form of another one: %s, %x", l, text, form)
		}
		shown[text], put[form] = true, true
		if got, ok := label.Parse(text); !slices.Equal(got, l) || !ok {
			t.Errorf("Parse(%s) = %q, %v", text, got, ok)
		}
		if got, next, ok := label.Get(form, 0); !slices.Equal(got, l) || next != len(form) || !ok {
			t.Errorf("Get(%x, 0) = %q, %d, %v", form, got, next, ok)
		}
	})
	if len(shown) < 100 || len(put) != len(shown) {
		t.Errorf("%d texts and %d forms", len(shown), len(put))
	}
}

// P4.3: what is put behind one another is got one by one.
func TestGetOneByOne(t *testing.T) {
	all := ""
	for _, l := range samples() {
		all += label.Put(l)
	}
	at := 0
	for _, l := range samples() {
		got, next, ok := label.Get(all, at)
		if !slices.Equal(got, l) || !ok {
			t.Fatalf("Get at %d = %q, %v, want %q", at, got, ok, l)
		}
		at = next
	}
	if at != len(all) {
		t.Errorf("%d bytes are left", len(all)-at)
	}
}

// P3: what is handed in, and what stands behind it, stays as it is.
func TestNothingIsWrittenInto(t *testing.T) {
	for _, l := range append(samples(), wrongs()...) {
		room := append(slices.Clone(l), pairs("behind", "it", "a", "a")...)
		was := slices.Clone(room)
		handed := room[:len(l)]
		label.Right(handed)
		label.Put(handed)
		label.Text(handed)
		label.Find(handed, "a")
		if !slices.Equal(room, was) {
			t.Errorf("%q became %q", was, room)
		}
	}
}

// P3: two answers share no memory.
func TestAnswersAreNew(t *testing.T) {
	l := pairs("a", "b", "c", "d")
	form, text := label.Put(l), label.Text(l)
	got, _, _ := label.Get(form, 0)
	parsed, _ := label.Parse(text)
	got[0].Key, parsed[0].Value = "x", "x"
	if again, _, ok := label.Get(form, 0); !slices.Equal(again, l) || !ok {
		t.Errorf("Get again = %q, %v", again, ok)
	}
	if again, ok := label.Parse(text); !slices.Equal(again, l) || !ok {
		t.Errorf("Parse again = %q, %v", again, ok)
	}
}

// P1 to P6: at any argument a call ends, and tells either the form that stands there or nothing.
func FuzzForms(f *testing.F) {
	f.Add("", 0)
	f.Add("z\x01\x01a\x01b", 1)
	f.Add("\x02\x01b\x01a\x01a\x01a", 0)
	f.Add("disk=ssd,zone=αβ", math.MinInt)
	f.Add("zone=a,disk=ssd", math.MaxInt)
	f.Fuzz(func(t *testing.T, s string, at int) {
		l, next, ok := label.Get(s, at)
		if ok && s[at:next] != label.Put(l) || !ok && (len(l) != 0 || next != 0) {
			t.Errorf("Get(%x, %d) = %q, %d, %v", s, at, l, next, ok)
		}
		l, ok = label.Parse(s)
		if ok && s != label.Text(l) || !ok && len(l) != 0 {
			t.Errorf("Parse(%q) = %q, %v", s, l, ok)
		}
	})
}
