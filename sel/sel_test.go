package sel_test

import (
	"bytes"
	"encoding/binary"
	"math"
	"slices"
	"strings"
	"testing"

	"demesne/api"
	"demesne/label"
	"demesne/sel"
	"demesne/word"
)

// has, hasNot are Terms of a key and these values.
func has(key string, values ...string) sel.Term {
	return sel.Term{Key: key, Values: values}
}

func hasNot(key string, values ...string) sel.Term {
	return sel.Term{Key: key, Not: true, Values: values}
}

func terms(l ...sel.Term) []sel.Term { return l }

// sameByHand holds two selectors against each other byte by byte.
func sameByHand(a, b []sel.Term) bool {
	return bytes.Equal([]byte(putByHand(a)), []byte(putByHand(b)))
}

// clone is a copy of l that shares no memory with it.
func clone(l []sel.Term) []sel.Term {
	copied := slices.Clone(l)
	for i := range copied {
		copied[i].Values = slices.Clone(copied[i].Values)
	}
	return copied
}

// rising tells n names that rise.
func rising(n int) []string {
	var names []string
	for i := range n {
		names = append(names, "v"+string(rune('a'+i)))
	}
	return names
}

// samples are right selectors, with the edges of names and counts, and values that rise just so.
func samples() [][]sel.Term {
	long, longest := strings.Repeat("α", api.MaxName-1), strings.Repeat("α", api.MaxName)
	all := [][]sel.Term{
		nil,
		{},
		terms(has("zone")),
		terms(hasNot("zone")),
		terms(has("zone", "a")),
		terms(hasNot("zone", "a", "b")),
		terms(sel.Term{Key: "zone", Values: []string{}}),
		terms(has("a", "b"), hasNot("c")),
		terms(has("zone"), hasNot("zone")),
		terms(has("zone", "a"), has("zone", "a"), has("zone", "a"), has("zone", "a")),
		terms(has("z"), has("a"), hasNot("m", "n"), has("b", "c", "d")),
		terms(has("k", "a", "a-", "a0", "aa"), has("k", "z", "α", "ω", "а"), has("k", "zzzz", "α"), hasNot("я", "ab", "abc")),
		terms(has("same", "same"), hasNot("same", "same")),
		terms(has(strings.Repeat("a", api.MaxName), strings.Repeat("я", api.MaxName)), hasNot(longest), hasNot(longest, long, longest)),
	}
	for n := range api.MaxTerms + 1 {
		for m := range api.MaxValues + 1 {
			all = append(all, slices.Repeat(terms(has("k", rising(m)...)), n), slices.Repeat(terms(hasNot("k", rising(m)...)), n))
		}
	}
	return all
}

// noNames are texts that are no names.
var noNames = []string{
	"", " ", "A", "0", "9a", "-", "-a", "a b", "a ", " a", "a=", "=", "a=b", "a,", ",", "a,b", "|", "a|", "a|b", "!", "!a", "a!", "?", "a/b", "aB", "a\x00", "é", "a\xff", "\xce", "\xc1\xa1", "€",
	strings.Repeat("a", api.MaxName+1), strings.Repeat("я", api.MaxName+1), strings.Repeat("a", 2*api.MaxName), strings.Repeat("a", 1000),
}

// wrongTerms are Terms that make any selector wrong.
func wrongTerms() []sel.Term {
	all := []sel.Term{
		{},
		{Not: true},
		{Values: []string{"a"}},
		has("k", "b", "a"),
		has("k", "a", "a"),
		has("k", "a", "b", "a"),
		has("k", "a", "b", "b"),
		has("k", "a", "c", "b"),
		has("k", "b", "a", "c"),
		has("k", "abc", "ab"),
		has("k", "a0", "a-"),
		has("k", "α", "z"),
		has("k", "α", "zzzz"),
		has("k", "а", "ω"),
		has("k", rising(api.MaxValues+1)...),
		has("k", rising(2*api.MaxValues)...),
		has("k", slices.Repeat([]string{"v"}, 1000)...),
	}
	for _, bad := range noNames {
		all = append(all, has(bad), has(bad, "a"), has("k", bad), has(bad, bad))
		for at := range 3 {
			values := rising(3)
			values[at] = bad
			all = append(all, has("k", values...))
		}
	}
	for _, t := range slices.Clone(all) {
		t.Not = !t.Not
		all = append(all, t)
	}
	return all
}

// wrongs are selectors that are not right.
func wrongs() [][]sel.Term {
	all := [][]sel.Term{
		slices.Repeat(terms(has("k")), api.MaxTerms+1),
		slices.Repeat(terms(hasNot("k", "v")), 2*api.MaxTerms),
		slices.Repeat(terms(has("k", "v")), 1000),
	}
	for _, t := range wrongTerms() {
		all = append(all, terms(t), terms(t, has("a")), terms(has("a"), t), terms(has("a"), t, hasNot("b", "c")), terms(has("a"), has("a"), has("a"), t))
	}
	return all
}

// rightByHand asks of each Term, and of each two Values, what the chapter asks.
func rightByHand(l []sel.Term) bool {
	if len(l) > api.MaxTerms {
		return false
	}
	for _, t := range l {
		if !word.Right(t.Key) || len(t.Values) > api.MaxValues {
			return false
		}
		for i, value := range t.Values {
			if !word.Right(value) {
				return false
			}
			for _, later := range t.Values[i+1:] {
				if bytes.Compare([]byte(value), []byte(later)) >= 0 {
					return false
				}
			}
		}
	}
	return true
}

// eachTerm hands in every Term of these texts with up to most Values.
func eachTerm(texts []string, most int, do func(t sel.Term)) {
	var grow func(key string, values []string)
	grow = func(key string, values []string) {
		do(has(key, values...))
		do(hasNot(key, values...))
		for _, value := range texts {
			if len(values) < most {
				grow(key, append(slices.Clip(values), value))
			}
		}
	}
	for _, key := range texts {
		grow(key, nil)
	}
}

// allTerms are those that eachTerm hands in.
func allTerms(texts []string, most int) []sel.Term {
	var all []sel.Term
	eachTerm(texts, most, func(t sel.Term) { all = append(all, t) })
	return all
}

// eachList hands in every selector of up to two of these Terms.
func eachList(all []sel.Term, do func(l []sel.Term)) {
	do(nil)
	for _, a := range all {
		do(terms(a))
		for _, b := range all {
			do(terms(a, b))
		}
	}
}

// P5.1: ordinary selectors, the edges, and what is not right.
func TestRight(t *testing.T) {
	for _, l := range samples() {
		if !sel.Right(l) {
			t.Errorf("Right(%#v) = false", l)
		}
	}
	for _, l := range wrongs() {
		if sel.Right(l) {
			t.Errorf("Right(%#v) = true", l)
		}
	}
}

// P5.1: of all Terms of a few texts that are names, and that are none, in every order.
func TestRightOfAllTerms(t *testing.T) {
	eachTerm([]string{"a", "a-", "b", "α", "A"}, api.MaxValues+1, func(one sel.Term) {
		if got, want := sel.Right(terms(one)), rightByHand(terms(one)); got != want {
			t.Errorf("Right(%#v) = %v", one, got)
		}
	})
	eachList(allTerms([]string{"b", "a", "A"}, 2), func(l []sel.Term) {
		if got, want := sel.Right(l), rightByHand(l); got != want {
			t.Errorf("Right(%#v) = %v", l, got)
		}
	})
}

// P5.1: two Values that change places, or are the same, are not right, wherever they stand.
func TestRightOrder(t *testing.T) {
	for i := range api.MaxValues {
		for j := range i {
			swapped, twice := rising(api.MaxValues), rising(api.MaxValues)
			swapped[i], swapped[j] = swapped[j], swapped[i]
			twice[i] = twice[j]
			for _, values := range [][]string{swapped, twice} {
				if sel.Right(terms(has("k", values...))) || sel.Right(terms(has("k"), hasNot("k", values...))) {
					t.Errorf("right with the Values %#v", values)
				}
			}
		}
	}
}

// P5.1: as many as MaxTerms, with as many as MaxValues each, are right; one more of either is not.
func TestRightCounts(t *testing.T) {
	for n := range 2 * api.MaxTerms {
		for m := range 2 * api.MaxValues {
			l := slices.Repeat(terms(has("k")), n)
			if n > 0 {
				l[n-1] = hasNot("k", rising(m)...)
			}
			want := n <= api.MaxTerms && (n == 0 || m <= api.MaxValues)
			if got := sel.Right(l); got != want {
				t.Errorf("Right(%#v) = %v", l, got)
			}
		}
	}
}

// P5.1: selectors are the same just if all their fields are, right or not; a list of nothing may be nil or empty.
func TestSame(t *testing.T) {
	all := append(samples(), wrongs()[:60]...)
	for _, a := range all {
		if !sel.Same(a, clone(a)) {
			t.Errorf("Same(%#v) of itself = false", a)
		}
		for _, b := range all {
			if got, want := sel.Same(a, b), sameByHand(a, b); got != want {
				t.Errorf("Same(%#v, %#v) = %v", a, b, got)
			}
		}
	}
	for _, c := range []struct {
		a, b []sel.Term
		want bool
	}{
		{nil, []sel.Term{}, true},
		{terms(sel.Term{Key: "a"}), terms(sel.Term{Key: "a", Values: []string{}}), true},
		{terms(has("a")), nil, false},
		{nil, terms(sel.Term{}), false},
		{terms(has("a")), terms(has("b")), false},
		{terms(has("a")), terms(has("A")), false},
		{terms(has("a")), terms(hasNot("a")), false},
		{terms(has("a")), terms(has("a", "")), false},
		{terms(has("a")), terms(has("a"), has("a")), false},
		{terms(has("a"), has("b")), terms(has("b"), has("a")), false},
		{terms(has("a", "b", "c")), terms(has("a", "c", "b")), false},
		{terms(has("a", "b", "c")), terms(has("a", "b")), false},
		{terms(has("a", "bc")), terms(has("a", "b", "c")), false},
		{terms(has("a", "b"), has("c")), terms(has("a"), has("c", "b")), false},
		{terms(has("\xff", "\xfe", "")), terms(has("\xff", "\xfe", "")), true},
		{terms(has("\xff")), terms(has("\xfe")), false},
	} {
		if sel.Same(c.a, c.b) != c.want || sel.Same(c.b, c.a) != c.want {
			t.Errorf("Same of %#v and %#v: want %v", c.a, c.b, c.want)
		}
	}
}

// P5.1: of all short selectors of a few texts.
func TestSameOfAllTerms(t *testing.T) {
	all := allTerms([]string{"a", "b", ""}, 2)
	for i, a := range all {
		for j, b := range all {
			if sel.Same(terms(a), terms(b)) != (i == j) || sel.Same(terms(a, b), terms(b, a)) != (i == j) {
				t.Errorf("Same of %#v and %#v", a, b)
			}
		}
	}
}

// pairs are labels that are written key, value by turns.
func pairs(texts ...string) []label.Pair {
	var l []label.Pair
	for i := 0; i+1 < len(texts); i += 2 {
		l = append(l, label.Pair{Key: texts[i], Value: texts[i+1]})
	}
	return l
}

// P5.2: ordinary selectors, and those that are not right, of which Match tells all the same.
func TestMatch(t *testing.T) {
	for _, c := range []struct {
		l      []sel.Term
		labels []label.Pair
		want   bool
	}{
		{terms(hasNot("zone", "a", "b")), pairs("zone", "c"), true}, // the chapter's example
		{nil, nil, true},
		{nil, pairs("zone", "a"), true},
		{terms(has("zone")), pairs("zone", "a"), true},
		{terms(has("zone")), pairs("disk", "zone"), false},
		{terms(has("zone")), nil, false},
		{terms(hasNot("zone")), pairs("zone", "a"), false},
		{terms(hasNot("zone")), pairs("disk", "a"), true},
		{terms(hasNot("zone")), nil, true},
		{terms(has("zone", "a")), pairs("zone", "a"), true},
		{terms(has("zone", "a")), pairs("zone", "b"), false},
		{terms(has("zone", "a")), pairs("disk", "a"), false},
		{terms(has("zone", "a")), nil, false},
		{terms(has("zone", "a", "b", "c", "d")), pairs("zone", "a"), true},
		{terms(has("zone", "a", "b", "c", "d")), pairs("zone", "d"), true},
		{terms(has("zone", "a", "b", "c", "d")), pairs("zone", "e"), false},
		{terms(has("zone", "ab")), pairs("zone", "a"), false},
		{terms(has("zone", "a")), pairs("zone", "ab"), false},
		{terms(hasNot("zone", "a")), pairs("zone", "a"), false},
		{terms(hasNot("zone", "a")), pairs("zone", "b"), true},
		{terms(hasNot("zone", "a")), nil, true},
		{terms(hasNot("zone", "a", "b")), pairs("zone", "b"), false},
		{terms(has("disk"), has("zone", "a")), pairs("disk", "x", "zone", "a"), true},
		{terms(has("disk"), has("zone", "a")), pairs("zone", "a"), false},
		{terms(has("disk"), has("zone", "a")), pairs("disk", "x", "zone", "b"), false},
		{terms(has("zone"), hasNot("zone")), pairs("zone", "a"), false},
		{terms(has("zone"), hasNot("zone")), nil, false},
		{terms(has("zone", "a"), has("zone", "b")), pairs("zone", "a"), false},
		{terms(has("zone", "a", "b"), has("zone", "b", "c")), pairs("zone", "b"), true},
		{terms(has("a"), has("b"), has("c"), hasNot("d")), pairs("a", "x", "b", "x", "c", "x"), true},
		{terms(has("a"), has("b"), has("c"), hasNot("d")), pairs("a", "x", "b", "x", "c", "x", "d", "x"), false},
		// What is not right: the first label of a key counts, whatever the texts are.
		{terms(has("a", "2")), pairs("a", "1", "a", "2"), false},
		{terms(has("a", "1")), pairs("b", "2", "a", "1", "a", "2"), true},
		{terms(hasNot("a", "2")), pairs("a", "1", "a", "2"), true},
		{terms(has("", "")), nil, false},
		{terms(has("", "")), pairs("", ""), true},
		{terms(has("a", "")), pairs("b", "b"), false},
		{terms(hasNot("a", "")), pairs("b", "b"), true},
		{terms(has("a", "b", "a")), pairs("a", "a"), true},
		{terms(has("\xff", "\xfe")), pairs("\xff", "\xfe"), true},
		{slices.Repeat(terms(has("a")), 1000), pairs("a", "b"), true},
		{append(slices.Repeat(terms(has("a")), 1000), hasNot("a")), pairs("a", "b"), false},
		{terms(has("a", rising(25)...)), pairs("a", "vy"), true},
		{terms(has("a", rising(25)...)), pairs("a", "vz"), false},
	} {
		if got := sel.Match(c.l, c.labels); got != c.want {
			t.Errorf("Match(%#v, %#v) = %v", c.l, c.labels, got)
		}
	}
}

// holdsByHand asks of one Term what the chapter asks.
func holdsByHand(t sel.Term, labels []label.Pair) bool {
	for _, p := range labels {
		if p.Key != t.Key {
			continue
		}
		in := len(t.Values) == 0
		for _, value := range t.Values {
			in = in || value == p.Value
		}
		return in && !t.Not || !in && t.Not
	}
	return t.Not
}

// someLabels are all lists of up to two labels of a few texts, right or not.
func someLabels() [][]label.Pair {
	texts := []string{"a", "b", ""}
	all := [][]label.Pair{nil}
	for n := range 2 {
		for _, l := range all {
			for _, key := range texts {
				for _, value := range texts {
					if len(l) == n {
						all = append(all, append(slices.Clone(l), label.Pair{Key: key, Value: value}))
					}
				}
			}
		}
	}
	return all
}

// P5.2, P5.5: of all short selectors and labels each Term must hold; one with Not turned holds just where it did not.
func TestMatchOfAll(t *testing.T) {
	all := allTerms([]string{"a", "b", ""}, 2)
	for _, labels := range someLabels() {
		for _, one := range all {
			if got, want := sel.Match(terms(one), labels), holdsByHand(one, labels); got != want {
				t.Errorf("Match(%#v, %#v) = %v", one, labels, got)
			}
			turned := one
			turned.Not = !turned.Not
			if sel.Match(terms(one), labels) == sel.Match(terms(turned), labels) {
				t.Errorf("%#v holds of %#v with Not turned, too, or neither does", one, labels)
			}
		}
		eachList(all, func(l []sel.Term) {
			want := true
			for _, one := range l {
				want = want && holdsByHand(one, labels)
			}
			if got := sel.Match(l, labels); got != want {
				t.Errorf("Match(%#v, %#v) = %v", l, labels, got)
			}
		})
	}
}

// putByHand puts the Terms as the chapter says, right or not.
func putByHand(l []sel.Term) string {
	form := binary.AppendUvarint(nil, uint64(len(l)))
	text := func(s string) { form = append(binary.AppendUvarint(form, uint64(len(s))), s...) }
	for _, t := range l {
		text(t.Key)
		shape := uint64(len(t.Values)) << 1
		if t.Not {
			shape |= 1
		}
		form = binary.AppendUvarint(form, shape)
		for _, value := range t.Values {
			text(value)
		}
	}
	return string(form)
}

// P5.3: the forms as bytes; none of what is not right.
func TestPut(t *testing.T) {
	for _, c := range []struct {
		l    []sel.Term
		want string
	}{
		{nil, "\x00"},
		{terms(has("zone")), "\x01\x04zone\x00"},
		{terms(hasNot("zone")), "\x01\x04zone\x01"},
		{terms(has("zone", "a")), "\x01\x04zone\x02\x01a"},
		{terms(hasNot("zone", "a", "b")), "\x01\x04zone\x05\x01a\x01b"},
		{terms(has("a", "b"), hasNot("c")), "\x02\x01a\x02\x01b\x01c\x01"},
		{terms(hasNot("k", "a", "b", "c", "d")), "\x01\x01k\x09\x01a\x01b\x01c\x01d"},
		{terms(has("k", strings.Repeat("я", 16))), "\x01\x01k\x02\x20" + strings.Repeat("я", 16)},
	} {
		if got := sel.Put(c.l); got != c.want {
			t.Errorf("Put(%#v) = %x, want %x", c.l, got, c.want)
		}
	}
	for _, l := range samples() {
		if got, want := sel.Put(l), putByHand(l); got != want {
			t.Errorf("Put(%#v) = %x, want %x", l, got, want)
		}
	}
	for _, l := range wrongs() {
		if got := sel.Put(l); got != "" {
			t.Errorf("Put(%#v) = %x, want nothing", l, got)
		}
	}
}

func wantNoBytes(t *testing.T, s string, at int) {
	t.Helper()
	if l, next, ok := sel.Get(s, at); len(l) != 0 || next != 0 || ok {
		t.Errorf("Get(%x, %d) = %#v, %d, %v, want nothing", s, at, l, next, ok)
	}
}

// P5.3, P5.5: what is put is got, wherever it stands and whatever stands around it; what is cut off is not.
func TestGetWhatWasPut(t *testing.T) {
	for _, l := range samples() {
		form := sel.Put(l)
		for _, ahead := range []string{"", "z", "\x80\x80", "\x01\x01a\x00"} {
			for _, behind := range []string{"", "z", "\xff\xff", "\x01c\x00"} {
				got, next, ok := sel.Get(ahead+form+behind, len(ahead))
				if !sameByHand(got, l) || next != len(ahead)+len(form) || !ok {
					t.Errorf("Get of %#v between %x and %x = %#v, %d, %v", l, ahead, behind, got, next, ok)
				}
			}
			for cut := range len(form) {
				wantNoBytes(t, ahead+form[:cut], len(ahead))
			}
		}
	}
}

// P5.3: a place outside the text has no selector.
func TestGetPlaces(t *testing.T) {
	for _, s := range []string{"", "\x00", "\x01\x01a\x00", "\x00\x00"} {
		for _, at := range []int{math.MinInt, -4, -1, len(s), len(s) + 1, 1 << 62, math.MaxInt} {
			wantNoBytes(t, s, at)
		}
	}
}

// P5.3: what would be put of what is not right is not got.
func TestGetOfWrongSelectors(t *testing.T) {
	for _, l := range wrongs() {
		form := putByHand(l)
		wantNoBytes(t, form, 0)
		wantNoBytes(t, "z"+form+"z", 1)
	}
}

// wrongNumbers are numbers that no form has: none, longer than need be, past what stands behind them, or past every limit.
var wrongNumbers = []string{
	"\x80", "\x80\x00", "\x81\x00", "\x82\x80\x00", "\x0a", "\x0b", "\x7f", "\x80\x01", "\x81\x02", "\xff\x7f",
	strings.Repeat("\xff", 9) + "\x01", strings.Repeat("\x80", 9) + "\x01", "\x81" + strings.Repeat("\x80", 8) + "\x01",
	strings.Repeat("\xff", 9) + "\x02", strings.Repeat("\x80", 10) + "\x01", "\x81\x80\x80\x80\x10", "\x82\x80\x80\x80\x10",
}

// P5.3: a wrong count of Terms, or number of Values, makes all of it none.
func TestGetWrongNumbers(t *testing.T) {
	values := "\x01a\x01b\x01c\x01d\x01e\x01f\x01g\x01h\x01i\x01j"
	for _, bad := range wrongNumbers {
		wantNoBytes(t, bad, 0)
		wantNoBytes(t, bad+strings.Repeat("\x01a\x00", 40), 0)
		wantNoBytes(t, "\x01\x01k"+bad, 0)
		wantNoBytes(t, "\x01\x01k"+bad+values, 0)
		wantNoBytes(t, "\x02\x01a\x00\x01k"+bad+values, 0)
		wantNoBytes(t, "\x02\x01k"+bad+values+"\x01a\x00", 0)
	}
	five := strings.Repeat("\x01a\x00", 5)
	for count := range 256 {
		got, next, ok := sel.Get(string([]byte{byte(count)})+five, 0)
		want := count <= api.MaxTerms
		if ok != want || want && (next != 1+3*count || !sameByHand(got, slices.Repeat(terms(has("a")), count))) {
			t.Errorf("Get of %d Terms = %#v, %d, %v", count, got, next, ok)
		}
	}
	for shape := range 256 {
		got, next, ok := sel.Get("\x01\x01k"+string([]byte{byte(shape)})+values, 0)
		want := shape/2 <= api.MaxValues
		wanted := sel.Term{Key: "k", Not: shape%2 == 1}
		for i := range min(shape/2, api.MaxValues) {
			wanted.Values = append(wanted.Values, string(rune('a'+i)))
		}
		if ok != want || want && (next != 4+shape/2*2 || !sameByHand(got, terms(wanted))) {
			t.Errorf("Get of the number %d of Values = %#v, %d, %v", shape, got, next, ok)
		}
	}
}

// P5.3: a text whose length is none, longer than need be, or past the end makes all of it none, wherever it stands.
func TestGetWrongTexts(t *testing.T) {
	for _, bad := range []string{"\x80", "\x81\x00a", "\x00", "\x02a", "\x21" + strings.Repeat("a", 33), "\x40" + strings.Repeat("я", 32), "\x81\x80\x00a",
		strings.Repeat("\xff", 9) + "\x01a", strings.Repeat("\xff", 9) + "\x02a", "\x81" + strings.Repeat("\x80", 8) + "\x01a", "\x01A", "\x019", "\x01\xce"} {
		for _, at := range []int{1, 3, 5, 6} {
			pieces := []string{"\x02", "\x01a", "\x00", "\x01b", "\x04", "\x01c", "\x01d"}
			pieces[at] = bad
			wantNoBytes(t, strings.Join(pieces, ""), 0)
			wantNoBytes(t, "z"+strings.Join(pieces[:at+1], ""), 1)
		}
	}
}

// getByHand looks for the right selector that s begins with by the library's numbers.
func getByHand(s string) (l []sel.Term, taken int, ok bool) {
	ok = true
	number := func() uint64 {
		u, size := binary.Uvarint([]byte(s[taken:]))
		if size <= 0 || size != len(binary.AppendUvarint(nil, u)) {
			ok = false
			return 0
		}
		taken += size
		return u
	}
	text := func() string {
		size := number()
		if !ok || size > uint64(len(s)-taken) {
			ok = false
			return ""
		}
		taken += int(size)
		return s[taken-int(size) : taken]
	}
	for count := number(); ok && count > 0; count-- {
		t := sel.Term{Key: text()}
		shape := number()
		t.Not = shape&1 == 1
		for left := shape >> 1; ok && left > 0; left-- {
			t.Values = append(t.Values, text())
		}
		l = append(l, t)
	}
	if !ok || !rightByHand(l) {
		return nil, 0, false
	}
	return l, taken, true
}

// P5.3: of each form with any one byte of it turned into any other one.
func TestGetTurnedBytes(t *testing.T) {
	for _, l := range samples() {
		form := []byte(sel.Put(l))
		for at := range form {
			was := form[at]
			for b := range 256 {
				form[at] = byte(b)
				want, wantNext, wantOK := getByHand(string(form))
				got, next, ok := sel.Get(string(form), 0)
				if !sameByHand(got, want) || next != wantNext || ok != wantOK {
					t.Errorf("Get(%x, 0) = %#v, %d, %v, want %#v, %d, %v", form, got, next, ok, want, wantNext, wantOK)
				}
			}
			form[at] = was
		}
	}
}

// P5.3: of all short texts of the bytes that forms are made of.
func TestGetOfAllShortTexts(t *testing.T) {
	eachText([]string{"\x00", "\x01", "\x02", "\x05", "a", "b", "\x80"}, 6, func(s string) {
		want, wantNext, wantOK := getByHand(s)
		if got, next, ok := sel.Get(s, 0); !sameByHand(got, want) || next != wantNext || ok != wantOK {
			t.Errorf("Get(%x, 0) = %#v, %d, %v, want %#v, %d, %v", s, got, next, ok, want, wantNext, wantOK)
		}
	})
}

// eachText hands in every text of up to most of these pieces.
func eachText(pieces []string, most int, do func(text string)) {
	var grow func(text string, left int)
	grow = func(text string, left int) {
		do(text)
		for _, piece := range pieces {
			if left > 0 {
				grow(text+piece, left-1)
			}
		}
	}
	grow("", most)
}

// P5.4: the texts; `?` of what is not right.
func TestText(t *testing.T) {
	for _, c := range []struct {
		l    []sel.Term
		want string
	}{
		{nil, "-"},
		{[]sel.Term{}, "-"},
		{terms(has("zone")), "zone"},
		{terms(hasNot("zone")), "!zone"},
		{terms(has("zone", "a")), "zone=a"},
		{terms(hasNot("zone", "a")), "zone!=a"},
		{terms(hasNot("zone", "a", "b")), "zone!=a|b"},
		{terms(has("a", "b"), hasNot("c")), "a=b,!c"},
		{terms(hasNot("c"), has("a-", "b-", "b0")), "!c,a-=b-|b0"},
		{terms(has("d"), has("c"), hasNot("b"), has("a", "αβ", "дом")), "d,c,!b,a=αβ|дом"},
		{terms(sel.Term{Key: "a", Values: []string{}}, sel.Term{Key: "a", Not: true, Values: []string{}}), "a,!a"},
	} {
		if got := sel.Text(c.l); got != c.want {
			t.Errorf("Text(%#v) = %s, want %s", c.l, got, c.want)
		}
	}
	for _, l := range samples() {
		if got := sel.Text(l); got != textByHand(l) {
			t.Errorf("Text(%#v) = %s", l, got)
		}
	}
	for _, l := range wrongs() {
		if got := sel.Text(l); got != "?" {
			t.Errorf("Text(%#v) = %#v, want ?", l, got)
		}
	}
}

// textByHand shows the Terms as the chapter says, right or not.
func textByHand(l []sel.Term) string {
	if len(l) == 0 {
		return "-"
	}
	var text strings.Builder
	for i, t := range l {
		if i > 0 {
			text.WriteString(",")
		}
		if len(t.Values) == 0 && t.Not {
			text.WriteString("!")
		}
		text.WriteString(t.Key)
		for j, value := range t.Values {
			switch {
			case j > 0:
				text.WriteString("|")
			case t.Not:
				text.WriteString("!=")
			default:
				text.WriteString("=")
			}
			text.WriteString(value)
		}
	}
	return text.String()
}

func wantNoText(t *testing.T, text string) {
	t.Helper()
	if l, ok := sel.Parse(text); len(l) != 0 || ok {
		t.Errorf("Parse(%#v) = %#v, %v, want nothing", text, l, ok)
	}
}

// P5.4, P5.5: what is shown is parsed, and nothing that has a little more.
func TestParseWhatIsShown(t *testing.T) {
	for _, l := range samples() {
		text := sel.Text(l)
		if got, ok := sel.Parse(text); !sameByHand(got, l) || !ok {
			t.Errorf("Parse(%s) = %#v, %v", text, got, ok)
		}
		for _, around := range []string{" ", ",", "=", "|", "!=", "\n", "\x00", "?", "\xff", "A"} {
			wantNoText(t, around+text)
			wantNoText(t, text+around)
		}
		wantNoText(t, text+"!")
		for _, ahead := range []string{"-", "-,", "9", "!!", "a,b,c,d,"} {
			wantNoText(t, ahead+text)
		}
	}
}

// P5.4: wrong texts by hand; that of what is not right is the text of nothing, or of another one that is right.
func TestParseWrongTexts(t *testing.T) {
	for _, text := range []string{
		"", "?", "--", "-,", ",-", "!-", "-=-", "a,-", "-,a", "!", "!!", "!!a", "a!", "!a!", "a=", "a!=", "=a", "!=a", "=", "!=", "==", "a==b", "a!!=b", "!a=b", "!a!=b", "a=!b", "a=b!", "a=b!=c", "a!=b=c", "a=b=c", "a! =b",
		"|", "a|b", "a|", "|a", "a=|", "a=b|", "a=|b", "a=b||c", "a=b|a", "a=a|a", "a=b|c=d", "a=b|!c", "a=b|c|b",
		",", ",,", "a,", ",a", "a,,b", "a=b,", ",a=b", "a=b,,c", "a,b,c,d,e", "a,b,c,d,", ",a,b,c,d", "a=a|b|c|d|e", "a!=a|b|c|d|e", "a=a|b|c|d|", "a=b,c=a|b|c|d|e",
		"A", "a=B", "a b", "a = b", "a=b, c", "a=b ,c", "a,b;c", "a:b", "a=1", "1=a", "1", "a=-", "-=a", "a=?", "a\uff1db", "a\uff0cb", "\uff01a", "a=b\n", "a\x00", "a=\xff", "a=\xce", "\xff",
		"a=α|z", "a=а|ω", "a=ab|a", "a=a0|a-",
		strings.Repeat(",", 3), strings.Repeat(",", 4), strings.Repeat(",", 100000), strings.Repeat("=", 100000), strings.Repeat("!", 100000), strings.Repeat("|", 100000),
		strings.Repeat("a,", 100000), "a=" + strings.Repeat("b|", 100000), strings.Repeat("a", 100000),
		"a=" + strings.Repeat("b", api.MaxName+1), strings.Repeat("я", api.MaxName+1) + "=b", "!" + strings.Repeat("a", api.MaxName+1),
	} {
		wantNoText(t, text)
	}
	for _, l := range wrongs() {
		text := textByHand(l)
		want, wantOK := parseByHand(text)
		if got, ok := sel.Parse(text); !sameByHand(got, want) || ok != wantOK {
			t.Errorf("Parse(%#v), of %#v, = %#v, %v", text, l, got, ok)
		}
	}
}

// parseByHand looks for a right selector by going through the text byte by byte.
func parseByHand(text string) ([]sel.Term, bool) {
	if text == "-" {
		return nil, true
	}
	l := []sel.Term{{}}
	valued, hung := false, false
	for i := range len(text) {
		last := &l[len(l)-1]
		c := text[i : i+1]
		switch {
		case hung && c != "=":
			return nil, false
		case c == ",":
			l, valued = append(l, sel.Term{}), false
		case c == "=" && !valued && (hung || !last.Not):
			last.Values, valued, hung = []string{""}, true, false
		case c == "!" && !valued && !last.Not:
			last.Not, hung = true, last.Key != ""
		case c == "|" && valued:
			last.Values = append(last.Values, "")
		case valued:
			last.Values[len(last.Values)-1] += c
		default:
			last.Key += c
		}
	}
	if hung || !rightByHand(l) {
		return nil, false
	}
	return l, true
}

// P5.4: of all short texts of the runes that selectors are shown with.
func TestParseOfAllShortTexts(t *testing.T) {
	right := 0
	eachText([]string{"a", "b", "=", ",", "!", "|", "-", "α"}, 7, func(text string) {
		want, wantOK := parseByHand(text)
		got, ok := sel.Parse(text)
		if !sameByHand(got, want) || ok != wantOK {
			t.Errorf("Parse(%#v) = %#v, %v, want %#v, %v", text, got, ok, want, wantOK)
		}
		if ok {
			right++
		}
		if ok && sel.Text(got) != text {
			t.Errorf("Text of Parse(%#v) = %#v", text, sel.Text(got))
		}
	})
	if right < 1000 {
		t.Errorf("only %d texts were right", right)
	}
}

// P5.5: of all short selectors both forms tell the same again, if it is right, and no two share one.
func TestFormsOfAllLists(t *testing.T) {
	shown, put := map[string]bool{}, map[string]bool{}
	eachList(allTerms([]string{"a", "a-", "b", "α"}, 3), func(l []sel.Term) {
		if !sel.Right(l) {
			return
		}
		text, form := sel.Text(l), sel.Put(l)
		if shown[text] || put[form] {
			t.Errorf("%#v has the form of another one: %s, %x", l, text, form)
		}
		shown[text], put[form] = true, true
		if got, ok := sel.Parse(text); !sameByHand(got, l) || !ok {
			t.Errorf("Parse(%s) = %#v, %v", text, got, ok)
		}
		if got, next, ok := sel.Get(form, 0); !sameByHand(got, l) || next != len(form) || !ok {
			t.Errorf("Get(%x, 0) = %#v, %d, %v", form, got, next, ok)
		}
	})
	if len(shown) < 10000 || len(put) != len(shown) {
		t.Errorf("%d texts and %d forms", len(shown), len(put))
	}
}

// P5.5: what is put behind one another is got one by one.
func TestGetOneByOne(t *testing.T) {
	all := ""
	for _, l := range samples() {
		all += sel.Put(l)
	}
	at := 0
	for _, l := range samples() {
		got, next, ok := sel.Get(all, at)
		if !sameByHand(got, l) || !ok {
			t.Fatalf("Get at %d = %#v, %v, want %#v", at, got, ok, l)
		}
		at = next
	}
	if at != len(all) {
		t.Errorf("%d bytes are left", len(all)-at)
	}
}

// withRoom is l with a Term behind it, and two Values behind those of each; and the same memory without these Values.
func withRoom(l []sel.Term) (room, handed []sel.Term) {
	room = append(clone(l), has("behind"))
	for i := range room {
		room[i].Values = append(room[i].Values, "behind", "it")
	}
	handed = slices.Clone(room)
	for i := range handed {
		handed[i].Values = handed[i].Values[:len(handed[i].Values)-2]
	}
	return room, handed
}

// P3: what is handed in, and what stands behind it, stays as it is.
func TestNothingIsWrittenInto(t *testing.T) {
	labels := pairs("b", "y", "a", "x", "a", "z")
	for _, l := range append(samples(), wrongs()...) {
		room, handed := withRoom(l)
		wasRoom, wasHanded := clone(room), clone(handed)
		in := handed[:len(l)]
		sel.Right(in)
		sel.Put(in)
		sel.Text(in)
		sel.Match(in, labels[:2])
		sel.Same(in, l)
		sel.Same(l, in)
		if !sameByHand(room, wasRoom) || !sameByHand(handed, wasHanded) {
			t.Errorf("%#v became %#v, %#v", wasRoom, handed, room)
		}
	}
	if !slices.Equal(labels, pairs("b", "y", "a", "x", "a", "z")) {
		t.Errorf("the labels became %#v", labels)
	}
}

// P3: two answers share no memory, nor do two lists of one.
func TestAnswersAreNew(t *testing.T) {
	want := terms(has("a", "b", "c"), hasNot("a", "b", "c"), has("d"))
	form, text := sel.Put(want), sel.Text(want)
	got, _, _ := sel.Get(form, 0)
	parsed, _ := sel.Parse(text)
	for _, l := range [][]sel.Term{got, parsed} {
		l[0].Values = append(l[0].Values, "x", "x", "x", "x", "x", "x")[:2]
		l[0].Values[0], l[0].Key, l[2].Key = "x", "x", "x"
		if !sameByHand(l, terms(has("x", "x", "c"), hasNot("a", "b", "c"), has("x"))) {
			t.Errorf("written into, an answer is %#v", l)
		}
	}
	if again, _, ok := sel.Get(form, 0); !sameByHand(again, want) || !ok {
		t.Errorf("Get again = %#v, %v", again, ok)
	}
	if again, ok := sel.Parse(text); !sameByHand(again, want) || !ok {
		t.Errorf("Parse again = %#v, %v", again, ok)
	}
}

// P1 to P6: at any argument a call ends, and tells either the form that stands there or nothing.
func FuzzForms(f *testing.F) {
	f.Add("", 0)
	f.Add("z\x01\x01a\x02\x01b", 1)
	f.Add("\x02\x01a\x05\x01b\x01c\x01d\x01", 0)
	f.Add("\x01\x01a\x04\x01b\x01a", 0)
	f.Add("zone!=a|b,!disk", math.MinInt)
	f.Add("zone=b|a", math.MaxInt)
	f.Fuzz(func(t *testing.T, s string, at int) {
		l, next, ok := sel.Get(s, at)
		if ok && s[at:next] != sel.Put(l) || !ok && (len(l) != 0 || next != 0) {
			t.Errorf("Get(%x, %d) = %#v, %d, %v", s, at, l, next, ok)
		}
		l, ok = sel.Parse(s)
		if ok && s != sel.Text(l) || !ok && len(l) != 0 {
			t.Errorf("Parse(%#v) = %#v, %v", s, l, ok)
		}
	})
}
