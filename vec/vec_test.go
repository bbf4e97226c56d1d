package vec_test

import (
	"fmt"
	"math"
	"math/big"
	"math/rand"
	"strings"
	"testing"

	"demesne/vec"
	"demesne/wire"
)

const top = math.MaxUint64

// edges are the amounts at which sums, products and forms turn.
var edges = []uint64{0, 1, 2, 3, 9, 10, 127, 128, 300, 1<<32 - 1, 1 << 32, 1<<32 + 1, math.MaxInt64, 1 << 63, 1<<63 + 1, top - 1, top}

// samples are amounts by hand, each edge at each kind, and amounts of all sizes.
func samples() []vec.Vec {
	all := []vec.Vec{
		{}, {1, 1, 1, 1}, {1, 2, 3, 4}, {4, 3, 2, 1}, {5, 9, 0, 0}, {2, 3, 0, 0}, {top, top, top, top}, {top, 0, top, 0},
		{0, 0, 0, 1}, {1, 0, 0, 0}, {10, 0, 0, 1}, {1, 10, 100, 1000},
	}
	for kind := range 4 {
		for _, edge := range edges {
			alone, among := vec.Vec{}, vec.Vec{7, 7, 7, 7}
			alone[kind], among[kind] = edge, edge
			all = append(all, alone, among)
		}
	}
	source := rand.New(rand.NewSource(3))
	for range 60 {
		var a vec.Vec
		for kind := range a {
			a[kind] = source.Uint64() >> source.Intn(64)
		}
		all = append(all, a)
	}
	return all
}

func whole(u uint64) *big.Int { return new(big.Int).SetUint64(u) }

// wholly does with whole numbers what do does, amount by amount; nothing and false, if 64 bits don't hold one.
func wholly(a, b vec.Vec, do func(z, x, y *big.Int) *big.Int) (vec.Vec, bool) {
	var told vec.Vec
	for kind := range a {
		made := do(new(big.Int), whole(a[kind]), whole(b[kind]))
		if !made.IsUint64() {
			return vec.Vec{}, false
		}
		told[kind] = made.Uint64()
	}
	return told, true
}

func fourTimes(n uint64) vec.Vec { return vec.Vec{n, n, n, n} }

// P3.1: the edges by hand.
func TestSumsByHand(t *testing.T) {
	times := func(a, b vec.Vec) (vec.Vec, bool) { return vec.Times(a, b[0]) }
	for _, c := range []struct {
		name       string
		call       func(a, b vec.Vec) (vec.Vec, bool)
		a, b, want vec.Vec
		ok         bool
	}{
		{"Add", vec.Add, vec.Vec{1, 2, 3, 4}, vec.Vec{10, 20, 30, 40}, vec.Vec{11, 22, 33, 44}, true},
		{"Add", vec.Add, vec.Vec{top, 0, top - 1, 0}, vec.Vec{0, top, 1, 0}, vec.Vec{top, top, top, 0}, true},
		{"Add", vec.Add, vec.Vec{top, 2, 3, 4}, vec.Vec{1, 1, 1, 1}, vec.Vec{}, false},
		{"Add", vec.Add, vec.Vec{1, 2, 3, top}, vec.Vec{1, 1, 1, 1}, vec.Vec{}, false},
		{"Sub", vec.Sub, vec.Vec{11, 22, 33, 44}, vec.Vec{1, 2, 3, 4}, vec.Vec{10, 20, 30, 40}, true},
		{"Sub", vec.Sub, vec.Vec{top, 5, 0, 1}, vec.Vec{top, 5, 0, 1}, vec.Vec{}, true},
		{"Sub", vec.Sub, vec.Vec{0, 9, 9, 9}, vec.Vec{1, 1, 1, 1}, vec.Vec{}, false},
		{"Sub", vec.Sub, vec.Vec{9, 9, 9, 0}, vec.Vec{1, 1, 1, 1}, vec.Vec{}, false},
		{"Times", times, vec.Vec{1, 2, 3, 4}, vec.Vec{3}, vec.Vec{3, 6, 9, 12}, true},
		{"Times", times, vec.Vec{top, top, top, top}, vec.Vec{0}, vec.Vec{}, true},
		{"Times", times, vec.Vec{}, vec.Vec{top}, vec.Vec{}, true},
		{"Times", times, vec.Vec{1, 0, 1, 0}, vec.Vec{top}, vec.Vec{top, 0, top, 0}, true},
		{"Times", times, vec.Vec{1 << 32, 1, 1, 1}, vec.Vec{1 << 32}, vec.Vec{}, false},
		{"Times", times, vec.Vec{1, 1, 1, 2}, vec.Vec{1 << 63}, vec.Vec{}, false},
	} {
		if got, ok := c.call(c.a, c.b); got != c.want || ok != c.ok {
			t.Errorf("%s(%v, %v) = %v, %v, want %v, %v", c.name, c.a, c.b, got, ok, c.want, c.ok)
		}
	}
}

// P3.1: sums and differences are those of whole numbers, and refused if one of them is.
func TestAddAndSub(t *testing.T) {
	for _, a := range samples() {
		for _, b := range samples() {
			want, wantOK := wholly(a, b, (*big.Int).Add)
			if got, ok := vec.Add(a, b); got != want || ok != wantOK {
				t.Errorf("Add(%v, %v) = %v, %v, want %v, %v", a, b, got, ok, want, wantOK)
			}
			want, wantOK = wholly(a, b, (*big.Int).Sub)
			if got, ok := vec.Sub(a, b); got != want || ok != wantOK {
				t.Errorf("Sub(%v, %v) = %v, %v, want %v, %v", a, b, got, ok, want, wantOK)
			}
		}
	}
}

// P3.1: products are those of whole numbers, and refused if one of them is.
func TestTimes(t *testing.T) {
	for _, a := range samples() {
		for _, n := range edges {
			want, wantOK := wholly(a, fourTimes(n), (*big.Int).Mul)
			if got, ok := vec.Times(a, n); got != want || ok != wantOK {
				t.Errorf("Times(%v, %d) = %v, %v, want %v, %v", a, n, got, ok, want, wantOK)
			}
		}
	}
}

// P3.1: each amount counts for Fits, and being alike is enough.
func TestFits(t *testing.T) {
	for _, a := range samples() {
		for _, b := range samples() {
			want := a[0] <= b[0] && a[1] <= b[1] && a[2] <= b[2] && a[3] <= b[3]
			if got := vec.Fits(a, b); got != want {
				t.Errorf("Fits(%v, %v) = %v", a, b, got)
			}
		}
	}
	b := vec.Vec{5, 5, 5, 5}
	for kind := range b {
		over, all := b, vec.Vec{}
		over[kind]++
		all[kind] = top
		if vec.Fits(over, b) || !vec.Fits(b, over) || vec.Fits(all, b) {
			t.Errorf("Fits does not ask kind %d", kind)
		}
	}
}

// P3.1: the first amount that differs alone says the order, whatever stands behind it.
func TestOrder(t *testing.T) {
	for kind := range 4 {
		for _, less := range edges[:len(edges)-1] {
			a, b := vec.Vec{7, 7, 7, 7}, vec.Vec{7, 7, 7, 7}
			a[kind], b[kind] = less, top
			for behind := kind + 1; behind < 4; behind++ {
				a[behind], b[behind] = top, 0
			}
			if got := vec.Order(a, b); got >= 0 {
				t.Errorf("Order(%v, %v) = %d, want below 0", a, b, got)
			}
			if got := vec.Order(b, a); got <= 0 {
				t.Errorf("Order(%v, %v) = %d, want above 0", b, a, got)
			}
		}
	}
	for _, a := range samples() {
		if got := vec.Order(a, a); got != 0 {
			t.Errorf("Order(%v, the same) = %d", a, got)
		}
	}
}

// P3.1: the order is that of the amounts as big-endian texts, for all pairs.
func TestOrderOfAllPairs(t *testing.T) {
	long := func(a vec.Vec) string { return fmt.Sprintf("%020d%020d%020d%020d", a[0], a[1], a[2], a[3]) }
	sign := func(n int) int { return min(1, max(-1, n)) }
	for _, a := range samples() {
		for _, b := range samples() {
			if got, want := sign(vec.Order(a, b)), strings.Compare(long(a), long(b)); got != want {
				t.Errorf("Order(%v, %v) = %d, want the sign of %d", a, b, got, want)
			}
		}
	}
}

// P3.2: the edges by hand.
func TestHoldsByHand(t *testing.T) {
	for _, c := range []struct {
		a, b vec.Vec
		most int
		want int
	}{
		{vec.Vec{5, 9, 0, 0}, vec.Vec{2, 3, 0, 0}, 8, 2},
		{vec.Vec{6, 9, 0, 0}, vec.Vec{2, 3, 0, 0}, 8, 3},
		{vec.Vec{6, 8, 0, 0}, vec.Vec{2, 3, 0, 0}, 8, 2},
		{vec.Vec{6, 9, 0, 0}, vec.Vec{2, 3, 0, 0}, 3, 3},
		{vec.Vec{6, 9, 0, 0}, vec.Vec{2, 3, 0, 0}, 2, 2},
		{vec.Vec{6, 9, 0, 0}, vec.Vec{2, 3, 0, 0}, 0, 0},
		{vec.Vec{6, 9, 0, 0}, vec.Vec{2, 3, 0, 0}, -1, 0},
		{vec.Vec{6, 9, 0, 0}, vec.Vec{2, 3, 0, 0}, math.MinInt, 0},
		{vec.Vec{6, 9, 0, 0}, vec.Vec{2, 3, 1, 0}, 8, 0},
		{vec.Vec{6, 9, 9, 9}, vec.Vec{7, 1, 1, 1}, 8, 0},
		{vec.Vec{9, 9, 9, 6}, vec.Vec{1, 1, 1, 7}, 8, 0},
		{vec.Vec{9, 9, 9, 6}, vec.Vec{1, 1, 1, 6}, 8, 1},
		{vec.Vec{9, 9, 9, 6}, vec.Vec{0, 0, 0, 2}, 8, 3},
		{vec.Vec{top, top, top, top}, vec.Vec{1, 1, 1, 1}, math.MaxInt, math.MaxInt},
		{vec.Vec{top, top, top, top}, vec.Vec{2, 2, 2, 2}, math.MaxInt, math.MaxInt},
		{vec.Vec{top, top, top, top}, vec.Vec{3, 2, 2, 2}, math.MaxInt, top / 3},
		{vec.Vec{top, top, top, top}, vec.Vec{1, 1, 1, top}, 8, 1},
		{vec.Vec{top - 1, top, top, top}, vec.Vec{top, 1, 1, 1}, 8, 0},
		{vec.Vec{top, top, top, top}, vec.Vec{1 << 63, 1, 1, 1}, 8, 1},
		{vec.Vec{1 << 63, top, top, top}, vec.Vec{1 << 32, 1, 1, 1}, math.MaxInt, 1 << 31},
	} {
		if got := vec.Holds(c.a, c.b, c.most); got != c.want {
			t.Errorf("Holds(%v, %v, %d) = %d, want %d", c.a, c.b, c.most, got, c.want)
		}
	}
}

// stands tells, by whole numbers, whether n times b fits a.
func stands(a, b vec.Vec, n int) bool {
	made, ok := wholly(b, fourTimes(uint64(n)), (*big.Int).Mul)
	return ok && made[0] <= a[0] && made[1] <= a[1] && made[2] <= a[2] && made[3] <= a[3]
}

// P3.2: what is held fits, and one more does not or may not be asked for.
func TestHoldsIsGreatest(t *testing.T) {
	for _, a := range samples() {
		for _, b := range samples() {
			for _, most := range []int{0, 1, 2, 8, 1 << 32, math.MaxInt - 1, math.MaxInt} {
				n := vec.Holds(a, b, most)
				if n < 0 || n > most || !stands(a, b, n) || n < most && stands(a, b, n+1) {
					t.Errorf("Holds(%v, %v, %d) = %d", a, b, most, n)
				}
			}
		}
	}
}

// P3.2: the greatest of all, asked one by one with the layer's own calls.
func TestHoldsOneByOne(t *testing.T) {
	source := rand.New(rand.NewSource(5))
	for range 2000 {
		var a, b vec.Vec
		for kind := range a {
			a[kind], b[kind] = uint64(source.Intn(40)), uint64(source.Intn(5))
		}
		most, want := source.Intn(12)-1, 0
		for n := 0; n <= most; n++ {
			if made, ok := vec.Times(b, uint64(n)); ok && vec.Fits(made, a) {
				want = n
			}
		}
		if got := vec.Holds(a, b, most); got != want {
			t.Errorf("Holds(%v, %v, %d) = %d, want %d", a, b, most, got, want)
		}
	}
}

func wantNoBytes(t *testing.T, s string, at int) {
	t.Helper()
	if a, next, ok := vec.Get(s, at); a != (vec.Vec{}) || next != 0 || ok {
		t.Errorf("Get(%x, %d) = %v, %d, %v, want nothing", s, at, a, next, ok)
	}
}

// P3.3: the forms as bytes that are written out by hand.
func TestPutForms(t *testing.T) {
	for _, c := range []struct {
		a    vec.Vec
		want string
	}{
		{vec.Vec{}, "\x00\x00\x00\x00"},
		{vec.Vec{1, 2, 3, 4}, "\x01\x02\x03\x04"},
		{vec.Vec{300, 0, 127, 128}, "\xac\x02\x00\x7f\x80\x01"},
		{vec.Vec{0, 0, 0, top}, "\x00\x00\x00" + strings.Repeat("\xff", 9) + "\x01"},
	} {
		if got := vec.Put(c.a); got != c.want {
			t.Errorf("Put(%v) = %x, want %x", c.a, got, c.want)
		}
	}
}

// P3.3: what is put is got, wherever it stands and whatever stands around it; what is cut off is not.
func TestGetWhatWasPut(t *testing.T) {
	for _, a := range samples() {
		form := vec.Put(a)
		if want := wire.Put(a[0]) + wire.Put(a[1]) + wire.Put(a[2]) + wire.Put(a[3]); form != want {
			t.Errorf("Put(%v) = %x, want %x", a, form, want)
		}
		for _, ahead := range []string{"", "z", "\x80\x80"} {
			for _, behind := range []string{"", "z", "\xff\xff"} {
				got, next, ok := vec.Get(ahead+form+behind, len(ahead))
				if got != a || next != len(ahead)+len(form) || !ok {
					t.Errorf("Get of %v between %x and %x = %v, %d, %v", a, ahead, behind, got, next, ok)
				}
			}
		}
		for cut := range len(form) {
			wantNoBytes(t, form[:cut], 0)
			wantNoBytes(t, "\x01\x01"+form[:cut], 2)
		}
	}
}

// P3.3: a place outside the text has no amounts.
func TestGetPlaces(t *testing.T) {
	for _, s := range []string{"", "\x00", "\x01\x02\x03\x04", "\x01\x02\x03\x04\x05\x06\x07\x08"} {
		for _, at := range []int{math.MinInt, -4, -1, len(s) - 3, len(s) - 1, len(s), len(s) + 1, 1 << 62, math.MaxInt} {
			wantNoBytes(t, s, at)
		}
	}
}

// P3.3: a number that is none at any of the four kinds makes all of them none.
func TestGetWrongForms(t *testing.T) {
	for _, bad := range []string{"\x80", "\x80\x00", "\x81\x80\x00", strings.Repeat("\xff", 9) + "\x02", strings.Repeat("\x80", 11)} {
		for kind := range 4 {
			pieces := []string{"\x01", "\xac\x02", "\x00", "\x7f"}
			pieces[kind] = bad
			wantNoBytes(t, strings.Join(pieces, ""), 0)
			wantNoBytes(t, "z"+strings.Join(pieces[:kind+1], ""), 1)
		}
	}
}

// P3.3: the texts, one form each.
func TestTexts(t *testing.T) {
	for _, c := range []struct {
		a    vec.Vec
		want string
	}{
		{vec.Vec{}, "0:0:0:0"},
		{vec.Vec{1, 2, 3, 4}, "1:2:3:4"},
		{vec.Vec{10, 0, 907, 1}, "10:0:907:1"},
		{vec.Vec{300, 0, 1, top}, "300:0:1:18446744073709551615"},
		{vec.Vec{top, 1 << 63, math.MaxInt64, 1 << 32}, "18446744073709551615:9223372036854775808:9223372036854775807:4294967296"},
	} {
		if got := vec.Text(c.a); got != c.want {
			t.Errorf("Text(%v) = %s, want %s", c.a, got, c.want)
		}
	}
	for _, a := range samples() {
		text := vec.Text(a)
		if want := fmt.Sprintf("%d:%d:%d:%d", a[0], a[1], a[2], a[3]); text != want {
			t.Errorf("Text(%v) = %s, want %s", a, text, want)
		}
		if got, ok := vec.Parse(text); got != a || !ok {
			t.Errorf("Parse(%s) = %v, %v", text, got, ok)
		}
	}
}

func wantNoText(t *testing.T, text string) {
	t.Helper()
	if a, ok := vec.Parse(text); a != (vec.Vec{}) || ok {
		t.Errorf("Parse(%q) = %v, %v, want nothing", text, a, ok)
	}
}

// P3.3: a text with more or fewer amounts, or with other runes between them, is none.
func TestParseWrongShapes(t *testing.T) {
	for _, text := range []string{
		"", ":", "::", ":::", "::::", "1", "1:2", "1:2:3", "1:2:3:", ":1:2:3", "1::2:3", "1:2:3:4:", ":1:2:3:4", "1:2::3:4", "1:2:3:4:5",
		"1;2;3;4", "1,2,3,4", "1/2/3/4", "1 2 3 4", "1:2:3;4", "1\uff1a2\uff1a3\uff1a4", " 1:2:3:4", "1:2:3:4 ", "1:2:3:4\n", "1:2:3:4\x00", "1: 2:3:4",
		strings.Repeat("1:", 1000), strings.Repeat(":", 1000), "1:2:3:4" + strings.Repeat(":", 1000),
	} {
		wantNoText(t, text)
	}
}

// P3.3: an amount that is not in digits, is longer than it need be, or is past 64 bits makes all of them none, at any kind.
func TestParseWrongAmounts(t *testing.T) {
	for _, bad := range []string{
		"", " ", "a", "00", "01", "000", "+1", "-1", "-0", "+0", "1_0", "0x1", "0b1", "0o1", "1e1", "1.", "1.0", ".1", " 1", "1 ", "\t1", "1\n", "1\x00",
		"18446744073709551616", "18446744073709551625", "99999999999999999999", "118446744073709551615", "018446744073709551615",
		"\xff", "1\xff", "\u0661", "\uff11", "x1", "1x", strings.Repeat("0", 1000), strings.Repeat("9", 1000), strings.Repeat("0", 1000) + "1",
	} {
		for kind := range 4 {
			pieces := []string{"1", "20", "0", "18446744073709551615"}
			pieces[kind] = bad
			wantNoText(t, strings.Join(pieces, ":"))
		}
	}
}

// P3.4: what is added is subtracted; what fits has a difference, and nothing else has one.
func TestSumsAndDifferences(t *testing.T) {
	for _, a := range samples() {
		for _, b := range samples() {
			if sum, ok := vec.Add(a, b); ok {
				if back, ok := vec.Sub(sum, b); back != a || !ok {
					t.Errorf("Sub(Add(%v, %v), the second) = %v, %v", a, b, back, ok)
				}
			}
			left, ok := vec.Sub(b, a)
			if ok != vec.Fits(a, b) {
				t.Errorf("Fits(%v, %v) and their difference disagree", a, b)
			}
			if back, again := vec.Add(left, a); ok && (back != b || !again) {
				t.Errorf("Add(Sub(%v, %v), the second) = %v, %v", b, a, back, again)
			}
		}
	}
}

// P3.4: of a demand of nothing as many are held as may be asked for, even by what holds nothing.
func TestHoldsOfNothing(t *testing.T) {
	for _, a := range samples() {
		for _, most := range []int{0, 1, 8, 1 << 32, math.MaxInt} {
			if got := vec.Holds(a, vec.Vec{}, most); got != most {
				t.Errorf("Holds(%v, nothing, %d) = %d", a, most, got)
			}
		}
		for _, most := range []int{-1, math.MinInt} {
			if got := vec.Holds(a, vec.Vec{}, most); got != 0 {
				t.Errorf("Holds(%v, nothing, %d) = %d", a, most, got)
			}
		}
	}
}

// P1 to P6: at any argument a call ends, and tells either the form that stands there or nothing.
func FuzzForms(f *testing.F) {
	f.Add("", 0)
	f.Add("z\x01\x02\x03\x04", 1)
	f.Add("\x80\x00\x00\x00\x00", 0)
	f.Add("1:2:3:4", math.MinInt)
	f.Add("01:2:3:18446744073709551616", math.MaxInt)
	f.Fuzz(func(t *testing.T, s string, at int) {
		a, next, ok := vec.Get(s, at)
		if ok && s[at:next] != vec.Put(a) || !ok && (a != vec.Vec{} || next != 0) {
			t.Errorf("Get(%x, %d) = %v, %d, %v", s, at, a, next, ok)
		}
		a, ok = vec.Parse(s)
		if ok && s != vec.Text(a) || !ok && a != (vec.Vec{}) {
			t.Errorf("Parse(%q) = %v, %v", s, a, ok)
		}
	})
}
