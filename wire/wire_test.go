package wire_test

import (
	"encoding/binary"
	"fmt"
	"math"
	"math/big"
	"math/rand"
	"strings"
	"testing"

	"demesne/wire"
)

// edges are the numbers at which the count of digits, or of bits, turns.
func edges() []uint64 {
	all := []uint64{0, 1, 2, 3, 300, math.MaxUint64, math.MaxUint64 - 1, math.MaxInt64, math.MaxUint32}
	for shift := range 64 {
		power := uint64(1) << shift
		all = append(all, power-1, power, power+1, ^power)
	}
	return all
}

func wantNoNumber(t *testing.T, s string, at int) {
	t.Helper()
	if u, next, ok := wire.Get(s, at); u != 0 || next != 0 || ok {
		t.Errorf("Get(%x, %d) = %d, %d, %v, want nothing", s, at, u, next, ok)
	}
}

func wantNoText(t *testing.T, s string, at, most int) {
	t.Helper()
	if text, next, ok := wire.GetText(s, at, most); text != "" || next != 0 || ok {
		t.Errorf("GetText(%x, %d, %d) = %q, %d, %v, want nothing", s, at, most, text, next, ok)
	}
}

// P1.1: the forms that are written out by hand.
func TestPutForms(t *testing.T) {
	for _, c := range []struct {
		u    uint64
		want string
	}{
		{0, "\x00"},
		{1, "\x01"},
		{127, "\x7f"},
		{128, "\x80\x01"},
		{255, "\xff\x01"},
		{300, "\xac\x02"},
		{1<<14 - 1, "\xff\x7f"},
		{1 << 14, "\x80\x80\x01"},
		{1<<63 - 1, strings.Repeat("\xff", 8) + "\x7f"},
		{1 << 63, strings.Repeat("\x80", 9) + "\x01"},
		{math.MaxUint64, strings.Repeat("\xff", 9) + "\x01"},
	} {
		if got := wire.Put(c.u); got != c.want {
			t.Errorf("Put(%d) = %x, want %x", c.u, got, c.want)
		}
	}
}

// P1.1: the library's digits of seven bits are the same ones.
func TestPutAsLibrary(t *testing.T) {
	for _, u := range edges() {
		if got, want := wire.Put(u), string(binary.AppendUvarint(nil, u)); got != want {
			t.Errorf("Put(%d) = %x, want %x", u, got, want)
		}
	}
}

// P1.1: what is put is got, wherever it stands, and whatever stands around it.
func TestGetWhatWasPut(t *testing.T) {
	for _, u := range edges() {
		form := wire.Put(u)
		for _, ahead := range []string{"", "z", "\x80\x80", "\xff"} {
			for _, behind := range []string{"", "z", "\x00", "\xff\xff"} {
				got, next, ok := wire.Get(ahead+form+behind, len(ahead))
				if got != u || next != len(ahead)+len(form) || !ok {
					t.Errorf("Get of %d between %x and %x = %d, %d, %v", u, ahead, behind, got, next, ok)
				}
			}
		}
	}
}

// P1.1: a place outside the text has no number.
func TestGetPlaces(t *testing.T) {
	for _, s := range []string{"", "\x00", "\x05\x06", "\xac\x02"} {
		for _, at := range []int{math.MinInt, -2, -1, len(s), len(s) + 1, 1 << 62, math.MaxInt} {
			wantNoNumber(t, s, at)
		}
	}
}

// P1.1: what is cut off, longer than it need be, or past 64 bits is no number.
func TestGetWrongForms(t *testing.T) {
	for _, s := range []string{
		"\x80",
		"\xff\xff",
		"\x80\x00",
		"\xff\x00",
		"\x81\x80\x00",
		strings.Repeat("\x80", 9) + "\x00",
		strings.Repeat("\xff", 9) + "\x00",
		strings.Repeat("\xff", 9) + "\x02",
		strings.Repeat("\xff", 9) + "\x03",
		strings.Repeat("\xff", 9) + "\x7f",
		strings.Repeat("\xff", 9) + "\x81\x00",
		strings.Repeat("\x80", 10),
		strings.Repeat("\x80", 10) + "\x00",
		strings.Repeat("\x80", 10) + "\x01",
		strings.Repeat("\xff", 1000) + "\x01",
	} {
		wantNoNumber(t, s, 0)
		wantNoNumber(t, "z"+s, 1)
	}
	for _, u := range edges() {
		form := wire.Put(u)
		for cut := range len(form) {
			wantNoNumber(t, form[:cut], 0)
		}
	}
}

// P1.2: the forms of texts, and what is got of them.
func TestTexts(t *testing.T) {
	long := strings.Repeat("x", 300)
	for _, c := range []struct{ text, form string }{
		{"", "\x00"},
		{"ab", "\x02ab"},
		{"\x00", "\x01\x00"},
		{"\xff\xfe", "\x02\xff\xfe"},
		{"é", "\x02\xc3\xa9"},
		{long[:127], "\x7f" + long[:127]},
		{long[:128], "\x80\x01" + long[:128]},
		{long, "\xac\x02" + long},
	} {
		if got := wire.PutText(c.text); got != c.form {
			t.Errorf("PutText(%q) = %x, want %x", c.text, got, c.form)
		}
		for _, most := range []int{len(c.text), len(c.text) + 1, math.MaxInt} {
			got, next, ok := wire.GetText("\xffz"+c.form+"z", 2, most)
			if got != c.text || next != 2+len(c.form) || !ok {
				t.Errorf("GetText of %q, at most %d = %q, %d, %v", c.text, most, got, next, ok)
			}
		}
		for _, most := range []int{len(c.text) - 1, -1, math.MinInt} {
			wantNoText(t, c.form, 0, most)
		}
		for cut := range len(c.form) {
			wantNoText(t, c.form[:cut], 0, math.MaxInt)
		}
	}
}

// P1.2: a place outside, a length that is no number, or one past the end has no text.
func TestTextsWrong(t *testing.T) {
	for _, at := range []int{math.MinInt, -1, 3, 4, 1 << 62, math.MaxInt} {
		wantNoText(t, "\x02ab", at, 9)
	}
	for _, s := range []string{
		"\x80",
		"\x80\x00",
		"\x82\x00ab",
		"\x03ab",
		strings.Repeat("\xff", 9) + "\x02ab",
		wire.Put(math.MaxUint64) + "ab",
		wire.Put(math.MaxUint64-1) + "ab",
		wire.Put(1<<63) + "ab",
		wire.Put(1<<63+2) + "ab",
		wire.Put(1<<32+2) + "ab",
		wire.Put(math.MaxInt64) + "ab",
	} {
		for _, most := range []int{2, 9, 1 << 62, math.MaxInt, -1, math.MinInt} {
			wantNoText(t, s, 0, most)
		}
	}
}

// P1.3: sums, differences and products are those of whole numbers, or are refused.
func TestChecked(t *testing.T) {
	most := new(big.Int).SetUint64(math.MaxUint64)
	calls := []struct {
		name  string
		call  func(a, b uint64) (uint64, bool)
		whole func(z, a, b *big.Int) *big.Int
	}{
		{"Add", wire.Add, (*big.Int).Add},
		{"Sub", wire.Sub, (*big.Int).Sub},
		{"Mul", wire.Mul, (*big.Int).Mul},
	}
	for _, a := range edges() {
		for _, b := range edges() {
			for _, c := range calls {
				whole := c.whole(new(big.Int), new(big.Int).SetUint64(a), new(big.Int).SetUint64(b))
				want, wantOK := uint64(0), whole.Sign() >= 0 && whole.Cmp(most) <= 0
				if wantOK {
					want = whole.Uint64()
				}
				if got, ok := c.call(a, b); got != want || ok != wantOK {
					t.Errorf("%s(%d, %d) = %d, %v, want %d, %v", c.name, a, b, got, ok, want, wantOK)
				}
			}
		}
	}
}

// P1.3: the edges by hand.
func TestCheckedByHand(t *testing.T) {
	const most = math.MaxUint64
	for _, c := range []struct {
		name    string
		call    func(a, b uint64) (uint64, bool)
		a, b, u uint64
		ok      bool
	}{
		{"Add", wire.Add, 2, 3, 5, true},
		{"Add", wire.Add, most, 0, most, true},
		{"Add", wire.Add, most, 1, 0, false},
		{"Add", wire.Add, most, most, 0, false},
		{"Add", wire.Add, 1 << 63, 1 << 63, 0, false},
		{"Sub", wire.Sub, 5, 3, 2, true},
		{"Sub", wire.Sub, most, most, 0, true},
		{"Sub", wire.Sub, 0, 1, 0, false},
		{"Sub", wire.Sub, 0, most, 0, false},
		{"Mul", wire.Mul, 6, 7, 42, true},
		{"Mul", wire.Mul, 0, most, 0, true},
		{"Mul", wire.Mul, most, 1, most, true},
		{"Mul", wire.Mul, 1<<32 - 1, 1<<32 + 1, most, true},
		{"Mul", wire.Mul, 1 << 32, 1 << 32, 0, false},
		{"Mul", wire.Mul, most, most, 0, false},
	} {
		if u, ok := c.call(c.a, c.b); u != c.u || ok != c.ok {
			t.Errorf("%s(%d, %d) = %d, %v, want %d, %v", c.name, c.a, c.b, u, ok, c.u, c.ok)
		}
	}
}

// P1.4: of texts of all pairs of bytes, with less or more behind them, each that is read as a number
// begins with the form of that number, and none that begins with a number's form is refused.
func TestOneFormOfEachNumber(t *testing.T) {
	for n := range 1 << 16 {
		pair := string([]byte{byte(n), byte(n >> 8)})
		for _, s := range []string{pair[:1], pair, pair + "\x00", pair + "\x01", pair + "\x7f", pair + "\x80", pair + "\x80\x00", pair + "\xff\x02"} {
			checkOneForm(t, s)
		}
	}
}

func checkOneForm(t *testing.T, s string) {
	t.Helper()
	want, taken := binary.Uvarint([]byte(s))
	wantOK := taken > 0 && string(binary.AppendUvarint(nil, want)) == s[:taken]
	if !wantOK {
		wantNoNumber(t, s, 0)
		return
	}
	u, next, ok := wire.Get(s, 0)
	if u != want || next != taken || !ok || wire.Put(u) != s[:next] {
		t.Errorf("Get(%x, 0) = %d, %d, %v, want %d, %d, true", s, u, next, ok, want, taken)
	}
}

// P1.4: no two numbers share a form, and no form begins another one.
func TestFormsApart(t *testing.T) {
	of := map[string]uint64{}
	for u := range uint64(1 << 15) {
		form := wire.Put(u)
		if other, twice := of[form]; twice {
			t.Fatalf("%d and %d are both put as %x", other, u, form)
		}
		of[form] = u
	}
	for form, u := range of {
		for cut := 1; cut < len(form); cut++ {
			if other, begins := of[form[:cut]]; begins {
				t.Fatalf("the form of %d begins that of %d", other, u)
			}
		}
	}
}

// P1.4: a text whose length has a longer form than it need have is not read.
func TestOneFormOfEachText(t *testing.T) {
	for _, text := range []string{"", "a", "ab", strings.Repeat("x", 127), strings.Repeat("x", 128)} {
		size := wire.Put(uint64(len(text)))
		last := len(size) - 1
		longer := size[:last] + string([]byte{size[last] | 0x80, 0})
		wantNoText(t, longer+text, 0, math.MaxInt)
		wantNoText(t, longer+text+"\x00\x00", 0, math.MaxInt)
	}
}

// putMany puts numbers and texts behind one another, by turns.
func putMany(numbers []uint64, texts []string) string {
	var all strings.Builder
	for i := range numbers {
		all.WriteString(wire.Put(numbers[i]))
		all.WriteString(wire.PutText(texts[i]))
	}
	return all.String()
}

// P1.4: what is put behind one another is got one by one.
func TestOneByOne(t *testing.T) {
	numbers := edges()
	source := rand.New(rand.NewSource(1))
	texts := make([]string, len(numbers))
	for i := range texts {
		body := make([]byte, source.Intn(200))
		source.Read(body)
		texts[i] = string(body)
	}
	all := putMany(numbers, texts)
	at := 0
	for i := range numbers {
		u, behind, ok := wire.Get(all, at)
		if u != numbers[i] || !ok {
			t.Fatalf("number %d = %d, %v, want %d", i, u, ok, numbers[i])
		}
		text, next, ok := wire.GetText(all, behind, len(texts[i]))
		if text != texts[i] || !ok {
			t.Fatalf("text %d = %q, %v, want %q", i, text, ok, texts[i])
		}
		at = next
	}
	if at != len(all) {
		t.Errorf("got %d bytes of %d", at, len(all))
	}
	wantNoNumber(t, all, at)
}

// P1 to P6: at any argument a call ends, and tells either the form that stands there or nothing.
func FuzzGets(f *testing.F) {
	f.Add("", 0, 0)
	f.Add("z\x02ab", 1, 2)
	f.Add("\x80\x00", 0, 9)
	f.Add(strings.Repeat("\xff", 9)+"\x01", 0, math.MaxInt)
	f.Add(strings.Repeat("\xff", 9)+"\x02", math.MinInt, math.MinInt)
	f.Fuzz(func(t *testing.T, s string, at, most int) {
		if fault := faultOfGets(s, at, most); fault != "" {
			t.Error(fault)
		}
	})
}

func faultOfGets(s string, at, most int) string {
	u, next, ok := wire.Get(s, at)
	if ok && s[at:next] != wire.Put(u) || !ok && (u != 0 || next != 0) {
		return fmt.Sprintf("Get(%x, %d) = %d, %d, %v", s, at, u, next, ok)
	}
	text, behind, ok := wire.GetText(s, at, most)
	if ok && (s[at:behind] != wire.PutText(text) || len(text) > most) || !ok && (text != "" || behind != 0) {
		return fmt.Sprintf("GetText(%x, %d, %d) = %q, %d, %v", s, at, most, text, behind, ok)
	}
	return ""
}
