package frame_test

import (
	"encoding/binary"
	"hash/crc32"
	"math"
	"math/rand"
	"slices"
	"strings"
	"sync"
	"testing"

	"demesne/api"
	"demesne/frame"
)

// randomText tells n bytes, the same ones of each seed.
func randomText(seed int64, n int) string {
	s := make([]byte, n)
	rand.New(rand.NewSource(seed)).Read(s)
	return string(s)
}

// number tells four bytes of u, the greatest first.
func number(u uint32) string {
	return string(binary.BigEndian.AppendUint32(nil, u))
}

// record is what the library puts of a body, however long it is.
func record(body string) string {
	return number(uint32(len(body))) + number(crc32.ChecksumIEEE([]byte(body))) + body
}

// samples are bodies at the edges of what a length has in its bytes, and such as look like records themselves.
func samples() []string {
	all := []string{"", "a", "ab", "\x00", "\xff", "é", "\xff\xfe", "\xed\xa0\x80", strings.Repeat("\x00", 8), record(""), record("a"), record("a")[:8]}
	for _, n := range []int{255, 256, 257, 4095, api.MaxFrame - 1, api.MaxFrame} {
		all = append(all, randomText(int64(n), n))
	}
	return all
}

func wantSum(t *testing.T, s string) {
	t.Helper()
	if got, want := frame.Sum(s), crc32.ChecksumIEEE([]byte(s)); got != want {
		t.Errorf("Sum of %d bytes, %.20x.. = %08x, want %08x", len(s), s, got, want)
	}
}

func wantNext(t *testing.T, s string, at int, body string, next int) {
	t.Helper()
	got, gotNext, ok := frame.Next(s, at)
	if got != body || gotNext != next || !ok {
		t.Errorf("Next(%.40x.., %d) = %.40x.., %d, %v, want %.40x.., %d", s, at, got, gotNext, ok, body, next)
	}
}

func wantNoNext(t *testing.T, s string, at int) {
	t.Helper()
	if body, next, ok := frame.Next(s, at); body != "" || next != 0 || ok {
		t.Errorf("Next(%.40x.., %d) = %.40x.., %d, %v, want nothing", s, at, body, next, ok)
	}
}

func wantAll(t *testing.T, s string, bodies []string, end int) {
	t.Helper()
	if got, gotEnd := frame.All(s); !slices.Equal(got, bodies) || gotEnd != end {
		t.Errorf("All(%.40x..) = %d bodies, %d, want %d, %d", s, len(got), gotEnd, len(bodies), end)
	}
}

// P8.1: sums that are known.
func TestSumsThatAreKnown(t *testing.T) {
	upward := ""
	for b := range 32 {
		upward += string([]byte{byte(b)})
	}
	for _, c := range []struct {
		s    string
		want uint32
	}{
		{"", 0},
		{"123456789", 0xcbf43926},
		{"a", 0xe8b7be43},
		{"abc", 0x352441c2},
		{"The quick brown fox jumps over the lazy dog", 0x414fa339},
		{"\x00", 0xd202ef8d},
		{"\x00\x00\x00\x00", 0x2144df1c},
		{"\xff\xff\xff\xff", 0xffffffff},
		{strings.Repeat("\x00", 32), 0x190a55ad},
		{strings.Repeat("\xff", 32), 0xff6cab0b},
		{upward, 0x91267e8a},
	} {
		if got := frame.Sum(c.s); got != c.want {
			t.Errorf("Sum(%q) = %08x, want %08x", c.s, got, c.want)
		}
	}
}

// sumByHand goes bit by bit, as the chapter says.
func sumByHand(s string) uint32 {
	register := uint32(0xffffffff)
	for i := range len(s) {
		for bit := range 8 {
			fallsOut, ofByte := register%2 == 1, s[i]&(1<<bit) != 0
			register /= 2
			if fallsOut != ofByte {
				register ^= 0xedb88320
			}
		}
	}
	return 0xffffffff - register
}

// P8.1: the sum is what the chapter's words reckon.
func TestSumByHand(t *testing.T) {
	text := randomText(1, 200)
	for n := range len(text) + 1 {
		if got, want := frame.Sum(text[:n]), sumByHand(text[:n]); got != want {
			t.Errorf("Sum(%x) = %08x, want %08x", text[:n], got, want)
		}
	}
}

// P8.1: all texts of one byte, and of two, have a sum of their own.
func TestSumOfAllShortTexts(t *testing.T) {
	seen := map[uint32]bool{frame.Sum(""): true}
	for n := range 1 << 16 {
		pair := string([]byte{byte(n >> 8), byte(n)})
		wantSum(t, pair)
		seen[frame.Sum(pair)] = true
		if n < 1<<8 {
			wantSum(t, pair[1:])
			seen[frame.Sum(pair[1:])] = true
		}
	}
	if want := 1 + 1<<8 + 1<<16; len(seen) != want {
		t.Errorf("%d sums of %d texts", len(seen), want)
	}
}

// P8.1: of any length, also past that of a record's body, and of any bytes.
func TestSumOfEachLength(t *testing.T) {
	text := randomText(2, 1<<20)
	for n := range 300 {
		wantSum(t, text[:n])
		wantSum(t, text[n:300])
		wantSum(t, strings.Repeat("\x00", n))
		wantSum(t, strings.Repeat("\xff", n))
	}
	for _, n := range []int{api.MaxFrame - 1, api.MaxFrame, api.MaxFrame + 1, 1 << 17, len(text)} {
		wantSum(t, text[:n])
	}
	for _, s := range samples() {
		wantSum(t, s)
	}
}

// P4: the same is told again, also to many at one time.
func TestToldAgain(t *testing.T) {
	body := randomText(3, 1000)
	s := frame.Put(body) + frame.Put("b") + "torn"
	var sums [8]uint32
	var lists [8][]string
	var all sync.WaitGroup
	for i := range sums {
		all.Go(func() {
			for n := range 100 {
				frame.All(s[n:])
				frame.Sum(s[n:])
			}
			sums[i] = frame.Sum(body)
			lists[i], _ = frame.All(s)
		})
	}
	all.Wait()
	for i := range sums {
		if sums[i] != sums[0] || !slices.Equal(lists[i], []string{body, "b"}) {
			t.Errorf("Sum = %08x, then %08x; %d bodies", sums[0], sums[i], len(lists[i]))
		}
	}
}

// P8.2: records by hand.
func TestPutByHand(t *testing.T) {
	for _, c := range []struct{ body, want string }{
		{"", "\x00\x00\x00\x00\x00\x00\x00\x00"},
		{"a", "\x00\x00\x00\x01\xe8\xb7\xbe\x43a"},
		{"abc", "\x00\x00\x00\x03\x35\x24\x41\xc2abc"},
		{"123456789", "\x00\x00\x00\x09\xcb\xf4\x39\x26123456789"},
		{"\x00\x00\x00\x00", "\x00\x00\x00\x04\x21\x44\xdf\x1c\x00\x00\x00\x00"},
		{"\xff\xff\xff\xff", "\x00\x00\x00\x04\xff\xff\xff\xff\xff\xff\xff\xff"},
	} {
		if got := frame.Put(c.body); got != c.want {
			t.Errorf("Put(%q) = %x, want %x", c.body, got, c.want)
		}
	}
}

// P8.2: bodies up to the limit have a record, longer ones have none.
func TestPutOfEachLength(t *testing.T) {
	text := randomText(4, 1<<20)
	for _, n := range []int{0, 1, 2, 127, 128, 255, 256, 257, 511, 512, 1 << 12, 1<<15 - 1, 1 << 15, 1<<16 - 2, 1<<16 - 1, 1 << 16} {
		got := frame.Put(text[:n])
		if got != record(text[:n]) || len(got) != n+8 {
			t.Errorf("Put of %d bytes = %d bytes, %.20x..", n, len(got), got)
		}
	}
	for _, n := range []int{1<<16 + 1, 1<<16 + 2, 1<<16 + 8, 1 << 17, 1<<17 + 1, len(text)} {
		if got := frame.Put(text[:n]); got != "" {
			t.Errorf("Put of %d bytes = %d bytes, %.20x.., want nothing", n, len(got), got)
		}
	}
	for _, body := range samples() {
		if got := frame.Put(body); got != record(body) {
			t.Errorf("Put(%.20x..) = %.20x..", body, got)
		}
	}
}

// P8.2: what was put is told, wherever it stands, and whatever stands around it.
func TestNextOfWhatWasPut(t *testing.T) {
	for _, body := range samples() {
		form := frame.Put(body)
		for _, ahead := range []string{"", "z", "\x00", "\xff\xff\xff", record("zz"), record("zz")[:9], "\x00\x00\x00\x00"} {
			for _, behind := range []string{"", "z", "\x00", "\xff", record(""), record("zz")} {
				wantNext(t, ahead+form+behind, len(ahead), body, len(ahead)+len(form))
			}
		}
	}
}

// P8.2, P6: a place below 0, or past the end, has nothing, nor has the end itself.
func TestNextPlaces(t *testing.T) {
	for _, s := range []string{"", "\x00", record(""), record("a"), record("") + record("a"), strings.Repeat("\x00", 64)} {
		for _, at := range []int{math.MinInt, math.MinInt + 8, -1 << 62, -1 << 32, -len(s) - 8, -9, -8, -1} {
			wantNoNext(t, s, at)
		}
		for _, at := range []int{len(s), len(s) + 1, len(s) + 7, len(s) + 8, 1 << 31, 1 << 32, 1<<32 + len(s), 1 << 62, math.MaxInt - 8, math.MaxInt - 7, math.MaxInt - 1, math.MaxInt} {
			wantNoNext(t, s, at)
		}
	}
}

// P8.2: what is cut off at either end is no record.
func TestNextOfPieces(t *testing.T) {
	for _, body := range samples() {
		form := record(body)
		for cut := range min(len(form), 600) {
			wantNoNext(t, form[:cut], 0)
			wantNoNext(t, "zz"+form[:cut], 2)
			wantNoNext(t, form[:len(form)-1-cut], 0)
		}
	}
	form := record("abcdefgh")
	for at := 1; at <= len(form); at++ {
		wantNoNext(t, form, at)
		wantNoNext(t, form[at:], 0)
	}
}

// P8.2: with any one byte of it turned into any other one a record is none.
func TestNextOfTurnedBytes(t *testing.T) {
	for _, body := range []string{"", "a", "abc", "123456789", strings.Repeat("\x00", 20), strings.Repeat("\xff", 20)} {
		form := []byte(record(body))
		for at, was := range form {
			for b := range 256 {
				form[at] = byte(b)
				if byte(b) == was {
					wantNext(t, string(form), 0, body, len(form))
				} else {
					wantNoNext(t, string(form), 0)
				}
			}
			form[at] = was
		}
	}
}

// P8.2: lengths that are wrong, whatever the sum is of.
func TestNextWrongLengths(t *testing.T) {
	body := randomText(5, 300)
	behind := randomText(6, 1<<17)
	sum := number(crc32.ChecksumIEEE([]byte(body)))
	for _, size := range []uint32{0, 1, 44, 299, 301, 300 << 8, 300 << 16, 1<<16 - 1, 1 << 16, 1<<16 + 1, 1<<16 + 300, 1<<24 + 300, 1 << 31, 1<<31 + 300, 1<<31 - 1, math.MaxUint32, math.MaxUint32 - 7, math.MaxUint32 - 8} {
		wantNoNext(t, number(size)+sum+body, 0)
		wantNoNext(t, number(size)+sum+body+behind, 0)
		wantNoNext(t, "z"+number(size)+sum+body+behind, 1)
	}
	// Past the limit nothing is put: not even with a right sum is there a record.
	for _, n := range []int{api.MaxFrame + 1, api.MaxFrame + 2, 1<<17 - 1, 1 << 17} {
		wantNoNext(t, record(behind[:n]), 0)
		wantAll(t, record("a")+record(behind[:n])+record("b"), []string{"a"}, 9)
	}
	wantNext(t, record(behind[:api.MaxFrame])+"z", 0, behind[:api.MaxFrame], api.MaxFrame+8)
}

// P8.2: heads that are put otherwise.
func TestNextWrongHeads(t *testing.T) {
	body := "abc"
	size, sum := uint32(len(body)), crc32.ChecksumIEEE([]byte(body))
	turnedSize, turnedSum := string(binary.LittleEndian.AppendUint32(nil, size)), string(binary.LittleEndian.AppendUint32(nil, sum))
	castagnoli := crc32.Checksum([]byte(body), crc32.MakeTable(crc32.Castagnoli))
	long := strings.Repeat("\x00", 1<<17)
	for _, s := range []string{
		turnedSize + number(sum) + body,
		number(size) + turnedSum + body,
		number(sum) + number(size) + body,
		number(size) + body + number(sum),
		number(size) + number(^sum) + body,
		number(size) + number(sum+1) + body,
		number(size) + number(sum-1) + body,
		number(size) + number(0) + body,
		number(size) + number(castagnoli) + body,
		number(size) + number(crc32.ChecksumIEEE([]byte(number(size)+body))) + body,
		number(size+8) + number(sum) + body,
		"\x03" + number(sum) + body,
		"\x00\x03" + number(sum) + body,
		"\x00\x00\x00\x00" + number(size) + number(sum) + body,
		number(0) + number(1),
		number(0) + number(math.MaxUint32),
		body, strings.Repeat("\xff", 64), strings.Repeat("z", 64),
	} {
		wantNoNext(t, s, 0)
		wantNoNext(t, s+long, 0)
		wantAll(t, s, nil, 0)
	}
}

// nextByHand holds what stands there against Put of every body that it could be of.
func nextByHand(s string, at int) (body string, next int, ok bool) {
	if at < 0 || at > len(s) {
		return "", 0, false
	}
	for next := at + 8; next <= len(s); next++ {
		if form := frame.Put(s[at+8 : next]); form != "" && strings.HasPrefix(s[at:], form) {
			return s[at+8 : next], next, true
		}
	}
	return "", 0, false
}

// wantAsByHand holds Next and All of s against what the words say, at every place.
func wantAsByHand(t *testing.T, s string) {
	t.Helper()
	for at := -2; at <= len(s)+2; at++ {
		if body, next, ok := nextByHand(s, at); ok {
			wantNext(t, s, at, body, next)
		} else {
			wantNoNext(t, s, at)
		}
	}
	var bodies []string
	end := 0
	for body, next, ok := nextByHand(s, 0); ok; body, next, ok = nextByHand(s, end) {
		bodies, end = append(bodies, body), next
	}
	wantAll(t, s, bodies, end)
}

// P8.2: of texts of records, of pieces of them, and of noughts, which are records of nothing.
func TestNextAtEachPlace(t *testing.T) {
	parts := []string{record(""), record("a"), record("abc"), record(record("a") + "z"), record("abc")[:9], record("a")[1:], "\x00", "\x00\x00\x00\x01", strings.Repeat("\x00", 9), "z"}
	for _, a := range parts {
		wantAsByHand(t, a)
		for _, b := range parts {
			wantAsByHand(t, a+b)
			for _, c := range parts {
				wantAsByHand(t, a+b+c)
			}
		}
	}
}

// P8.2: of random bytes, of few kinds, so that some of them are records.
func TestNextOfRandomBytes(t *testing.T) {
	chance := rand.New(rand.NewSource(7))
	told := 0
	for range 3000 {
		s := make([]byte, chance.Intn(40))
		for i := range s {
			if chance.Intn(8) == 0 {
				s[i] = byte(chance.Intn(4))
			}
		}
		wantAsByHand(t, string(s))
		if _, end := frame.All(string(s)); end > 0 {
			told++
		}
	}
	if told < 100 || told > 2900 {
		t.Errorf("%d of 3000 texts begin with a record", told)
	}
}

// P8.2, P8.3: of all lists of up to three sample bodies, All tells these; a part of one more behind them is not told.
func TestAllOfLists(t *testing.T) {
	bodies := []string{"", "a", "\x00", "abc", record(""), randomText(8, 300)}
	lists := [][]string{nil}
	for from, n := 0, 0; n < 3; n++ {
		till := len(lists)
		for ; from < till; from++ {
			for _, body := range bodies {
				lists = append(lists, append(slices.Clone(lists[from]), body))
			}
		}
	}
	for _, list := range lists {
		s := ""
		for _, body := range list {
			s += frame.Put(body)
		}
		wantAll(t, s, list, len(s))
		for _, torn := range []string{"", "a", "abcdefgh", strings.Repeat("\x00", 300)} {
			form := frame.Put(torn)
			for cut := range form {
				wantAll(t, s+form[:cut], list, len(s))
			}
		}
	}
}

// P8.2: what stands behind a place where there is no record is not looked at.
func TestAllEnds(t *testing.T) {
	ahead := record("a") + record("") + record("bc")
	for _, gap := range []string{"z", "\x00", "\xff\xff", record("d")[:8], record("d")[1:], record(strings.Repeat("x", api.MaxFrame+1)), "\x00\x00\x00\x01\x00\x00\x00\x00d"} {
		wantAll(t, ahead+gap+record("xyz")+record("e"), []string{"a", "", "bc"}, len(ahead))
		wantAll(t, gap+ahead, nil, 0)
	}
	wantAll(t, "", nil, 0)
	for n := range 20 {
		wantAll(t, strings.Repeat("z", n), nil, 0)
	}
}

// P8.2: very many records, and long ones.
func TestAllOfMany(t *testing.T) {
	const many = 200000
	for spare := range 8 {
		bodies, end := frame.All(strings.Repeat("\x00", 8*many+spare))
		if len(bodies) != many || end != 8*many || strings.Join(bodies, "") != "" {
			t.Errorf("All of %d noughts = %d bodies, %d", 8*many+spare, len(bodies), end)
		}
	}
	long := randomText(9, api.MaxFrame)
	wantAll(t, strings.Repeat(record(long), 16)+record(long)[:api.MaxFrame+7], slices.Repeat([]string{long}, 16), 16*(api.MaxFrame+8))
}

// P3: what All tells is a new list each time.
func TestAllTellsNewLists(t *testing.T) {
	s := record("a") + record("b")
	first, _ := frame.All(s)
	first[0] = "turned"
	_ = append(first[:1], "turned")
	wantAll(t, s, []string{"a", "b"}, 18)
}

// turned tells s with those of its bits turned that pattern has, from a bit on; the least bit of a byte is its first one.
func turned(s string, pattern uint64, from int) string {
	out := []byte(s)
	for i := range 64 {
		if pattern>>i&1 == 1 {
			out[(from+i)/8] ^= 1 << ((from + i) % 8)
		}
	}
	return string(out)
}

// P8.3: bits that stand among 32 in a row, turned in any way, turn the sum, and the record is none.
func TestSumOfTurnedBits(t *testing.T) {
	chance := rand.New(rand.NewSource(10))
	for _, body := range []string{randomText(11, 40), strings.Repeat("\x00", 40), strings.Repeat("\xff", 40), randomText(12, 260)} {
		sum, head := frame.Sum(body), record(body)[:8]
		for from := range 8*len(body) - 31 {
			patterns := []uint64{1, 3, 1 << 31, 1<<31 | 1, 1<<32 - 1, 0xedb88320, 0x04c11db7, 0xdb710641, 0x82608edb}
			for range 20 {
				patterns = append(patterns, uint64(chance.Uint32())|1)
			}
			for _, pattern := range patterns {
				other := turned(body, pattern, from)
				if frame.Sum(other) == sum || other == body {
					t.Errorf("%d bytes with %08x turned from bit %d on have the same sum", len(body), pattern, from)
				}
				wantNoNext(t, head+other, 0)
			}
		}
	}
}

// P8.3: of a body of 40 bits, all ways to turn two bits that stand within 32, and all patterns of 12 bits.
func TestSumOfAllSmallTurns(t *testing.T) {
	body := "abcde"
	sum := frame.Sum(body)
	for from := range 40 {
		for far := 1; far < 32 && from+far < 40; far++ {
			if frame.Sum(turned(body, 1|1<<far, from)) == sum {
				t.Errorf("bits %d and %d turned leave the sum", from, from+far)
			}
		}
		for pattern := uint64(1); pattern < 1<<12 && from+12 <= 40; pattern++ {
			if frame.Sum(turned(body, pattern, from)) == sum {
				t.Errorf("%03x turned from bit %d on leaves the sum", pattern, from)
			}
		}
	}
}

// P8.1, P8.3: 33 bits in a row are too many: turned as the chapter's number is, with the bit that falls out ahead of it, they leave the sum.
func TestSumOfTooManyTurnedBits(t *testing.T) {
	for _, body := range []string{randomText(13, 40), strings.Repeat("\x00", 5)} {
		for from := range 8*len(body) - 32 {
			other := turned(body, 0xedb88320<<1|1, from)
			if frame.Sum(other) != frame.Sum(body) || other == body {
				t.Errorf("%d bytes with 33 bits turned from bit %d on have another sum", len(body), from)
			}
		}
	}
}

// P1 to P6: at any argument a call ends, and tells what the words say.
func FuzzForms(f *testing.F) {
	f.Add("", 0)
	f.Add("abc", -1)
	f.Add(record("a"), 0)
	f.Add(record("a")+record("")+record("bc")[:9], 9)
	f.Add(strings.Repeat("\x00", 17), math.MaxInt)
	f.Fuzz(func(t *testing.T, s string, at int) {
		wantSum(t, s)
		if len(s) > 2000 {
			s = s[:2000]
		}
		if frame.Put(s) != record(s) {
			t.Errorf("Put(%x) = %x", s, frame.Put(s))
		}
		wantNext(t, s+record(s)+s, len(s), s, 2*len(s)+8)
		wantAsByHand(t, s)
		if at < 0 || at > len(s) {
			wantNoNext(t, s, at)
		}
	})
}
