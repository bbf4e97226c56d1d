package sha_test

import (
	"crypto/sha256"
	"encoding/hex"
	"math/big"
	"math/bits"
	"math/rand"
	"strings"
	"sync"
	"testing"

	"demesne/sha"
)

// sumOfNothing is Sum of nothing, as the chapter writes it.
const sumOfNothing = "e3b0c442 98fc1c14 9afbf4c8 996fb924 27ae41e4 649b934c a495991b 7852b855"

// wantSum holds Sum(s) against the library's.
func wantSum(t *testing.T, s string) {
	t.Helper()
	want := sha256.Sum256([]byte(s))
	if got := sha.Sum(s); got != string(want[:]) {
		t.Errorf("Sum of %d bytes, %.20x.. = %x, want %x", len(s), s, got, want)
	}
}

// randomText tells n bytes, the same ones of each seed.
func randomText(seed int64, n int) string {
	s := make([]byte, n)
	rand.New(rand.NewSource(seed)).Read(s)
	return string(s)
}

// P6.1, P6.3: sums that are known, FIPS 180's examples among them.
func TestSumsThatAreKnown(t *testing.T) {
	for _, c := range []struct{ s, want string }{
		{"", sumOfNothing},
		{"abc", "ba7816bf 8f01cfea 414140de 5dae2223 b00361a3 96177a9c b410ff61 f20015ad"},
		{"abcdbcdecdefdefgefghfghighijhijkijkljklmklmnlmnomnopnopq", "248d6a61 d20638b8 e5c02693 0c3e6039 a33ce459 64ff2167 f6ecedd4 19db06c1"},
		{
			"abcdefghbcdefghicdefghijdefghijkefghijklfghijklmghijklmnhijklmnoijklmnopjklmnopqklmnopqrlmnopqrsmnopqrstnopqrstu",
			"cf5b16a7 78af8380 036ce59e 7b049237 0b249b11 e8f07a51 afac4503 7afee9d1",
		},
		{strings.Repeat("a", 1000000), "cdc76e5c 9914fb92 81a1c7e2 84d73e67 f1809a48 a497200e 046d39cc c7112cd0"},
		{"\xbd", "68325720 aabd7c82 f30f554b 313d0570 c95accbb 7dc4b5aa e11204c0 8ffe732b"},
		{"\xc9\x8c\x8e\x55", "7abc22c0 ae5af26c e93dbb94 433a0e0b 2e119d01 4f8e7f65 bd56c61c cccd9504"},
	} {
		want := strings.ReplaceAll(c.want, " ", "")
		if got := sha.Hex(sha.Sum(c.s)); got != want {
			t.Errorf("Sum of %d bytes, %.20q.. = %s, want %s", len(c.s), c.s, got, want)
		}
	}
}

// P6.1: of each length, so that the mark and the count end a block, or begin one, at every place of it.
func TestSumOfEachLength(t *testing.T) {
	text := randomText(1, 700)
	for n := range len(text) + 1 {
		wantSum(t, text[:n])
		wantSum(t, text[len(text)-n:])
		wantSum(t, strings.Repeat("\x00", n))
		wantSum(t, strings.Repeat("\xff", n))
		wantSum(t, strings.Repeat("\x80", n))
	}
}

// P6.1: of long texts, at the edges of blocks.
func TestSumOfLongTexts(t *testing.T) {
	text := randomText(2, 1<<17+100)
	for _, about := range []int{1 << 10, 1 << 13, 1 << 14, 1 << 16, 1 << 17} {
		for _, n := range []int{about - 65, about - 64, about - 9, about - 8, about - 1, about, about + 1, about + 55, about + 56, about + 64} {
			wantSum(t, text[:n])
		}
	}
}

// P6.1: each byte, and each bit of a block, has its weight.
func TestSumOfTurnedBits(t *testing.T) {
	for b := range 256 {
		wantSum(t, string([]byte{byte(b)}))
		wantSum(t, strings.Repeat(string([]byte{byte(b)}), 64))
	}
	seen := map[string]bool{}
	for _, n := range []int{32, 64, 130} {
		s := []byte(randomText(3, n))
		for bit := range 8 * n {
			s[bit/8] ^= 1 << (bit % 8)
			wantSum(t, string(s))
			seen[sha.Sum(string(s))] = true
			s[bit/8] ^= 1 << (bit % 8)
		}
	}
	if want := 8 * (32 + 64 + 130); len(seen) != want {
		t.Errorf("%d sums of %d texts", len(seen), want)
	}
}

// P6.1: how many bits there are is told in 8 bytes, not in 4: here they are 2^32.
func TestSumOfCountPast32Bits(t *testing.T) {
	if testing.Short() {
		t.Skip("half a gigabyte is gone through")
	}
	const pieces = 1 << 9
	piece := randomText(4, 1<<20)
	library := sha256.New()
	for range pieces {
		library.Write([]byte(piece))
	}
	if got, want := sha.Sum(strings.Repeat(piece, pieces)), library.Sum(nil); got != string(want) {
		t.Errorf("Sum of 2^29 bytes = %x, want %x", got, want)
	}
}

// rootsBehindPoint tells the first 32 bits behind the point of the degree-th roots of the first n primes.
func rootsBehindPoint(degree uint, n int) []uint32 {
	var words []uint32
	for p := int64(2); len(words) < n; p++ {
		if !big.NewInt(p).ProbablyPrime(0) {
			continue
		}
		under := new(big.Int).Lsh(big.NewInt(p), 32*degree)
		root := new(big.Int)
		for bit := 40; bit >= 0; bit-- {
			more := new(big.Int).SetBit(root, bit, 1)
			if new(big.Int).Exp(more, big.NewInt(int64(degree)), nil).Cmp(under) <= 0 {
				root = more
			}
		}
		words = append(words, uint32(root.Uint64()))
	}
	return words
}

// sumByHand adds, block by block, what the chapter says, with roots that are worked out.
func sumByHand(s string) string {
	padded := s + "\x80"
	for len(padded)%64 != 56 {
		padded += "\x00"
	}
	for shift := 56; shift >= 0; shift -= 8 {
		padded += string([]byte{byte(uint64(len(s)) * 8 >> shift)})
	}
	words, cubes := rootsBehindPoint(2, 8), rootsBehindPoint(3, 64)
	down := func(x uint32, by ...int) (out uint32) {
		for _, n := range by {
			out ^= bits.RotateLeft32(x, 32-n)
		}
		return out
	}
	for ; padded != ""; padded = padded[64:] {
		w := make([]uint32, 64)
		for i := range w {
			if i < 16 {
				w[i] = uint32(new(big.Int).SetBytes([]byte(padded[4*i : 4*i+4])).Uint64())
				continue
			}
			w[i] = (down(w[i-2], 17, 19) ^ w[i-2]>>10) + w[i-7] + (down(w[i-15], 7, 18) ^ w[i-15]>>3) + w[i-16]
		}
		v := append([]uint32(nil), words...)
		for i := range w {
			one := v[7] + down(v[4], 6, 11, 25) + (v[4]&v[5] | ^v[4]&v[6]) + cubes[i] + w[i]
			two := down(v[0], 2, 13, 22) + (v[0]&v[1] | v[0]&v[2] | v[1]&v[2])
			v = append([]uint32{one + two}, v[:7]...)
			v[4] += one
		}
		for i := range words {
			words[i] += v[i]
		}
	}
	sum := ""
	for _, word := range words {
		sum += string([]byte{byte(word >> 24), byte(word >> 16), byte(word >> 8), byte(word)})
	}
	return sum
}

// P6.1: the words are those of the roots, the steps those of the standard.
func TestSumByHand(t *testing.T) {
	text := randomText(5, 200)
	for _, n := range []int{0, 1, 3, 54, 55, 56, 57, 63, 64, 65, 119, 120, 127, 128, 129, 200} {
		if got, want := sha.Sum(text[:n]), sumByHand(text[:n]); got != want {
			t.Errorf("Sum of %d bytes = %x, want %x", n, got, want)
		}
	}
}

// P6.1: any bytes may be handed in, those that are no runes, too; what is told has 32 bytes.
func TestSumOfAnyBytes(t *testing.T) {
	for _, s := range []string{"\x00", "\xff\xfe", "\xce", "é", "αβ", "\xed\xa0\x80", "a\x00", "a\x00\x00", "\x80", "\x80\x00", "A", "a"} {
		wantSum(t, s)
		if got := sha.Sum(s); len(got) != 32 {
			t.Errorf("Sum(%q) has %d bytes", s, len(got))
		}
	}
}

// P4: the same is told again, also to many at one time.
func TestSumAgain(t *testing.T) {
	text := randomText(6, 1000)
	want := sha.Sum(text)
	var told [8]string
	var all sync.WaitGroup
	for i := range told {
		all.Go(func() {
			for n := range 100 {
				sha.Sum(text[:n])
			}
			told[i] = sha.Sum(text)
		})
	}
	all.Wait()
	for _, got := range told {
		if got != want {
			t.Errorf("Sum = %x, then %x", want, got)
		}
	}
}

func wantNoParse(t *testing.T, text string) {
	t.Helper()
	if s, ok := sha.Parse(text); s != "" || ok {
		t.Errorf("Parse(%.40q) = %.40q, %v, want nothing", text, s, ok)
	}
}

// wantHex asks for Hex(s), and for s of it.
func wantHex(t *testing.T, s, want string) {
	t.Helper()
	if got := sha.Hex(s); got != want {
		t.Errorf("Hex(%q) = %s, want %s", s, got, want)
	}
	if got, ok := sha.Parse(want); got != s || !ok {
		t.Errorf("Parse(%s) = %q, %v, want %q", want, got, ok, s)
	}
}

// P6.2: bytes and digits by hand.
func TestHexByHand(t *testing.T) {
	for s, want := range map[string]string{
		"":                                 "",
		"ab":                               "6162",
		"\x00":                             "00",
		"\x00\x00":                         "0000",
		"\xff":                             "ff",
		"\x09\x90\x0a\xa0":                 "09900aa0",
		"\x01\x23\x45\x67\x89\xab\xcd\xef": "0123456789abcdef",
		"\xfe\xdc\xba\x98\x76\x54\x32\x10": "fedcba9876543210",
		"é":                                "c3a9",
		"\xff\xfe\x00\x1a":                 "fffe001a",
	} {
		wantHex(t, s, want)
	}
}

// P6.2, P6.3: each byte and each pair of them is shown in its own digits, and parsed.
func TestHexOfAllPairs(t *testing.T) {
	for n := range 1 << 16 {
		pair := string([]byte{byte(n >> 8), byte(n)})
		wantHex(t, pair, hex.EncodeToString([]byte(pair)))
		if n < 256 {
			wantHex(t, pair[1:], hex.EncodeToString([]byte(pair[1:])))
		}
	}
}

// P6.2, P6.3: of texts of any length, long ones and sums among them.
func TestHexOfLongTexts(t *testing.T) {
	text := randomText(7, 1<<20)
	for _, n := range []int{3, 31, 32, 33, 255, 256, 257, 4096, 65537, len(text)} {
		wantHex(t, text[:n], hex.EncodeToString([]byte(text[:n])))
	}
	for n := range 100 {
		sum := sha.Sum(text[:n])
		wantHex(t, sum, hex.EncodeToString([]byte(sum)))
	}
}

// isDigit tells whether b is one of the sixteen.
func isDigit(b byte) bool {
	return b >= '0' && b <= '9' || b >= 'a' && b <= 'f'
}

// P6.2: of all texts of one byte, and of two: only two digits are a byte's.
func TestParseOfAllShortTexts(t *testing.T) {
	wantNothing, told := 0, map[string]bool{}
	for n := range 1 << 16 {
		text := string([]byte{byte(n >> 8), byte(n)})
		wantNoParse(t, text[:1])
		if !isDigit(text[0]) || !isDigit(text[1]) {
			wantNoParse(t, text)
			wantNothing++
			continue
		}
		s, ok := sha.Parse(text)
		if len(s) != 1 || !ok || sha.Hex(s) != text || told[s] {
			t.Errorf("Parse(%s) = %q, %v", text, s, ok)
		}
		told[s] = true
	}
	if wantNothing != 1<<16-256 || len(told) != 256 {
		t.Errorf("%d texts are none, %d bytes are told", wantNothing, len(told))
	}
}

// P6.2: wrong texts by hand.
func TestParseWrongTexts(t *testing.T) {
	for _, text := range []string{
		"0", "a", "000", "00f", "6A", "A6", "FF", "0x", "0x00", "x0", "g0", "0g", "/0", "0/", ":0", "0:", "`0", "0`", "@0", " 00", "00 ", "0 0", " 0", "0 ",
		"00\n", "\n00", "0\n", "00\x00", "0\x00", "\x00\x00", "-1", "+1", "61 62", "61-62", "6162\n", "é", "αβ", "０", "\xff\xff", "0\xff", "??", "-", "ab\u0660",
	} {
		wantNoParse(t, text)
	}
	long := strings.Repeat("0a", 50000)
	for _, text := range []string{long + "0", long[1:], long + "0A", "0A" + long, long + " 0", long[:50000] + "G0" + long, strings.Repeat("A", 100000)} {
		wantNoParse(t, text)
	}
}

// P6.2: with any one digit of it turned into any other byte a text is shown for other bytes, or for none.
func TestParseTurnedBytes(t *testing.T) {
	was := sha.Sum("turned")
	text := []byte(sha.Hex(was))
	for at := range text {
		kept := text[at]
		for b := range 256 {
			text[at] = byte(b)
			if !isDigit(byte(b)) {
				wantNoParse(t, string(text))
				continue
			}
			s, ok := sha.Parse(string(text))
			if !ok || sha.Hex(s) != string(text) || (s == was) != (kept == byte(b)) {
				t.Errorf("Parse(%s) = %x, %v", text, s, ok)
			}
		}
		text[at] = kept
		wantNoParse(t, string(text[:at])+string(text[at+1:]))
	}
}

// P6.3: the sum of nothing, as bytes.
func TestSumOfNothing(t *testing.T) {
	want, ok := sha.Parse(strings.ReplaceAll(sumOfNothing, " ", ""))
	if got := sha.Sum(""); got != want || !ok || len(got) != 32 {
		t.Errorf("Sum of nothing = %x", got)
	}
}

// P1 to P6: at any argument a call ends, and tells what the library does.
func FuzzForms(f *testing.F) {
	f.Add("")
	f.Add("ab")
	f.Add("6162")
	f.Add("616")
	f.Add("6A")
	f.Add(strings.Repeat("0f", 60))
	f.Fuzz(func(t *testing.T, s string) {
		wantSum(t, s)
		wantHex(t, s, hex.EncodeToString([]byte(s)))
		told, ok := sha.Parse(s)
		if ok && sha.Hex(told) != s || !ok && told != "" {
			t.Errorf("Parse(%q) = %q, %v", s, told, ok)
		}
	})
}
