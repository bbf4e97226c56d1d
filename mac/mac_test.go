package mac_test

import (
	"crypto/hmac"
	"crypto/sha256"
	"encoding/binary"
	"encoding/hex"
	"math"
	"math/rand"
	"slices"
	"strings"
	"sync"
	"testing"

	"demesne/api"
	"demesne/mac"
	"demesne/sha"
)

// rights, until are Caveats of the two kinds.
func rights(n uint64) mac.Caveat { return mac.Caveat{Kind: mac.Rights, N: n} }

func until(n uint64) mac.Caveat { return mac.Caveat{Kind: mac.Until, N: n} }

func caveats(l ...mac.Caveat) []mac.Caveat { return l }

// same tells whether all fields of two tokens are the same; a list of nothing may be nil or empty.
func same(a, b mac.Token) bool {
	return a.Tenant == b.Tenant && slices.Equal(a.Caveats, b.Caveats) && a.Sig == b.Sig
}

// clone is a copy of t that shares no list with it.
func clone(t mac.Token) mac.Token {
	t.Caveats = slices.Clone(t.Caveats)
	return t
}

// narrowed is t narrowed by each of l, in order.
func narrowed(t mac.Token, l ...mac.Caveat) mac.Token {
	for _, c := range l {
		t = mac.Narrow(t, c)
	}
	return t
}

// randomText tells n bytes, the same ones of each seed.
func randomText(seed int64, n int) string {
	s := make([]byte, n)
	rand.New(rand.NewSource(seed)).Read(s)
	return string(s)
}

// libraryMAC is what the library signs.
func libraryMAC(key, s string) string {
	h := hmac.New(sha256.New, []byte(key))
	h.Write([]byte(s))
	return string(h.Sum(nil))
}

func wantSign(t *testing.T, key, s string) {
	t.Helper()
	if got, want := mac.Sign(key, s), libraryMAC(key, s); got != want {
		t.Errorf("Sign(%d bytes %.20x.., %d bytes %.20x..) = %x, want %x", len(key), key, len(s), s, got, want)
	}
}

// P7.1: what RFC 4231 signs.
func TestSignThatIsKnown(t *testing.T) {
	for _, c := range []struct{ key, s, want string }{
		{strings.Repeat("\x0b", 20), "Hi There", "b0344c61d8db38535ca8afceaf0bf12b881dc200c9833da726e9376c2e32cff7"},
		{"Jefe", "what do ya want for nothing?", "5bdcc146bf60754e6a042426089575c75a003f089d2739839dec58b964ec3843"},
		{strings.Repeat("\xaa", 20), strings.Repeat("\xdd", 50), "773ea91e36800e46854db8ebd09181a72959098b3ef8c122d9635514ced565fe"},
		{
			"\x01\x02\x03\x04\x05\x06\x07\x08\x09\x0a\x0b\x0c\x0d\x0e\x0f\x10\x11\x12\x13\x14\x15\x16\x17\x18\x19",
			strings.Repeat("\xcd", 50), "82558a389a443c0ea4cc819899f2083a85f0faa3e578f8077a2e3ff46729665b",
		},
		{strings.Repeat("\xaa", 131), "Test Using Larger Than Block-Size Key - Hash Key First", "60e431591ee0b67f0d8a26aacbf5b77f8e0bc6213728c5140546040f0ee37f54"},
		{
			strings.Repeat("\xaa", 131),
			"This is a test using a larger than block-size key and a larger than block-size data. The key needs to be hashed before being used by the HMAC algorithm.",
			"9b09ffa71b942fcb27635fbcd5b0e944bfdc63644f0713938a7f51535c3a35e2",
		},
		{"", "", "b613679a0814d9ec772f95d778c35fc5ff1697c493715653c6c712144292c5ad"},
	} {
		if got := hex.EncodeToString([]byte(mac.Sign(c.key, c.s))); got != c.want {
			t.Errorf("Sign(%.20q, %.20q) = %s, want %s", c.key, c.s, got, c.want)
		}
	}
}

// P7.1: keys of each length around a block, and texts of each length around one.
func TestSignOfEachLength(t *testing.T) {
	key, s := randomText(1, 300), randomText(2, 300)
	for n := range len(key) + 1 {
		wantSign(t, key[:n], s[:20])
		wantSign(t, key[:n], s[:n])
		wantSign(t, key[:20], s[:n])
		wantSign(t, key[:64], s[:n])
		wantSign(t, key[:65], s[:n])
		wantSign(t, key[n:], "")
		wantSign(t, "", s[n:])
	}
	for _, n := range []int{1 << 10, 1<<16 - 1, 1 << 16, 1 << 20} {
		long := randomText(3, n)
		wantSign(t, long, s)
		wantSign(t, key, long)
		wantSign(t, long, long)
	}
}

// P7.1: any bytes may be a key, or be signed.
func TestSignOfAnyBytes(t *testing.T) {
	texts := []string{"", "\x00", "\xff\xfe", "\xce", "é", "αβ", "\xed\xa0\x80", "a\x00", "a", "A", "\x36", "\x5c", strings.Repeat("\x36", 64), strings.Repeat("\x5c", 64), strings.Repeat("\x36", 65)}
	for _, key := range texts {
		for _, s := range texts {
			wantSign(t, key, s)
			if got := mac.Sign(key, s); len(got) != 32 {
				t.Errorf("Sign(%q, %q) has %d bytes", key, s, len(got))
			}
		}
	}
}

// signByHand adds what the chapter says, byte by byte.
func signByHand(key, s string) string {
	if len(key) > 64 {
		key = sha.Sum(key)
	}
	for len(key) < 64 {
		key += "\x00"
	}
	var outer, inner []byte
	for i := range len(key) {
		outer, inner = append(outer, key[i]^0x5c), append(inner, key[i]^0x36)
	}
	return sha.Sum(string(outer) + sha.Sum(string(inner)+s))
}

// P7.1: noughts behind a key that fits into a block are nothing to it, and a longer one is its Sum.
func TestSignOfKeysThatAreTheSame(t *testing.T) {
	key := randomText(4, 100)
	for n := range len(key) + 1 {
		if got, want := mac.Sign(key[:n], "s"), signByHand(key[:n], "s"); got != want {
			t.Errorf("Sign by %d bytes = %x, want %x", n, got, want)
		}
		if n < 64 && mac.Sign(key[:n], "s") != mac.Sign(key[:n]+strings.Repeat("\x00", 64-n), "s") {
			t.Errorf("a key of %d bytes is another one with noughts behind", n)
		}
		if n > 64 && mac.Sign(key[:n], "s") != mac.Sign(sha.Sum(key[:n]), "s") {
			t.Errorf("a key of %d bytes is not its Sum", n)
		}
	}
	for _, n := range []int{64, 65} {
		if mac.Sign(key[:n], "s") == mac.Sign(key[:n]+"\x00", "s") {
			t.Errorf("a key of %d bytes is the same with a nought behind", n)
		}
	}
}

// P7.1: what is signed by another key, or is another text, is signed otherwise.
func TestSignOfTurnedBits(t *testing.T) {
	key, s := []byte(randomText(5, 64)), []byte(randomText(6, 80))
	seen := map[string]bool{mac.Sign(string(key), string(s)): true}
	for _, bytes := range [][]byte{key, s} {
		for bit := range 8 * len(bytes) {
			bytes[bit/8] ^= 1 << (bit % 8)
			wantSign(t, string(key), string(s))
			seen[mac.Sign(string(key), string(s))] = true
			bytes[bit/8] ^= 1 << (bit % 8)
		}
	}
	if want := 1 + 8*(len(key)+len(s)); len(seen) != want {
		t.Errorf("%d of %d are told", len(seen), want)
	}
}

// anyTexts are texts that may be tenants' names, and that are none.
var anyTexts = []string{
	"a", "αβγ", "a-0", strings.Repeat("я", api.MaxName), "", "A", "-", "a/b", "0", " ", "\x00", "\xff", "a\x00", "\x01\x03",
	strings.Repeat("a", api.MaxName+1), strings.Repeat("a", 1000),
}

// P7.2: a new token has that Tenant, whatever it is, no Caveats, and the Tenant signed.
func TestNew(t *testing.T) {
	for _, key := range []string{"", "key", randomText(7, 64), randomText(8, 65)} {
		for _, tenant := range anyTexts {
			got := mac.New(key, tenant)
			if want := (mac.Token{Tenant: tenant, Sig: libraryMAC(key, tenant)}); !same(got, want) {
				t.Errorf("New(%q, %q) = %#v, want %#v", key, tenant, got, want)
			}
			if !mac.Check(key, got) || mac.Check(key+"x", got) {
				t.Errorf("New(%q, %q) is not right, or is so by another key", key, tenant)
			}
		}
	}
}

// P7.2: the Sig of a narrowed token, by hand.
func TestNarrowByHand(t *testing.T) {
	a := mac.New("key", "a")
	for _, c := range []struct {
		c    mac.Caveat
		form string
	}{
		{rights(3), "\x01\x03"},
		{rights(0), "\x01\x00"},
		{until(300), "\x02\xac\x02"},
		{until(math.MaxUint64), "\x02" + strings.Repeat("\xff", 9) + "\x01"},
		{mac.Caveat{}, "\x00\x00"},
		{mac.Caveat{Kind: 3, N: 128}, "\x03\x80\x01"},
		{mac.Caveat{Kind: 127}, "\x7f\x00"},
		{mac.Caveat{Kind: 128}, "\x80\x01\x00"},
		{mac.Caveat{Kind: -1, N: 1}, strings.Repeat("\xff", 9) + "\x01\x01"},
		{mac.Caveat{Kind: -2}, "\xfe" + strings.Repeat("\xff", 8) + "\x01\x00"},
		{mac.Caveat{Kind: math.MinInt}, strings.Repeat("\x80", 9) + "\x01\x00"},
		{mac.Caveat{Kind: math.MaxInt, N: 127}, strings.Repeat("\xff", 8) + "\x7f\x7f"},
	} {
		want := mac.Token{Tenant: "a", Caveats: caveats(c.c), Sig: libraryMAC(a.Sig, c.form)}
		if got := mac.Narrow(a, c.c); !same(got, want) {
			t.Errorf("Narrow(a, %#v) = %#v, want %#v", c.c, got, want)
		}
		want = mac.Token{Tenant: "a", Caveats: caveats(until(7), c.c), Sig: libraryMAC(libraryMAC(a.Sig, "\x02\x07"), c.form)}
		if got := narrowed(a, until(7), c.c); !same(got, want) {
			t.Errorf("narrowed also by %#v: %#v, want %#v", c.c, got, want)
		}
	}
}

// P7.2: Narrow takes any token: one of too many Caveats, of strange ones, with any Sig.
func TestNarrowOfAnyToken(t *testing.T) {
	for _, sig := range []string{"", "s", strings.Repeat("s", 32), strings.Repeat("s", 64), strings.Repeat("s", 65), strings.Repeat("s", 1000)} {
		for _, tenant := range anyTexts {
			for _, n := range []int{0, 1, api.MaxCaveats - 1, api.MaxCaveats, api.MaxCaveats + 1, 1000} {
				was := mac.Token{Tenant: tenant, Caveats: slices.Repeat(caveats(mac.Caveat{Kind: 9, N: 9}), n), Sig: sig}
				want := mac.Token{Tenant: tenant, Caveats: append(slices.Clone(was.Caveats), rights(1)), Sig: libraryMAC(sig, "\x01\x01")}
				if got := mac.Narrow(was, rights(1)); !same(got, want) {
					t.Errorf("Narrow of %d Caveats, Tenant %q, Sig %q = %#v", n, tenant, sig, got)
				}
			}
		}
	}
}

// checkByHand asks what the chapter asks.
func checkByHand(key string, t mac.Token) bool {
	sig := libraryMAC(key, t.Tenant)
	for _, c := range t.Caveats {
		if c.Kind != 1 && c.Kind != 2 {
			return false
		}
		form := binary.AppendUvarint(binary.AppendUvarint(nil, uint64(c.Kind)), c.N)
		sig = libraryMAC(sig, string(form))
	}
	return len(t.Caveats) <= 8 && sig == t.Sig
}

func wantCheck(t *testing.T, key string, token mac.Token, want bool) {
	t.Helper()
	if got := mac.Check(key, token); got != want || checkByHand(key, token) != want {
		t.Errorf("Check(%q, %#v) = %v, want %v", key, token, got, want)
	}
}

// chains are caveats by which a token may be narrowed and stay right.
func chains() [][]mac.Caveat {
	all := [][]mac.Caveat{
		nil,
		{},
		{rights(3)},
		{rights(0)},
		{until(300)},
		{until(0)},
		{rights(math.MaxUint64), until(math.MaxUint64)},
		{rights(3), until(300)},
		{until(300), rights(3)},
		{rights(7), rights(6), rights(2)},
		{until(5), until(9), until(5)},
		{rights(1), rights(1)},
		{rights(1 << 63), until(1 << 63), rights(127), until(128), rights(16384), until(1 << 32)},
	}
	for n := range api.MaxCaveats + 1 {
		all = append(all, slices.Repeat(caveats(rights(1)), n), slices.Repeat(caveats(until(math.MaxUint64)), n))
	}
	return all
}

// strange are Caveats of no kind that is right.
func strange() []mac.Caveat {
	var all []mac.Caveat
	for _, kind := range []int{0, 3, 4, 127, 128, 255, 257, 258, 1<<32 + 1, 1<<32 + 2, -1, -2, -255, math.MinInt, math.MinInt + 1, math.MinInt + 2, math.MaxInt} {
		all = append(all, mac.Caveat{Kind: kind}, mac.Caveat{Kind: kind, N: 1}, mac.Caveat{Kind: kind, N: math.MaxUint64})
	}
	return all
}

// P7.2, P7.5: what was narrowed at most MaxCaveats times is right; by that key alone.
func TestCheckOfChains(t *testing.T) {
	for _, key := range []string{"", "key", randomText(9, 64), randomText(10, 65)} {
		for _, tenant := range anyTexts {
			for _, chain := range chains() {
				token := narrowed(mac.New(key, tenant), chain...)
				wantCheck(t, key, token, true)
				wantCheck(t, key+"k", token, false)
				wantCheck(t, "other", token, false)
			}
		}
	}
}

// P7.2: one Caveat more than may be makes a token wrong, however rightly it was narrowed.
func TestCheckOfTooManyCaveats(t *testing.T) {
	token := mac.New("key", "a")
	for n := range 3 * api.MaxCaveats {
		wantCheck(t, "key", token, n <= api.MaxCaveats)
		token = mac.Narrow(token, caveats(rights(1), until(uint64(n)))[n%2])
	}
	wantCheck(t, "key", narrowed(token, slices.Repeat(caveats(rights(1)), 1000)...), false)
}

// P7.2: so does one of a strange Kind, wherever it stands.
func TestCheckOfStrangeCaveats(t *testing.T) {
	for _, c := range strange() {
		for n := range api.MaxCaveats {
			for at := range n + 1 {
				wantCheck(t, "key", narrowed(mac.New("key", "a"), slices.Insert(slices.Repeat(caveats(rights(1)), n), at, c)...), false)
			}
		}
	}
}

// P7.2: a token of which one thing is turned is wrong.
func TestCheckOfTurnedTokens(t *testing.T) {
	for _, chain := range chains() {
		token := narrowed(mac.New("key", "ab"), chain...)
		sig := []byte(token.Sig)
		for bit := range 8 * len(sig) {
			sig[bit/8] ^= 1 << (bit % 8)
			wantCheck(t, "key", mac.Token{Tenant: "ab", Caveats: token.Caveats, Sig: string(sig)}, false)
			sig[bit/8] ^= 1 << (bit % 8)
		}
		for _, other := range []string{"", token.Sig[1:], token.Sig[:31], token.Sig + "\x00", "\x00" + token.Sig, token.Sig + token.Sig, hex.EncodeToString(sig)} {
			wantCheck(t, "key", mac.Token{Tenant: "ab", Caveats: token.Caveats, Sig: other}, false)
		}
		for _, other := range []string{"", "a", "b", "abc", "ba", "AB", "ab\x00", "ab\x01\x03"} {
			wantCheck(t, "key", mac.Token{Tenant: other, Caveats: token.Caveats, Sig: token.Sig}, false)
		}
		for i, c := range token.Caveats {
			for bit := range 64 {
				turned := clone(token)
				turned.Caveats[i].N ^= 1 << bit
				wantCheck(t, "key", turned, false)
				turned = clone(token)
				turned.Caveats[i].Kind ^= 1 << bit
				wantCheck(t, "key", turned, false)
			}
			turned := clone(token)
			turned.Caveats[i].Kind = mac.Rights + mac.Until - c.Kind
			wantCheck(t, "key", turned, false)
		}
	}
}

// P7.2: caveats can't be left out, put in, or change places.
func TestCheckOfOtherCaveats(t *testing.T) {
	for _, chain := range chains() {
		token := narrowed(mac.New("key", "a"), chain...)
		for i := range chain {
			without := slices.Delete(slices.Clone(chain), i, i+1)
			wantCheck(t, "key", mac.Token{Tenant: "a", Caveats: without, Sig: token.Sig}, false)
			for j := range i {
				swapped := slices.Clone(chain)
				swapped[i], swapped[j] = swapped[j], swapped[i]
				wantCheck(t, "key", mac.Token{Tenant: "a", Caveats: swapped, Sig: token.Sig}, chain[i] == chain[j])
			}
		}
		for at := range len(chain) + 1 {
			for _, c := range append(strange(), rights(1), rights(math.MaxUint64), until(math.MaxUint64)) {
				with := slices.Insert(slices.Clone(chain), at, c)
				wantCheck(t, "key", mac.Token{Tenant: "a", Caveats: with, Sig: token.Sig}, false)
			}
		}
		for _, other := range chains() {
			wantCheck(t, "key", mac.Token{Tenant: "a", Caveats: other, Sig: token.Sig}, slices.Equal(other, chain))
		}
	}
}

// P7.2: of nothing, and of a key that is a Sig: who holds a token is not who holds the key.
func TestCheckOfForgedTokens(t *testing.T) {
	a := mac.New("key", "a")
	for _, key := range []string{"", "key"} {
		wantCheck(t, key, mac.Token{}, false)
		wantCheck(t, key, mac.Token{Tenant: "a"}, false)
		wantCheck(t, key, mac.Token{Tenant: "a", Sig: "key"}, false)
		wantCheck(t, key, mac.Token{Tenant: "a", Sig: strings.Repeat("\x00", 32)}, false)
		wantCheck(t, key, mac.New(a.Sig, "a"), false)
		wantCheck(t, key, mac.New("a", "key"), false)
		wantCheck(t, key, mac.Token{Tenant: "a", Caveats: caveats(rights(3)), Sig: libraryMAC("key", "a\x01\x03")}, false)
		wantCheck(t, key, mac.Token{Tenant: "a", Caveats: caveats(rights(3)), Sig: libraryMAC("key", "\x01\x03")}, false)
	}
	wantCheck(t, a.Sig, mac.New(a.Sig, "\x01\x03"), true)
}

// allowsByHand asks bit by bit what the chapter asks.
func allowsByHand(t mac.Token, right, round uint64) bool {
	for _, c := range t.Caveats {
		for bit := range 64 {
			if c.Kind == 1 && right>>bit&1 == 1 && c.N>>bit&1 == 0 {
				return false
			}
		}
		if c.Kind == 2 && round > c.N {
			return false
		}
	}
	return true
}

// numbers are numbers at the edges.
var numbers = []uint64{0, 1, 2, 3, 4, 5, 6, 7, 8, 127, 128, 255, 256, 299, 300, 301, 1<<31 - 1, 1 << 31, 1 << 32, 1<<63 - 1, 1 << 63, 1<<63 + 1, math.MaxUint64 - 1, math.MaxUint64}

// P7.3: by hand.
func TestAllowsByHand(t *testing.T) {
	for _, c := range []struct {
		l            []mac.Caveat
		right, round uint64
		want         bool
	}{
		{caveats(rights(2)), 1, 0, false}, // the chapter's example
		{nil, 0, 0, true},
		{nil, math.MaxUint64, math.MaxUint64, true},
		{caveats(rights(2)), 2, math.MaxUint64, true},
		{caveats(rights(2)), 3, 0, false},
		{caveats(rights(3)), 2, 0, true},
		{caveats(rights(0)), 0, 0, true},
		{caveats(rights(0)), 1, 0, false},
		{caveats(rights(4)), 3, 0, false},
		{caveats(rights(1 << 63)), 1 << 63, 0, true},
		{caveats(rights(1<<63 - 1)), 1 << 63, 0, false},
		{caveats(until(300)), math.MaxUint64, 300, true},
		{caveats(until(300)), 0, 301, false},
		{caveats(until(300)), 0, 0, true},
		{caveats(until(0)), 1, 0, true},
		{caveats(until(0)), 1, 1, false},
		{caveats(until(1 << 63)), 1, 1<<63 - 1, true},
		{caveats(until(1<<63 - 1)), 1, 1 << 63, false},
		{caveats(until(math.MaxUint64)), 1, math.MaxUint64, true},
		{caveats(rights(3), until(5)), 2, 5, true},
		{caveats(rights(3), until(5)), 4, 5, false},
		{caveats(rights(3), until(5)), 2, 6, false},
		{caveats(until(5), rights(3)), 4, 5, false},
		{caveats(until(5), rights(3)), 2, 6, false},
		{caveats(rights(1), rights(2)), 1, 0, false},
		{caveats(rights(1), rights(2)), 2, 0, false},
		{caveats(rights(1), rights(2)), 3, 0, false},
		{caveats(rights(1), rights(2)), 0, 0, true},
		{caveats(rights(7), rights(3), rights(6)), 2, 0, true},
		{caveats(until(9), until(5), until(7)), 0, 5, true},
		{caveats(until(9), until(5), until(7)), 0, 6, false},
		{caveats(until(5), until(9)), 0, 6, false},
	} {
		if got := mac.Allows(mac.Token{Caveats: c.l}, c.right, c.round); got != c.want {
			t.Errorf("Allows(%v, %d, %d) = %v", c.l, c.right, c.round, got)
		}
	}
}

// P7.3: of all numbers at the edges, of one Caveat and of two.
func TestAllowsOfEdges(t *testing.T) {
	var all []mac.Caveat
	for _, n := range numbers {
		all = append(all, rights(n), until(n))
	}
	for _, a := range all {
		for _, b := range all {
			for _, u := range numbers {
				for _, v := range []uint64{0, u, ^u, 300} {
					token := mac.Token{Caveats: caveats(a, b)}
					if got, want := mac.Allows(token, u, v), allowsByHand(token, u, v); got != want {
						t.Errorf("Allows(%v, %d, %d) = %v", token.Caveats, u, v, got)
					}
				}
			}
		}
	}
}

// P7.3: only Caveats are asked: neither those of a strange Kind, nor how many they are, nor Tenant or Sig.
func TestAllowsOfAnyToken(t *testing.T) {
	for _, u := range numbers {
		for _, c := range strange() {
			if !mac.Allows(mac.Token{Caveats: caveats(c)}, u, u) || mac.Allows(mac.Token{Caveats: caveats(c, rights(0), c)}, u|1, 0) || mac.Allows(mac.Token{Caveats: caveats(c, until(0))}, 0, u|1) {
				t.Errorf("Allows asks %v for %d", c, u)
			}
		}
	}
	for _, n := range []int{api.MaxCaveats, api.MaxCaveats + 1, 1000} {
		many := slices.Repeat(caveats(rights(3), until(5)), n)
		for _, last := range []mac.Caveat{rights(2), until(4)} {
			token := mac.Token{Tenant: "A", Caveats: append(many, last), Sig: "s"}
			if !mac.Allows(token, 2, 4) || mac.Allows(token, 1, 5) || mac.Allows(token, 4, 0) || mac.Allows(token, 0, 6) {
				t.Errorf("Allows of %d Caveats", n)
			}
		}
	}
}

// P7.5: a token that is narrowed is right, and allows no more: just what it did, and the new Caveat lets.
func TestNarrowedAllowsNoMore(t *testing.T) {
	random := rand.New(rand.NewSource(11))
	pick := func() uint64 {
		if random.Intn(3) == 0 {
			return random.Uint64()
		}
		return numbers[random.Intn(len(numbers))]
	}
	for range 300 {
		key, tenant := randomText(random.Int63(), random.Intn(80)), anyTexts[random.Intn(len(anyTexts))]
		token := mac.New(key, tenant)
		for range api.MaxCaveats {
			c := mac.Caveat{Kind: 1 + random.Intn(2), N: pick()}
			next := mac.Narrow(token, c)
			wantCheck(t, key, next, true)
			for range 50 {
				right, round := pick(), pick()
				want := mac.Allows(token, right, round) && allowsByHand(mac.Token{Caveats: caveats(c)}, right, round)
				if got := mac.Allows(next, right, round); got != want {
					t.Errorf("Allows(%v, %d, %d) = %v", next.Caveats, right, round, got)
				}
			}
			token = next
		}
	}
}

var sig = randomText(12, 32)

// samples are tokens that have a form.
func samples() []mac.Token {
	var all []mac.Token
	for _, tenant := range []string{"a", "z", "α", "ω", "я", "a-0", "abc", strings.Repeat("a", api.MaxName), strings.Repeat("я", api.MaxName)} {
		for _, chain := range chains() {
			all = append(all, mac.Token{Tenant: tenant, Caveats: chain, Sig: sig})
		}
	}
	for _, other := range []string{strings.Repeat("\x00", 32), strings.Repeat("\xff", 32), strings.Repeat("s", 32), strings.Repeat("α", 16)} {
		all = append(all, mac.Token{Tenant: "a", Sig: other}, mac.Token{Tenant: "a", Caveats: caveats(rights(3), until(300)), Sig: other})
	}
	return append(all, mac.New("key", "a"), narrowed(mac.New("key", "a"), rights(3), until(300)))
}

// wrongs are tokens that have none.
func wrongs() []mac.Token {
	all := []mac.Token{{}, {Tenant: "a"}, {Sig: sig}, {Caveats: caveats(rights(1))}}
	for _, tenant := range []string{
		"", " ", "A", "0", "9a", "-", "-a", "a b", "a ", " a", "a=", "a/b", "/", "a/", "aB", "a\x00", "é", "a\xff", "\xce", "\xc1\xa1", "€",
		strings.Repeat("a", api.MaxName+1), strings.Repeat("я", api.MaxName+1), strings.Repeat("a", 2*api.MaxName), strings.Repeat("a", 1000),
	} {
		all = append(all, mac.Token{Tenant: tenant, Sig: sig}, mac.Token{Tenant: tenant, Caveats: caveats(rights(1)), Sig: sig})
	}
	for _, n := range []int{api.MaxCaveats + 1, 2 * api.MaxCaveats, 127, 128, 256, 1000} {
		all = append(all, mac.Token{Tenant: "a", Caveats: slices.Repeat(caveats(rights(1)), n), Sig: sig})
	}
	for _, c := range strange() {
		for at := range 3 {
			all = append(all, mac.Token{Tenant: "a", Caveats: slices.Insert(caveats(rights(3), until(300)), at, c), Sig: sig})
		}
		all = append(all, mac.Token{Tenant: "a", Caveats: caveats(c), Sig: sig}, mac.Token{Tenant: "a", Caveats: append(slices.Repeat(caveats(until(1)), api.MaxCaveats-1), c), Sig: sig})
	}
	for _, other := range []string{"", "s", sig[1:], sig[:31], sig + "s", sig + sig, strings.Repeat("α", 32)} {
		all = append(all, mac.Token{Tenant: "a", Sig: other}, mac.Token{Tenant: "a", Caveats: caveats(rights(3)), Sig: other})
	}
	return all
}

// putByHand puts what the chapter says, of whatever token.
func putByHand(t mac.Token) string {
	form := append(binary.AppendUvarint(nil, uint64(len(t.Tenant))), t.Tenant...)
	form = binary.AppendUvarint(form, uint64(len(t.Caveats)))
	for _, c := range t.Caveats {
		form = binary.AppendUvarint(binary.AppendUvarint(form, uint64(c.Kind)), c.N)
	}
	return string(form) + t.Sig
}

// P7.4: the forms; none of what has none.
func TestPut(t *testing.T) {
	for _, c := range []struct {
		token mac.Token
		want  string
	}{
		{mac.Token{Tenant: "a", Sig: sig}, "\x01a\x00" + sig},
		{mac.Token{Tenant: "a", Caveats: caveats(), Sig: sig}, "\x01a\x00" + sig},
		{mac.Token{Tenant: "α", Caveats: caveats(rights(300), until(0)), Sig: sig}, "\x02α\x02\x01\xac\x02\x02\x00" + sig},
		{mac.Token{Tenant: "ab", Caveats: caveats(until(math.MaxUint64)), Sig: sig}, "\x02ab\x01\x02" + strings.Repeat("\xff", 9) + "\x01" + sig},
		{mac.Token{Tenant: strings.Repeat("я", 16), Caveats: slices.Repeat(caveats(rights(7)), 8), Sig: sig}, "\x20" + strings.Repeat("я", 16) + "\x08" + strings.Repeat("\x01\x07", 8) + sig},
	} {
		if got := mac.Put(c.token); got != c.want {
			t.Errorf("Put(%#v) = %x, want %x", c.token, got, c.want)
		}
	}
	for _, token := range samples() {
		if got, want := mac.Put(token), putByHand(token); got != want {
			t.Errorf("Put(%#v) = %x, want %x", token, got, want)
		}
	}
	for _, token := range wrongs() {
		if got := mac.Put(token); got != "" {
			t.Errorf("Put(%#v) = %x, want nothing", token, got)
		}
	}
}

func wantNoToken(t *testing.T, s string, at int) {
	t.Helper()
	if token, next, ok := mac.Get(s, at); !same(token, mac.Token{}) || next != 0 || ok {
		t.Errorf("Get(%x, %d) = %#v, %d, %v, want nothing", s, at, token, next, ok)
	}
}

// P7.4: what is put is got, wherever it stands and whatever stands around it; what is cut off is not.
func TestGetWhatWasPut(t *testing.T) {
	for _, token := range samples() {
		form := mac.Put(token)
		for _, ahead := range []string{"", "z", "\x80\x80", "\x01a\x00" + sig} {
			for _, behind := range []string{"", "z", "\xff\xff", "\x01a\x00" + sig} {
				got, next, ok := mac.Get(ahead+form+behind, len(ahead))
				if !same(got, token) || next != len(ahead)+len(form) || !ok {
					t.Errorf("Get of %#v between %x and %x = %#v, %d, %v", token, ahead, behind, got, next, ok)
				}
			}
			for cut := range len(form) {
				wantNoToken(t, ahead+form[:cut], len(ahead))
			}
		}
	}
}

// P7.4: what is put behind one another is got one by one.
func TestGetOneByOne(t *testing.T) {
	all, at := "", 0
	for _, token := range samples() {
		all += mac.Put(token)
	}
	for _, token := range samples() {
		got, next, ok := mac.Get(all, at)
		if !same(got, token) || !ok {
			t.Fatalf("Get at %d = %#v, %v, want %#v", at, got, ok, token)
		}
		at = next
	}
	if at != len(all) {
		t.Errorf("%d bytes are left", len(all)-at)
	}
}

// P7.4: a place outside the text has no token.
func TestGetPlaces(t *testing.T) {
	for _, s := range []string{"", "\x00", "\x01a\x00" + sig, sig} {
		for _, at := range []int{math.MinInt, -len(s) - 1, -1, len(s), len(s) + 1, 1 << 62, math.MaxInt} {
			wantNoToken(t, s, at)
		}
	}
	form := mac.Put(mac.Token{Tenant: "ab", Caveats: caveats(rights(3)), Sig: strings.Repeat("S", 32)})
	for at := 1; at < len(form); at++ {
		wantNoToken(t, form, at)
	}
}

// P7.4: what would be put of a token that has no form is not got.
func TestGetOfWrongTokens(t *testing.T) {
	for _, token := range wrongs() {
		if len(token.Sig) > 32 {
			continue // its form begins with that of a shorter Sig
		}
		form := putByHand(token)
		wantNoToken(t, form, 0)
		wantNoToken(t, "z"+form, 1)
		if len(token.Sig) == 32 {
			wantNoToken(t, form+sig, 0)
		}
	}
}

// wrongNumbers are not the only form of a number, or of one past all limits.
var wrongNumbers = []string{
	"\x80", "\x80\x00", "\x81\x00", "\x82\x80\x00", "\x09", "\x7f", "\x80\x01", "\x81\x02", "\xff\x7f", "\x81\x80\x80\x80\x10", "\x82\x80\x80\x80\x10",
	strings.Repeat("\xff", 9) + "\x01", strings.Repeat("\x80", 9) + "\x01", "\x81" + strings.Repeat("\x80", 8) + "\x01",
	strings.Repeat("\xff", 9) + "\x02", strings.Repeat("\x80", 10) + "\x01",
}

// P7.4: a wrong length of the Tenant, count, or Kind makes all of it none.
func TestGetWrongNumbers(t *testing.T) {
	for _, bad := range wrongNumbers {
		behind := strings.Repeat("\x01\x02", 200) + sig
		wantNoToken(t, bad+"aaaaaaaa\x00"+sig, 0)
		wantNoToken(t, bad+behind, 0)
		wantNoToken(t, "\x01a"+bad+behind, 0)
		wantNoToken(t, "\x01a"+bad+sig, 0)
		wantNoToken(t, "\x01a\x01"+bad+"\x00"+sig, 0)
		wantNoToken(t, "\x01a\x02\x01\x00"+bad+"\x00"+sig, 0)
		wantNoToken(t, "\x01a\x02"+bad+"\x00\x02\x00"+sig, 0)
	}
	for _, bad := range []string{"\x80\x00", "\x81\x80\x00", strings.Repeat("\xff", 9) + "\x02", strings.Repeat("\x80", 10) + "\x01"} {
		wantNoToken(t, "\x01a\x01\x01"+bad+sig, 0)
		wantNoToken(t, "\x01a\x02\x02\x00\x01"+bad+sig, 0)
	}
	for count := range 256 {
		form := "\x01a" + string([]byte{byte(count)}) + strings.Repeat("\x01\x02", 300)
		got, next, ok := mac.Get(form, 0)
		want := mac.Token{Tenant: "a", Caveats: slices.Repeat(caveats(rights(2)), count), Sig: strings.Repeat("\x01\x02", 16)}
		if right := count <= api.MaxCaveats; ok != right || right && (next != 35+2*count || !same(got, want)) {
			t.Errorf("Get of %d Caveats = %#v, %d, %v", count, got, next, ok)
		}
	}
	for kind := range 256 {
		got, next, ok := mac.Get("\x01a\x01"+string([]byte{byte(kind)})+"\x05"+sig, 0)
		want := mac.Token{Tenant: "a", Caveats: caveats(mac.Caveat{Kind: kind, N: 5}), Sig: sig}
		if right := kind == mac.Rights || kind == mac.Until; ok != right || right && (next != 37 || !same(got, want)) {
			t.Errorf("Get of the Kind %d = %#v, %d, %v", kind, got, next, ok)
		}
	}
}

// getByHand looks for the token that s begins with by the library's numbers.
func getByHand(s string) (token mac.Token, taken int, ok bool) {
	ok = true
	number := func() uint64 {
		u, size := binary.Uvarint([]byte(s[taken:]))
		if size <= 0 || size != len(binary.AppendUvarint(nil, u)) {
			ok = false
			return 0
		}
		taken += size
		return u
	}
	text := func(size uint64) string {
		if !ok || size > uint64(len(s)-taken) {
			ok = false
			return ""
		}
		taken += int(size)
		return s[taken-int(size) : taken]
	}
	token.Tenant = text(number())
	for count := number(); ok && count > 0; count-- {
		token.Caveats = append(token.Caveats, mac.Caveat{Kind: int(number()), N: number()})
	}
	token.Sig = text(32)
	if !ok || mac.Put(token) != s[:taken] {
		return mac.Token{}, 0, false
	}
	return token, taken, true
}

func wantGet(t *testing.T, s string) {
	t.Helper()
	want, wantNext, wantOK := getByHand(s)
	if got, next, ok := mac.Get(s, 0); !same(got, want) || next != wantNext || ok != wantOK {
		t.Errorf("Get(%x, 0) = %#v, %d, %v, want %#v, %d, %v", s, got, next, ok, want, wantNext, wantOK)
	}
}

// P7.4: of each form with any one byte ahead of the Sig, or the Sig's first one, turned into any other one.
func TestGetTurnedBytes(t *testing.T) {
	for _, token := range samples() {
		form := []byte(mac.Put(token))
		for at := range len(form) - len(token.Sig) + 1 {
			was := form[at]
			for b := range 256 {
				form[at] = byte(b)
				wantGet(t, string(form))
			}
			form[at] = was
		}
	}
}

// P7.4: of all short texts of the bytes that forms are made of, with a Sig behind them.
func TestGetOfAllShortTexts(t *testing.T) {
	right := 0
	var grow func(s string, left int)
	grow = func(s string, left int) {
		wantGet(t, s)
		wantGet(t, s+sig)
		if _, _, ok := mac.Get(s+sig, 0); ok {
			right++
		}
		for _, b := range []string{"\x00", "\x01", "\x02", "\x03", "a", "A", "\x80"} {
			if left > 0 {
				grow(s+b, left-1)
			}
		}
	}
	grow("", 6)
	if right < 100 {
		t.Errorf("only %d texts were right", right)
	}
}

// P7.4, P7.5: who asks with a token sends its form: it is as right, and allows the same, when it is got.
func TestCheckOfWhatIsGot(t *testing.T) {
	for _, chain := range chains() {
		token := narrowed(mac.New("key", "a"), chain...)
		got, _, ok := mac.Get(mac.Put(token), 0)
		if !ok || !same(got, token) {
			t.Errorf("Get of Put(%#v) = %#v, %v", token, got, ok)
		}
		wantCheck(t, "key", got, true)
		wantCheck(t, "key", mac.Narrow(got, rights(1)), len(chain) < api.MaxCaveats)
	}
}

// P3: what is handed in, and what stands behind it in its array, stays as it is.
func TestNothingIsWrittenInto(t *testing.T) {
	for _, token := range append(samples(), wrongs()...) {
		room := append(slices.Clone(token.Caveats), rights(77), until(88))
		was := slices.Clone(room)
		in := token
		in.Caveats = room[:len(token.Caveats)]
		mac.Check("key", in)
		mac.Allows(in, 1, 1)
		mac.Put(in)
		mac.Narrow(in, rights(99))
		if !slices.Equal(room, was) || !same(in, token) {
			t.Errorf("%#v became %#v, with %v behind", token, in, room)
		}
	}
}

// P3: two tokens that are made of one don't share their lists; nor do two that are got.
func TestAnswersAreNew(t *testing.T) {
	for n := range 2 * api.MaxCaveats {
		token := narrowed(mac.New("key", "a"), slices.Repeat(caveats(rights(1)), n)...)
		was := clone(token)
		a, b := mac.Narrow(token, rights(2)), mac.Narrow(token, until(3))
		c, d := mac.Narrow(a, rights(4)), mac.Narrow(a, until(5))
		if a.Caveats[n] != rights(2) || b.Caveats[n] != until(3) || c.Caveats[n+1] != rights(4) || d.Caveats[n+1] != until(5) {
			t.Errorf("tokens of %d Caveats share them", n)
		}
		for i := range a.Caveats {
			a.Caveats[i], c.Caveats[i] = mac.Caveat{}, mac.Caveat{}
		}
		if !same(token, was) || !slices.Equal(b.Caveats[:n], was.Caveats) || !slices.Equal(d.Caveats[:n], was.Caveats) {
			t.Errorf("writing into a token of %d Caveats writes into another one", n+1)
		}
	}
	form := mac.Put(mac.Token{Tenant: "a", Caveats: caveats(rights(1), until(2)), Sig: sig})
	a, _, _ := mac.Get(form, 0)
	a.Caveats[0].N = 9
	if b, _, _ := mac.Get(form, 0); b.Caveats[0].N != 1 {
		t.Error("two tokens that are got share their Caveats")
	}
}

// P4: the same is told again, also to many at one time.
func TestToldAgain(t *testing.T) {
	want := narrowed(mac.New("key", "a"), rights(3), until(300))
	var told [8]mac.Token
	var all sync.WaitGroup
	for i := range told {
		all.Go(func() {
			for range 50 {
				told[i] = narrowed(mac.New("key", "a"), rights(3), until(300))
				mac.Check("key", want)
			}
		})
	}
	all.Wait()
	for _, got := range told {
		if !same(got, want) {
			t.Errorf("%#v, then %#v", want, got)
		}
	}
}

// P7.2: the kinds have the numbers that the chapter gives them.
func TestKinds(t *testing.T) {
	if mac.Rights != 1 || mac.Until != 2 {
		t.Error(mac.Rights, mac.Until)
	}
}

// P1 to P6: at any argument a call ends, and tells what is worked out by hand.
func FuzzTokens(f *testing.F) {
	f.Add("key", "a", "s", 0, uint64(0), uint64(0))
	f.Add("", "\x01a\x01\x01\x03"+sig, sig, 1, uint64(3), uint64(2))
	f.Add(sig+sig+sig, "α", "", -1, uint64(math.MaxUint64), uint64(1))
	f.Fuzz(func(t *testing.T, key, s, other string, number int, n, u uint64) {
		wantSign(t, key, s)
		wantGet(t, s)
		mac.Get(s, number)
		token := narrowed(mac.New(key, s), mac.Caveat{Kind: number, N: n}, until(u))
		forged := mac.Token{Tenant: s, Caveats: token.Caveats, Sig: other}
		for _, x := range []mac.Token{token, forged, mac.New(key, s), mac.New(other, s)} {
			if mac.Check(key, x) != checkByHand(key, x) || mac.Allows(x, n, u) != allowsByHand(x, n, u) || mac.Allows(x, u, n) != allowsByHand(x, u, n) {
				t.Errorf("by %q: %#v", key, x)
			}
			if form := mac.Put(x); form != "" {
				wantGet(t, form+other)
			}
		}
	})
}
