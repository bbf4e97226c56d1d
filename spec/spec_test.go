package spec_test

import (
	"bytes"
	"encoding/binary"
	"fmt"
	"math"
	"math/big"
	"regexp"
	"slices"
	"strings"
	"sync"
	"testing"

	"demesne/api"
	"demesne/sel"
	"demesne/spec"
	"demesne/vec"
)

// all tells n of each kind.
func all(n uint64) vec.Vec { return vec.Vec{n, n, n, n} }

// one tells n of that kind alone.
func one(kind int, n uint64) vec.Vec {
	var v vec.Vec
	v[kind] = n
	return v
}

// terms tells the selector that is shown so.
func terms(text string) []sel.Term {
	l, ok := sel.Parse(text)
	if !ok {
		panic("no selector: " + text)
	}
	return l
}

// job tells an ordinary job.
func job() spec.Spec {
	return spec.Spec{Path: "team/a", Demand: vec.Vec{1, 2}, Count: 3, Prio: 5, Ticks: 9, Sel: terms("zone=b")}
}

// with tells an ordinary job that is turned so.
func with(turns ...func(x *spec.Spec)) spec.Spec {
	x := job()
	for _, turn := range turns {
		turn(&x)
	}
	return x
}

// widest is the longest selector that may be.
func widest() []sel.Term {
	long := strings.Repeat("я", api.MaxName-1)
	t := sel.Term{Key: long + "z", Not: true, Values: []string{long + "a", long + "b", long + "c", long + "я"}}
	return slices.Repeat([]sel.Term{t}, api.MaxTerms)
}

// goodPaths are paths of one to three names, with the shortest and the longest.
func goodPaths() []string {
	long := strings.Repeat("я", api.MaxName)
	return []string{"a", "team", "a/b", "a/b/c", "a-/b0/c-9", "ω", "α/я", strings.Repeat("z", api.MaxName), long, long + "/" + long, long + "/" + long + "/" + long}
}

// goods are jobs that may be, with the edges of each field.
func goods() []spec.Spec {
	all := []spec.Spec{
		job(),
		{Path: "a", Count: 1, Ticks: 1},
		{Path: "a", Demand: vec.Vec{300}, Count: 3, Prio: 5, Ticks: 9},
		{Path: "a", Demand: all(math.MaxUint64), Count: 1, Prio: api.MaxPrio, Ticks: api.MaxTicks, Sel: widest()},
		{Path: goodPaths()[10], Demand: all(math.MaxUint64 / 8), Count: 8, Ticks: 100, Sel: widest()},
		{Path: "a/b", Demand: vec.Vec{math.MaxUint64 / 3, 128, 127, 1 << 61}, Count: 3, Prio: 1, Ticks: 2},
		with(func(x *spec.Spec) { x.Sel = []sel.Term{} }),
		with(func(x *spec.Spec) { x.Demand = vec.Vec{} }),
		with(func(x *spec.Spec) { x.Demand = vec.Vec{4, 3, 2, 1} }),
		with(func(x *spec.Spec) { x.Sel = []sel.Term{{Key: "a", Values: []string{}}} }),
	}
	for _, path := range goodPaths() {
		all = append(all, with(func(x *spec.Spec) { x.Path = path }))
	}
	for n := range api.MaxTicks + 1 {
		if n >= 1 && n <= api.MaxGang {
			all = append(all, with(func(x *spec.Spec) { x.Count = n }))
		}
		if n <= api.MaxPrio {
			all = append(all, with(func(x *spec.Spec) { x.Prio = n }))
		}
		if n >= 1 {
			all = append(all, with(func(x *spec.Spec) { x.Ticks = n }))
		}
	}
	for _, text := range []string{"-", "a", "!a", "a=b", "a!=b|c", "zone=b,disk", "a,a,a,a", "k=a|b|c|d"} {
		all = append(all, with(func(x *spec.Spec) { x.Sel = terms(text) }))
	}
	return all
}

// fault is a turn that makes a job one that may not be, and what is told of it.
type fault struct {
	what string
	turn func(x *spec.Spec)
	want api.Errno
}

// noPaths are texts that are no paths.
var noPaths = []string{
	"", "/", " ", "A", "a/", "/a", "a//b", "a/b/", "a/b/c/", "a/b/c/d", "9", "-", "a/9", "a/-b", "a b", "a ", " a", "a\n", "?", "a\x00", "\xff", "a/\xce", "é", "//", "..", ".", "a/B", "a\\b",
	strings.Repeat("a", api.MaxName+1), "a/" + strings.Repeat("я", api.MaxName+1), "a/b/" + strings.Repeat("a", api.MaxName+1), strings.Repeat("a/", 1000) + "a", strings.Repeat("a", 98), strings.Repeat("a", 1000),
}

func pathFaults() (faults []fault) {
	for _, path := range noPaths {
		faults = append(faults, fault{fmt.Sprintf("path %q", path), func(x *spec.Spec) { x.Path = path }, api.ErrName})
	}
	return faults
}

// outside are numbers that are below least or above most, far off, too, with those that are alike in their low bits.
func outside(least, most int) []int {
	l := []int{least - 1, least - 2, least - 100, most + 1, most + 2, most + 100, math.MinInt, math.MinInt + 1, math.MaxInt, math.MaxInt - 1}
	for _, past := range []int{1 << 7, 1 << 8, 1 << 16, 1 << 32, 1 << 62} {
		l = append(l, past+least, past+most, least-past, most-past)
	}
	return l
}

func numberFaults() (faults []fault) {
	add := func(name string, least, most int, field func(x *spec.Spec) *int) {
		for _, n := range outside(least, most) {
			faults = append(faults, fault{fmt.Sprint(name, n), func(x *spec.Spec) { *field(x) = n }, api.ErrArg})
		}
	}
	add("count ", 1, api.MaxGang, func(x *spec.Spec) *int { return &x.Count })
	add("prio ", 0, api.MaxPrio, func(x *spec.Spec) *int { return &x.Prio })
	add("ticks ", 1, api.MaxTicks, func(x *spec.Spec) *int { return &x.Ticks })
	return faults
}

func selFaults() (faults []fault) {
	for _, l := range [][]sel.Term{
		{{}},
		{{Key: "A"}},
		{{Key: "a", Values: []string{""}}},
		{{Key: "a", Values: []string{"b", "a"}}},
		{{Key: "a", Values: []string{"b", "b"}}},
		{{Key: "a", Values: []string{"a", "b", "c", "d", "e"}}},
		{{Key: "a"}, {Key: "b"}, {Key: "c", Not: true}, {Key: "a b"}},
		slices.Repeat([]sel.Term{{Key: "a"}}, api.MaxTerms+1),
		slices.Repeat([]sel.Term{{Key: "a"}}, 1000),
	} {
		faults = append(faults, fault{fmt.Sprintf("selector %.99v", l), func(x *spec.Spec) { x.Sel = l }, api.ErrForm})
	}
	return faults
}

// overFaults are demands that are too great three times.
func overFaults() (faults []fault) {
	for kind := range 4 {
		for _, n := range []uint64{math.MaxUint64/3 + 1, 1 << 63, math.MaxUint64} {
			over := one(kind, n)
			faults = append(faults, fault{fmt.Sprint("demand ", over), func(x *spec.Spec) { x.Demand = over }, api.ErrOver})
		}
	}
	return faults
}

// faults are those of each field, by what they tell, in the order of which is told first.
func faults() [][]fault {
	return [][]fault{pathFaults(), numberFaults(), selFaults(), overFaults()}
}

// wrongs are jobs that may not be, by one fault.
func wrongs() (all []spec.Spec) {
	for _, f := range slices.Concat(faults()...) {
		all = append(all, with(f.turn))
	}
	return append(all, spec.Spec{})
}

// sampleWrongs are some of the wrongs, of each fault.
func sampleWrongs() (all []spec.Spec) {
	for i, x := range wrongs() {
		if i%5 == 0 {
			all = append(all, x)
		}
	}
	return all
}

// pathForm is how a path is written.
var pathForm = regexp.MustCompile(`\A[a-zα-ωа-я][a-z0-9α-ωа-я-]{0,15}(/[a-zα-ωа-я][a-z0-9α-ωа-я-]{0,15}){0,2}\z`)

// number tells a whole number of no bound.
func number(n uint64) *big.Int { return new(big.Int).SetUint64(n) }

// totalByHand reckons with whole numbers of no bound.
func totalByHand(x spec.Spec) (told vec.Vec, ok bool) {
	count := big.NewInt(int64(x.Count))
	if x.Count < 0 {
		count.Add(count, new(big.Int).Lsh(big.NewInt(1), 64))
	}
	for kind := range told {
		product := new(big.Int).Mul(number(x.Demand[kind]), count)
		if !product.IsUint64() {
			return vec.Vec{}, false
		}
		told[kind] = product.Uint64()
	}
	return told, true
}

// checkByHand asks what the chapter asks, in its order.
func checkByHand(x spec.Spec) api.Errno {
	if !pathForm.MatchString(x.Path) {
		return api.ErrName
	}
	if x.Count < 1 || x.Count > 8 || x.Prio < 0 || x.Prio > 9 || x.Ticks < 1 || x.Ticks > 100 {
		return api.ErrArg
	}
	if !sel.Right(x.Sel) {
		return api.ErrForm
	}
	if _, ok := totalByHand(x); !ok {
		return api.ErrOver
	}
	return api.OK
}

// putByHand tells the form by the library's numbers, of any job.
func putByHand(x spec.Spec) string {
	form := binary.AppendUvarint(nil, uint64(len(x.Path)))
	form = append(form, x.Path...)
	for _, n := range []uint64{x.Demand[0], x.Demand[1], x.Demand[2], x.Demand[3], uint64(x.Count), uint64(x.Prio), uint64(x.Ticks)} {
		form = binary.AppendUvarint(form, n)
	}
	return string(form) + putTermsByHand(x.Sel)
}

func putTermsByHand(l []sel.Term) string {
	form := binary.AppendUvarint(nil, uint64(len(l)))
	text := func(s string) { form = append(binary.AppendUvarint(form, uint64(len(s))), s...) }
	for _, t := range l {
		text(t.Key)
		shape := 2 * uint64(len(t.Values))
		if t.Not {
			shape++
		}
		form = binary.AppendUvarint(form, shape)
		for _, value := range t.Values {
			text(value)
		}
	}
	return string(form)
}

// wordsByHand tells the words that x is shown by, of any job.
func wordsByHand(x spec.Spec) []string {
	demand := fmt.Sprintf("%d:%d:%d:%d", x.Demand[0], x.Demand[1], x.Demand[2], x.Demand[3])
	return []string{x.Path, demand, fmt.Sprint(x.Count), fmt.Sprint(x.Prio), fmt.Sprint(x.Ticks), termsTextByHand(x.Sel)}
}

func termsTextByHand(l []sel.Term) string {
	if len(l) == 0 {
		return "-"
	}
	var pieces []string
	for _, t := range l {
		switch {
		case len(t.Values) > 0 && t.Not:
			pieces = append(pieces, t.Key+"!="+strings.Join(t.Values, "|"))
		case len(t.Values) > 0:
			pieces = append(pieces, t.Key+"="+strings.Join(t.Values, "|"))
		case t.Not:
			pieces = append(pieces, "!"+t.Key)
		default:
			pieces = append(pieces, t.Key)
		}
	}
	return strings.Join(pieces, ",")
}

// sameByHand holds two jobs against each other by their forms, which differ where a field does.
func sameByHand(a, b spec.Spec) bool {
	return putByHand(a) == putByHand(b)
}

// getByHand reads by the library's numbers, and takes only what putByHand puts just so of a job that may be.
func getByHand(s string, at int) (spec.Spec, int, bool) {
	if at < 0 || at >= len(s) {
		return spec.Spec{}, 0, false
	}
	left := []byte(s[at:])
	take := func() uint64 {
		n, size := binary.Uvarint(left)
		left = left[max(size, 0):]
		return n
	}
	text := func() string {
		size := min(take(), uint64(len(left)))
		t := string(left[:size])
		left = left[size:]
		return t
	}
	x := spec.Spec{Path: text()}
	for kind := range x.Demand {
		x.Demand[kind] = take()
	}
	x.Count, x.Prio, x.Ticks = int(take()), int(take()), int(take())
	for count := min(take(), 5); uint64(len(x.Sel)) < count; {
		t := sel.Term{Key: text()}
		shape := min(take(), 11)
		t.Not = shape%2 == 1
		for range shape / 2 {
			t.Values = append(t.Values, text())
		}
		x.Sel = append(x.Sel, t)
	}
	if form := putByHand(x); checkByHand(x) == api.OK && strings.HasPrefix(s[at:], form) {
		return x, at + len(form), true
	}
	return spec.Spec{}, 0, false
}

// wantNone wants that nothing is got.
func wantNone(t *testing.T, s string, at int) {
	t.Helper()
	if x, next, ok := spec.Get(s, at); !sameByHand(x, spec.Spec{}) || next != 0 || ok {
		t.Fatalf("Get(%q, %d) = %v, %d, %v", s, at, x, next, ok)
	}
}

// wantGetByHand holds Get against a reading by hand, and tells whether something is got.
func wantGetByHand(t *testing.T, s string, at int) bool {
	t.Helper()
	want, wantNext, wantOK := getByHand(s, at)
	if x, next, ok := spec.Get(s, at); !sameByHand(x, want) || next != wantNext || ok != wantOK {
		t.Fatalf("Get(%q, %d) = %v, %d, %v, want %v, %d, %v", s, at, x, next, ok, want, wantNext, wantOK)
	}
	return wantOK
}

// wantParsed wants that the words are those of x.
func wantParsed(t *testing.T, words []string, want spec.Spec) {
	t.Helper()
	if x, ok := spec.Parse(words); !sameByHand(x, want) || !ok {
		t.Fatalf("Parse(%q) = %v, %v, want %v", words, x, ok, want)
	}
}

// wantNoWords wants that the words are those of no job.
func wantNoWords(t *testing.T, words []string) {
	t.Helper()
	if x, ok := spec.Parse(words); !sameByHand(x, spec.Spec{}) || ok {
		t.Fatalf("Parse(%q) = %v, %v", words, x, ok)
	}
}

// wantAllByHand asks every call of x, and wants what is told by hand.
func wantAllByHand(t *testing.T, x spec.Spec) {
	t.Helper()
	errno := checkByHand(x)
	if got := spec.Check(x); got != errno {
		t.Fatalf("Check(%v) = %d, want %d", x, got, errno)
	}
	total, ok := totalByHand(x)
	if got, also := spec.Total(x); got != total || also != ok {
		t.Fatalf("Total(%v) = %v, %v, want %v, %v", x, got, also, total, ok)
	}
	form, text := "", "?"
	if errno == api.OK {
		form, text = putByHand(x), strings.Join(wordsByHand(x), " ")
	}
	if got := spec.Put(x); got != form {
		t.Fatalf("Put(%v) = %q, want %q", x, got, form)
	}
	if got := spec.Text(x); got != text {
		t.Fatalf("Text(%v) = %q, want %q", x, got, text)
	}
	if errno != api.OK {
		wantNone(t, putByHand(x), 0)
		wantNoWords(t, wordsByHand(x))
		return
	}
	wantGetByHand(t, form, 0)
	wantParsed(t, wordsByHand(x), x)
}

// The chapter's example.
func TestExample(t *testing.T) {
	if got := spec.Text(job()); got != "team/a 1:2:0:0 3 5 9 zone=b" {
		t.Errorf("Text = %q", got)
	}
}

// P11.1: what may be, with the edges of each field.
func TestCheckOfGood(t *testing.T) {
	for _, x := range goods() {
		if got := spec.Check(x); got != api.OK {
			t.Errorf("Check(%v) = %d", x, got)
		}
	}
}

// P11.1: what may not be, by each fault alone.
func TestCheckOfWrong(t *testing.T) {
	for _, f := range slices.Concat(faults()...) {
		if got := spec.Check(with(f.turn)); got != f.want {
			t.Errorf("Check with %s = %d, want %d", f.what, got, f.want)
		}
	}
}

// P11.1: of several faults the one that is named first is told.
func TestCheckOrder(t *testing.T) {
	all := faults()
	for which := range 1 << len(all) {
		for pick := range 40 {
			var turns []func(x *spec.Spec)
			want := api.OK
			for i, group := range all {
				if which>>i&1 == 0 {
					continue
				}
				f := group[(pick*7+i)%len(group)]
				turns = append(turns, f.turn)
				if want == api.OK {
					want = f.want
				}
			}
			x := with(turns...)
			// A Count that is wrong may leave no Total that is too great: what is told stays the same.
			if got := spec.Check(x); got != want || got != checkByHand(x) {
				t.Fatalf("Check(%v) = %d, want %d", x, got, want)
			}
		}
	}
}

// P11.1: of each number alone, and of each two, near and at the bounds.
func TestCheckNumbers(t *testing.T) {
	near := []int{-1, 0, 1, 2, 7, 8, 9, 10, 11, 99, 100, 101}
	for _, count := range near {
		for _, prio := range near {
			for _, ticks := range near {
				wantAllByHand(t, spec.Spec{Path: "a", Count: count, Prio: prio, Ticks: ticks})
			}
		}
	}
	for n := -300; n < 300; n++ {
		wantAllByHand(t, with(func(x *spec.Spec) { x.Count = n }))
		wantAllByHand(t, with(func(x *spec.Spec) { x.Prio = n }))
		wantAllByHand(t, with(func(x *spec.Spec) { x.Ticks = n }))
	}
}

// P11.1: the total of all copies, up to what 64 bits hold, whether the job may be or not.
func TestTotal(t *testing.T) {
	for _, c := range []struct {
		demand vec.Vec
		count  int
		want   vec.Vec
		ok     bool
	}{
		{vec.Vec{1, 2, 3, 4}, 3, vec.Vec{3, 6, 9, 12}, true},
		{vec.Vec{1, 2, 3, 4}, 1, vec.Vec{1, 2, 3, 4}, true},
		{vec.Vec{1, 2, 3, 4}, 0, vec.Vec{}, true},
		{all(math.MaxUint64), 0, vec.Vec{}, true},
		{all(math.MaxUint64), 1, all(math.MaxUint64), true},
		{all(math.MaxUint64), 2, vec.Vec{}, false},
		{vec.Vec{1, 2, 3, 1 << 63}, 2, vec.Vec{}, false},
		{vec.Vec{1 << 63, 2, 3, 4}, 2, vec.Vec{}, false},
		{all(math.MaxUint64 / 8), 8, all(math.MaxUint64 - 7), true},
		{all(math.MaxUint64/8 + 1), 8, vec.Vec{}, false},
		{vec.Vec{5}, 1000, vec.Vec{5000}, true},
		{vec.Vec{1}, -1, vec.Vec{math.MaxUint64}, true},
		{vec.Vec{0, 1}, -2, vec.Vec{0, math.MaxUint64 - 1}, true},
		{vec.Vec{2}, -1, vec.Vec{}, false},
		{vec.Vec{}, -1, vec.Vec{}, true},
		{vec.Vec{1}, math.MinInt, vec.Vec{1 << 63}, true},
		{vec.Vec{2}, math.MinInt, vec.Vec{}, false},
		{vec.Vec{2}, math.MaxInt, vec.Vec{math.MaxUint64 - 1}, true},
	} {
		if got, ok := spec.Total(spec.Spec{Path: "A", Demand: c.demand, Count: c.count}); got != c.want || ok != c.ok {
			t.Errorf("Total(%v, %d) = %v, %v", c.demand, c.count, got, ok)
		}
	}
	amounts := []uint64{0, 1, 2, 3, 300, 1 << 32, math.MaxUint64 / 8, math.MaxUint64/8 + 1, 1 << 62, 1 << 63, math.MaxUint64}
	for _, a := range amounts {
		for _, b := range amounts {
			for _, count := range []int{0, 1, 2, 7, 8, 9, 1 << 31, 1 << 32, math.MaxInt, math.MinInt, -1, -8} {
				for kind := range 4 {
					demand := all(a)
					demand[kind] = b
					wantAllByHand(t, spec.Spec{Path: "a", Demand: demand, Count: count, Ticks: 1})
				}
			}
		}
	}
}

// turned are jobs that differ in one thing each from x, and from one another.
func turned(x spec.Spec) (all []spec.Spec) {
	add := func(turn func(y *spec.Spec)) {
		y := x
		y.Sel = slices.Clone(x.Sel)
		turn(&y)
		all = append(all, y)
	}
	add(func(y *spec.Spec) { y.Path += "x" })
	add(func(y *spec.Spec) { y.Path += "\x00" })
	for kind := range 4 {
		add(func(y *spec.Spec) { y.Demand[kind]++ })
		add(func(y *spec.Spec) { y.Demand[kind] ^= 1 << 63 })
	}
	for _, by := range []int{1, -1, 1 << 32, math.MinInt} {
		add(func(y *spec.Spec) { y.Count += by })
		add(func(y *spec.Spec) { y.Prio += by })
		add(func(y *spec.Spec) { y.Ticks += by })
	}
	add(func(y *spec.Spec) { y.Sel = append(y.Sel, sel.Term{}) })
	add(func(y *spec.Spec) { y.Sel = append(y.Sel, sel.Term{Key: "x"}) })
	if len(x.Sel) > 0 {
		add(func(y *spec.Spec) { y.Sel = y.Sel[1:] })
		add(func(y *spec.Spec) { y.Sel[0].Key += "x" })
		add(func(y *spec.Spec) { y.Sel[0].Not = !y.Sel[0].Not })
		add(func(y *spec.Spec) { y.Sel[0].Values = append(slices.Clone(y.Sel[0].Values), "z") })
	}
	return all
}

// P11.1: jobs are the same just if each field is, whether they may be or not.
func TestSame(t *testing.T) {
	for _, x := range slices.Concat(goods(), wrongs()) {
		y := x
		y.Sel = slices.Clone(x.Sel)
		if !spec.Same(x, x) || !spec.Same(x, y) {
			t.Errorf("Same(%v) of itself = false", x)
		}
		family := append(turned(x), x)
		for i, a := range family {
			for j, b := range family {
				if spec.Same(a, b) != (i == j) {
					t.Errorf("Same(%v, %v) = %v", a, b, i != j)
				}
			}
		}
	}
	all := slices.Concat(goods(), sampleWrongs())
	for _, a := range all {
		for _, b := range all {
			if got := spec.Same(a, b); got != sameByHand(a, b) {
				t.Errorf("Same(%v, %v) = %v", a, b, got)
			}
		}
	}
}

// P11.1: fields that change places are not the same, and lists of nothing are.
func TestSameOfFields(t *testing.T) {
	a, b := job(), job()
	a.Count, a.Prio, a.Ticks = 1, 2, 3
	for _, n := range [][3]int{{1, 3, 2}, {2, 1, 3}, {2, 3, 1}, {3, 1, 2}, {3, 2, 1}, {1, 1, 3}, {2, 2, 3}} {
		b.Count, b.Prio, b.Ticks = n[0], n[1], n[2]
		if spec.Same(a, b) || spec.Same(b, a) {
			t.Errorf("Same(%v, %v)", a, b)
		}
	}
	a, b = job(), job()
	a.Sel, b.Sel = nil, []sel.Term{}
	if !spec.Same(a, b) || !spec.Same(b, a) || !spec.Same(spec.Spec{}, spec.Spec{}) {
		t.Error("Same of no selector")
	}
	a.Sel, b.Sel = []sel.Term{{Key: "a"}}, []sel.Term{{Key: "a", Values: []string{}}}
	if !spec.Same(a, b) {
		t.Error("Same of no values")
	}
}

// P11.2: forms that were put together by hand.
func TestPut(t *testing.T) {
	for _, c := range []struct {
		x    spec.Spec
		want string
	}{
		{spec.Spec{Path: "a", Count: 1, Ticks: 1}, "\x01a\x00\x00\x00\x00\x01\x00\x01\x00"},
		{spec.Spec{Path: "a", Demand: vec.Vec{300}, Count: 3, Prio: 5, Ticks: 9}, "\x01a\xac\x02\x00\x00\x00\x03\x05\x09\x00"},
		{job(), "\x06team/a\x01\x02\x00\x00\x03\x05\x09\x01\x04zone\x02\x01b"},
		{spec.Spec{Path: "я/a", Demand: vec.Vec{1, 128, 3, 127}, Count: 8, Prio: 9, Ticks: 100, Sel: terms("!a,b!=c|d")}, "\x04я/a\x01\x80\x01\x03\x7f\x08\x09\x64\x02\x01a\x01\x01b\x05\x01c\x01d"},
	} {
		if got := spec.Put(c.x); got != c.want || got != putByHand(c.x) {
			t.Errorf("Put(%v) = %q, want %q", c.x, got, c.want)
		}
	}
	for _, x := range goods() {
		if got := spec.Put(x); got != putByHand(x) {
			t.Errorf("Put(%v) = %q", x, got)
		}
	}
	for _, x := range wrongs() {
		if got := spec.Put(x); got != "" {
			t.Errorf("Put(%v) = %q", x, got)
		}
	}
}

// P11.2: what is put is got, wherever it stands, and nothing where it is cut off.
func TestGet(t *testing.T) {
	for _, x := range goods() {
		form := spec.Put(x)
		for _, front := range []string{"", "z", "\x80\x80", form} {
			for _, back := range []string{"", "\x00", "\x01a", "\xff\xff", form} {
				got, next, ok := spec.Get(front+form+back, len(front))
				if !ok || next != len(front)+len(form) || !sameByHand(got, x) {
					t.Fatalf("Get = %v, %d, %v, want %v", got, next, ok, x)
				}
			}
		}
		for end := range len(form) {
			wantNone(t, form[:end], 0)
		}
		for _, at := range []int{math.MinInt, -len(form), -1, len(form), len(form) + 1, math.MaxInt} {
			wantNone(t, form, at)
		}
	}
}

// P11.2: where a form is cut off, or goes wrong, nothing is got, though any part of one stands ahead of the place.
func TestGetReadsNothingAhead(t *testing.T) {
	for _, x := range []spec.Spec{job(), {Path: "a", Count: 1, Ticks: 1}, {Path: "a", Demand: all(1), Count: 8, Prio: 1, Ticks: 1, Sel: terms("b")}} {
		form := spec.Put(x)
		for from := range form {
			front := form[from:]
			for end := range form {
				wantNone(t, front+form[:end], len(front))
				wantNone(t, front+form[:end]+"\x80\x00", len(front))
				wantNone(t, front+form[:end]+strings.Repeat("\xff", 99), len(front))
			}
		}
	}
}

// P11.2: of what may not be nothing is got, though it has all fields.
func TestGetOfWrong(t *testing.T) {
	for _, x := range wrongs() {
		wantNone(t, putByHand(x), 0)
		wantNone(t, "z"+putByHand(x)+"z", 1)
	}
	for _, s := range []string{"", "\x00", "\x80", "\x01", "\x01a", "a", strings.Repeat("\x00", 9), strings.Repeat("\x01", 99), strings.Repeat("\xff", 99)} {
		wantNone(t, s, 0)
	}
}

// P11.2: numbers that are longer than need be, past 64 bits, or alike in their low bits only, at each place.
func TestGetOfWrongNumbers(t *testing.T) {
	pieces := []string{"\x01", "a", "\x01", "\x02", "\x03", "\x04", "\x01", "\x06", "\x07", "\x01", "\x01b\x02\x01c"}
	if x, _, ok := spec.Get(strings.Join(pieces, ""), 0); !ok || spec.Text(x) != "a 1:2:3:4 1 6 7 b=c" {
		t.Fatalf("Get = %v, %v", x, ok)
	}
	for i, piece := range pieces {
		if len(piece) > 1 || piece == "a" {
			continue
		}
		low := piece[0]
		l := slices.Clone(pieces)
		for _, bad := range [][]byte{
			{low | 0x80, 0}, {low | 0x80, 0x80, 0}, {low | 0x80, 0x80, 0x80, 0x80, 0x80, 0x80, 0x80, 0x80, 0x80, 2},
			bytes.Repeat([]byte{0xff}, 10), bytes.Repeat([]byte{0xff}, 11),
		} {
			l[i] = string(bad)
			wantNone(t, strings.Join(l, ""), 0)
		}
		for _, cut := range []string{"", string([]byte{low | 0x80}), "\xff"} {
			l[i] = cut
			wantGetByHand(t, strings.Join(l, ""), 0)
		}
		for shift := 7; shift < 64; shift++ {
			l[i] = string(binary.AppendUvarint(nil, uint64(low)|1<<shift))
			demand := i >= 2 && i < 6
			if got := wantGetByHand(t, strings.Join(l, ""), 0); got != demand {
				t.Errorf("Get(%q): %v", l, got)
			}
		}
	}
}

// P11.2: forms of which a byte is turned, taken out or put in are got as by hand.
func TestGetOfTurned(t *testing.T) {
	got := 0
	greatest := spec.Spec{Path: goodPaths()[10], Demand: all(math.MaxUint64), Count: 1, Prio: api.MaxPrio, Ticks: api.MaxTicks, Sel: terms("zone!=a|b,c,!d")}
	for _, x := range []spec.Spec{goods()[0], goods()[1], goods()[2], goods()[5], greatest} {
		form := []byte(spec.Put(x))
		for i := range form {
			was := form[i]
			for b := range 256 {
				form[i] = byte(b)
				if wantGetByHand(t, string(form), 0) {
					got++
				}
			}
			form[i] = was
			wantGetByHand(t, string(slices.Delete(slices.Clone(form), i, i+1)), 0)
			for _, b := range []byte{0, 1, 'a', 0x80, 0xff} {
				wantGetByHand(t, string(slices.Insert(slices.Clone(form), i, b)), 0)
			}
		}
	}
	if got < 1000 {
		t.Errorf("only %d are got", got)
	}
}

// P11.3: texts that were written by hand.
func TestText(t *testing.T) {
	for _, c := range []struct {
		x    spec.Spec
		want string
	}{
		{spec.Spec{Path: "a", Count: 1, Ticks: 1}, "a 0:0:0:0 1 0 1 -"},
		{spec.Spec{Path: "я/a", Demand: vec.Vec{1, 128, 3, 1 << 60}, Count: 8, Prio: 9, Ticks: 100, Sel: terms("!a,b!=c|d")}, "я/a 1:128:3:1152921504606846976 8 9 100 !a,b!=c|d"},
		{spec.Spec{}, "?"},
	} {
		if got := spec.Text(c.x); got != c.want {
			t.Errorf("Text(%v) = %q, want %q", c.x, got, c.want)
		}
	}
	for _, x := range goods() {
		if got, want := spec.Text(x), strings.Join(wordsByHand(x), " "); got != want {
			t.Errorf("Text(%v) = %q, want %q", x, got, want)
		}
	}
	for _, x := range wrongs() {
		if got := spec.Text(x); got != "?" {
			t.Errorf("Text(%v) = %q", x, got)
		}
	}
}

// P11.3: what is shown is parsed, and nothing of fewer words, of more, or in another order.
func TestParseWhatIsShown(t *testing.T) {
	for _, x := range goods() {
		words := strings.Split(spec.Text(x), " ")
		wantParsed(t, words, x)
		for i := range words {
			wantNoWords(t, words[:i])
			wantNoWords(t, words[i+1:])
			wantNoWords(t, slices.Delete(slices.Clone(words), i, i+1))
			for _, more := range []string{"", "-", "a", "1", " ", words[i]} {
				wantNoWords(t, slices.Insert(slices.Clone(words), i, more))
				wantNoWords(t, append(slices.Clone(words), more))
			}
			if i > 0 {
				joined := slices.Clone(words)
				joined[i-1] += " " + joined[i]
				wantNoWords(t, slices.Delete(joined, i, i+1))
			}
		}
		wantNoWords(t, []string{spec.Text(x)})
		wantNoWords(t, slices.Concat(words, words))
	}
}

// P11.3: of what may not be nothing is parsed, though it has all words.
func TestParseOfWrong(t *testing.T) {
	for _, x := range wrongs() {
		wantNoWords(t, wordsByHand(x))
	}
	for _, words := range [][]string{nil, {}, {""}, {"?"}, {"-"}, make([]string, 6), {"?", "?", "?", "?", "?", "?"}, make([]string, 100000)} {
		wantNoWords(t, words)
	}
}

// P11.3: each word of a job is told in its only form.
func TestParseOfWrongWords(t *testing.T) {
	right := strings.Split(spec.Text(job()), " ")
	around := []string{" ", "\n", "\t", "\x00", "+", "-", "0", ",", ":", "/", "?", "\xff", "_", "."}
	huge := strings.Repeat("9", 100000)
	wrong := [][]string{
		noPaths,
		{"", "-", "1", "1:2:0", "1:2:0:0:0", "1:2::0", "01:2:0:0", "1:2:0:-1", "1:2:0:a", "18446744073709551616:0:0:0", "0:0:0:6148914691236517206", huge},
		{"", "-", "0", "9", "03", "+3", "-3", "-0", "3.0", "3e0", "0x3", "1_0", "three", "256", "259", "4294967299", "18446744073709551615", "18446744073709551616", "18446744073709551619", "-18446744073709551613", "３", "٣", huge},
		{"", "-", "10", "05", "+5", "-5", "-0", "00", "5.0", "0x5", "five", "256", "261", "4294967296", "18446744073709551615", "18446744073709551616", "18446744073709551621", "５", huge},
		{"", "-", "0", "101", "09", "+9", "-9", "-0", "9.0", "0x9", "nine", "256", "265", "4294967305", "18446744073709551615", "18446744073709551616", "18446744073709551625", "９", huge},
		{"", "?", "--", "!", "zone=", "=b", "zone=b|a", "zone=b|b", "zone==b", "Zone=b", "zone=b,", ",", "a,b,c,d,e", "a=a|b|c|d|e", strings.Repeat("a,", 100000), huge},
	}
	for i := range right {
		for _, sign := range around {
			for _, bad := range []string{sign + right[i], right[i] + sign} {
				wrong[i] = append(wrong[i], bad)
			}
		}
		for _, bad := range wrong[i] {
			words := slices.Clone(right)
			words[i] = bad
			if x := byHand(words); checkByHand(x) == api.OK {
				wantParsed(t, words, x) // a sign behind may make another word that is right
			} else {
				wantNoWords(t, words)
			}
		}
	}
}

// byHand tells the job that has these words, or nothing.
func byHand(words []string) spec.Spec {
	var x spec.Spec
	x.Path = words[0]
	_, err := fmt.Sscanf(strings.Join(words[1:5], " "), "%d:%d:%d:%d %d %d %d", &x.Demand[0], &x.Demand[1], &x.Demand[2], &x.Demand[3], &x.Count, &x.Prio, &x.Ticks)
	l, ok := sel.Parse(words[5])
	x.Sel = l
	if err != nil || !ok || !slices.Equal(wordsByHand(x), words) {
		return spec.Spec{}
	}
	return x
}

// P11.3: all rows of six of some words are parsed as by hand.
func TestParseOfAllRows(t *testing.T) {
	words := [6][]string{
		{"a", "a/b", "A", "", "1", "-"},
		{"0:0:0:0", "1:2:3:4", "9223372036854775808:0:0:0", "1:2:3", "00:0:0:0", "a"},
		{"1", "2", "8", "9", "0", "01", "-1", "x"},
		{"0", "9", "10", "1", "-0", "09", ""},
		{"1", "100", "101", "0", "0100", "-"},
		{"-", "a", "a!=b|c", "b=c|a", "", "1"},
	}
	right := 0
	var grow func(row []string)
	grow = func(row []string) {
		if len(row) == len(words) {
			want := byHand(row)
			got, ok := spec.Parse(row)
			if wantOK := checkByHand(want) == api.OK; ok != wantOK || ok && !sameByHand(got, want) || !ok && !sameByHand(got, spec.Spec{}) {
				t.Fatalf("Parse(%q) = %v, %v", row, got, ok)
			}
			if ok {
				right++
			}
			return
		}
		for _, word := range words[len(row)] {
			grow(append(slices.Clip(row), word))
		}
	}
	grow(nil)
	// Two paths, three prios, two counts of ticks and three selectors go with two demands of each of three counts, and the great one once.
	if right != 2*3*2*3*(2*3+1) {
		t.Errorf("%d rows were right", right)
	}
}

// P11.4: what is put, or shown, is got, or parsed, as the same, and no two jobs have one form.
func TestForms(t *testing.T) {
	put, shown := map[string]spec.Spec{}, map[string]spec.Spec{}
	for _, x := range goods() {
		for _, y := range append(turned(x), x) {
			wantAllByHand(t, y)
			if spec.Check(y) != api.OK {
				continue
			}
			for text, seen := range map[string]map[string]spec.Spec{spec.Put(y): put, spec.Text(y): shown} {
				if was, twice := seen[text]; twice && !spec.Same(was, y) {
					t.Errorf("%v and %v have the form %q", was, y, text)
				}
				seen[text] = y
			}
			got, next, ok := spec.Get(spec.Put(y), 0)
			if !ok || next != len(spec.Put(y)) || !spec.Same(got, y) {
				t.Errorf("Get of %v = %v, %d, %v", y, got, next, ok)
			}
			if got, ok := spec.Parse(strings.Split(spec.Text(y), " ")); !ok || !spec.Same(got, y) {
				t.Errorf("Parse of %v = %v, %v", y, got, ok)
			}
		}
	}
	if len(put) < 1000 || len(shown) != len(put) {
		t.Errorf("%d forms and %d texts", len(put), len(shown))
	}
}

// P11.2, P11.4: what is put behind one another is got one by one.
func TestGetOneByOne(t *testing.T) {
	all, at := "", 0
	for _, x := range goods() {
		all += spec.Put(x)
	}
	for _, x := range goods() {
		got, next, ok := spec.Get(all, at)
		if !ok || !sameByHand(got, x) {
			t.Fatalf("Get at %d = %v, %v, want %v", at, got, ok, x)
		}
		at = next
	}
	if at != len(all) {
		t.Errorf("%d bytes are left", len(all)-at)
	}
}

// P11.1 to P11.4: all jobs of some values of each field.
func TestAllJobs(t *testing.T) {
	told := map[api.Errno]int{}
	for _, path := range []string{"a", "a/b/c", "", "A"} {
		for _, demand := range []vec.Vec{{}, {1, 2, 3, 4}, one(0, math.MaxUint64/8+1), one(3, 1<<63), all(math.MaxUint64)} {
			for _, count := range []int{-1, 0, 1, 2, 8, 9} {
				for _, prio := range []int{-1, 0, 9, 10} {
					for _, ticks := range []int{-1, 0, 1, 100, 101} {
						for _, l := range [][]sel.Term{nil, terms("a!=b|c,d"), {{}}, {{Key: "a", Values: []string{"c", "b"}}}} {
							x := spec.Spec{Path: path, Demand: demand, Count: count, Prio: prio, Ticks: ticks, Sel: l}
							wantAllByHand(t, x)
							told[spec.Check(x)]++
						}
					}
				}
			}
		}
	}
	for _, errno := range []api.Errno{api.OK, api.ErrName, api.ErrArg, api.ErrForm, api.ErrOver} {
		if told[errno] < 50 {
			t.Errorf("%d was told %d times", errno, told[errno])
		}
	}
}

// P3: what is handed in, and what stands behind it, stays as it is.
func TestNothingIsWrittenInto(t *testing.T) {
	for _, x := range slices.Concat(goods(), sampleWrongs()) {
		room := append(slices.Clone(x.Sel), sel.Term{Key: "behind", Values: []string{"it"}})
		for i := range room {
			room[i].Values = append(slices.Clone(room[i].Values), "behind")
		}
		was := putTermsByHand(room)
		handed := slices.Clone(room[:len(x.Sel)])
		for i := range handed {
			handed[i].Values = handed[i].Values[:len(handed[i].Values)-1]
		}
		copy(room, handed)
		y := x
		y.Sel = room[:len(x.Sel)]
		spec.Check(y)
		spec.Total(y)
		spec.Put(y)
		spec.Text(y)
		spec.Same(x, y)
		spec.Same(y, x)
		if !sameByHand(x, y) {
			t.Errorf("%v became %v", x, y)
		}
		for i := range y.Sel {
			room[i].Values = room[i].Values[:len(room[i].Values)+1]
		}
		if got := putTermsByHand(room); got != was {
			t.Errorf("of %v what stands behind became %v", x, room)
		}
	}
	words := append(strings.Split(spec.Text(job()), " "), "behind", "it")
	was := slices.Clone(words)
	for end := range len(words) {
		spec.Parse(words[:end])
	}
	if !slices.Equal(words, was) {
		t.Errorf("the words became %q", words)
	}
}

// P3: two answers share no memory, nor do two lists of one.
func TestAnswersAreNew(t *testing.T) {
	want := with(func(x *spec.Spec) { x.Sel = terms("a=b|c,a=b|c") })
	form, words := spec.Put(want), strings.Split(spec.Text(want), " ")
	got, _, _ := spec.Get(form, 0)
	parsed, _ := spec.Parse(words)
	for _, x := range []spec.Spec{got, parsed} {
		_ = append(x.Sel[0].Values, "x")
		_ = append(x.Sel, sel.Term{Key: "x"})
		x.Sel[0].Values[0], x.Sel[0].Key = "x", "x"
		if termsTextByHand(x.Sel) != "x=x|c,a=b|c" {
			t.Errorf("written into, an answer is %v", x)
		}
	}
	if again, _, ok := spec.Get(form, 0); !ok || !sameByHand(again, want) {
		t.Errorf("Get again = %v, %v", again, ok)
	}
	wantParsed(t, words, want)
	words[0] = "x"
	if parsed.Path != "team/a" {
		t.Errorf("an answer hangs on the words: %v", parsed)
	}
}

// P4: the same is told again, also to many at one time.
func TestToldAgain(t *testing.T) {
	all := slices.Concat(goods(), sampleWrongs())
	var told [8][]string
	var done sync.WaitGroup
	for i := range told {
		done.Go(func() {
			for _, x := range all {
				got, next, ok := spec.Get(spec.Put(x), 0)
				parsed, also := spec.Parse(strings.Split(spec.Text(x), " "))
				told[i] = append(told[i], fmt.Sprint(spec.Check(x), spec.Text(got), next, ok, spec.Put(parsed), also))
			}
		})
	}
	done.Wait()
	for i := range told {
		if !slices.Equal(told[i], told[0]) {
			t.Errorf("%q, then %q", told[0], told[i])
		}
	}
}

// P1, P6: very long texts and lists are gone through, or refused, all the same.
func TestVeryLong(t *testing.T) {
	const many = 1 << 20
	x := with(func(x *spec.Spec) {
		x.Path = strings.Repeat("a/", many)
		x.Sel = slices.Repeat([]sel.Term{{Key: "a", Values: []string{"b"}}}, many)
	})
	if spec.Check(x) != api.ErrName || !spec.Same(x, x) || spec.Put(x) != "" || spec.Text(x) != "?" {
		t.Error("a very long job may be")
	}
	wantNone(t, putByHand(x), 0)
	wantNoWords(t, wordsByHand(x))
	x.Path = "a"
	if spec.Check(x) != api.ErrForm {
		t.Error("a very long selector may be")
	}
	wantNone(t, putByHand(x), 0)
	wantNoWords(t, wordsByHand(x))
}

// P1 to P6: at any argument a call ends, and tells what the words say.
func FuzzCalls(f *testing.F) {
	f.Add("a/b", uint64(1), uint64(2), 3, 5, 9, "zone=b", "zone", "b", "z"+spec.Put(job()), 1)
	f.Add("", uint64(math.MaxUint64), uint64(1<<63), 8, 9, 100, "-", "", "", "", math.MinInt)
	f.Add("a", uint64(math.MaxUint64), uint64(0), 1, 0, 1, "?", "A", "\xff", "\x01a\xac\x02\x00\x00\x00\x03\x05\x09\x00", 0)
	f.Add("я", uint64(1), uint64(1), -1, -1, -1, "a!=b|c,!d", "a", "", "\x01a\x00\x00\x00\x00\x00\x05\x09\x00", math.MaxInt)
	f.Fuzz(func(t *testing.T, path string, a, b uint64, count, prio, ticks int, text, key, value, s string, at int) {
		x := spec.Spec{Path: path, Demand: vec.Vec{a, b, a & b, a | b}, Count: count, Prio: prio, Ticks: ticks}
		x.Sel, _ = sel.Parse(text)
		wantAllByHand(t, x)
		x.Sel = append(x.Sel, sel.Term{Key: key, Not: a > b, Values: []string{value}})
		wantAllByHand(t, x)
		wantGetByHand(t, s, at)
		words := strings.Split(s, " ")
		if got, ok := spec.Parse(words); ok && spec.Text(got) != s || !ok && !sameByHand(got, spec.Spec{}) {
			t.Errorf("Parse(%q) = %v, %v", words, got, ok)
		}
	})
}
