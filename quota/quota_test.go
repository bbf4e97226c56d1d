package quota_test

import (
	"encoding/binary"
	"math"
	"math/big"
	"math/rand"
	"regexp"
	"slices"
	"strings"
	"sync"
	"testing"

	"demesne/api"
	"demesne/quota"
	"demesne/vec"
)

// list is a tree, right or not.
type list = []quota.Entry

// most is the greatest amount of each kind.
var most = all(math.MaxUint64)

// all tells n of each kind.
func all(n uint64) vec.Vec { return vec.Vec{n, n, n, n} }

// one tells n of that kind alone.
func one(kind int, n uint64) vec.Vec {
	var v vec.Vec
	v[kind] = n
	return v
}

// entry tells an entry that has the same of each kind.
func entry(path string, limit, used uint64) quota.Entry {
	return quota.Entry{Path: path, Limit: all(limit), Used: all(used)}
}

// wantTree holds what a call told against a tree and an error.
func wantTree(t *testing.T, what string, got list, also api.Errno, want list, wantAlso api.Errno) {
	t.Helper()
	if also != wantAlso || !slices.Equal(got, want) {
		t.Fatalf("%s = %v, %d, want %v, %d", what, got, also, want, wantAlso)
	}
}

// set, charge and refund are calls that are wanted to be OK.
func set(t *testing.T, l list, path string, limit vec.Vec) list {
	t.Helper()
	return ok(t)(quota.Set(l, path, limit))
}

func charge(t *testing.T, l list, path string, v vec.Vec) list {
	t.Helper()
	return ok(t)(quota.Charge(l, path, v))
}

func refund(t *testing.T, l list, path string, v vec.Vec) list {
	t.Helper()
	return ok(t)(quota.Refund(l, path, v))
}

func ok(t *testing.T) func(list, api.Errno) list {
	return func(l list, also api.Errno) list {
		t.Helper()
		if also != api.OK {
			t.Fatalf("told %v, %d", l, also)
		}
		return l
	}
}

// sampleTree has entries of none to three names, and amounts used at most of them.
func sampleTree() list {
	return list{entry("", 100, 30), entry("a", 50, 20), entry("a/b", 20, 12), entry("a/b/c", 10, 5), entry("a/d", 8, 8), entry("b", 10, 10), entry("c", 0, 0)}
}

// The chapter's example.
func TestExample(t *testing.T) {
	l := quota.New(all(5))
	got, also := quota.Charge(l, "", vec.Vec{6})
	wantTree(t, "Charge", got, also, l, api.ErrQuota)
}

// P10.1: a new tree is the root alone, of any limit.
func TestNew(t *testing.T) {
	for _, limit := range []vec.Vec{{}, all(1), {1, 2, 3, 4}, one(3, math.MaxUint64), most} {
		l := quota.New(limit)
		if !slices.Equal(l, list{{Limit: limit}}) || !quota.Right(l) {
			t.Errorf("New(%v) = %v", limit, l)
		}
	}
}

// P10.1: the first entry of just that Path is found, wherever it stands, and whatever the Path is.
func TestFind(t *testing.T) {
	l := sampleTree()
	for _, e := range l {
		if got, ok := quota.Find(l, e.Path); !ok || got != e {
			t.Errorf("Find(%q) = %v, %v", e.Path, got, ok)
		}
	}
	for _, path := range []string{"d", "aa", "a/", "/a", "a/b/", "/", "a/c", "A", " ", "a/b/c/d", "\x00", "\xff"} {
		if got, ok := quota.Find(l, path); ok || got != (quota.Entry{}) {
			t.Errorf("Find(%q) = %v, %v", path, got, ok)
		}
	}
	odd := list{entry("b", 1, 2), entry("?", 3, 4), entry("b", 5, 6), entry("", 7, 8), entry("", 9, 9), entry("\xff", 1, 1)}
	for path, at := range map[string]int{"b": 0, "?": 1, "": 3, "\xff": 5} {
		if got, ok := quota.Find(odd, path); !ok || got != odd[at] {
			t.Errorf("Find(%q) = %v, %v", path, got, ok)
		}
	}
	for _, l := range []list{nil, {}, {entry("a", 1, 1)}} {
		if got, ok := quota.Find(l, ""); ok || got != (quota.Entry{}) {
			t.Errorf("Find(%v) = %v, %v", l, got, ok)
		}
	}
}

// P10.2: entries are put by the bytes of their Paths, in whatever order they come, with nothing used.
func TestSetPutsInOrder(t *testing.T) {
	paths := []string{"", "a", "a-", "a/b", "a/b-", "a/b/c", "a/ba", "a0", "aa", "b", "zzz", "α", "ω", "а", "я"}
	chance := rand.New(rand.NewSource(1))
	for range 200 {
		l := list{}
		for len(l) < len(paths) {
			path := paths[chance.Intn(len(paths))]
			next, also := quota.Set(l, path, all(uint64(len(path))))
			switch also {
			case api.OK:
				l = next
			case api.ErrNone:
				wantTree(t, "Set", next, also, l, api.ErrNone)
			default:
				t.Fatalf("Set(%q) = %d", path, also)
			}
		}
		for i, path := range paths {
			if want := (quota.Entry{Path: path, Limit: all(uint64(len(path)))}); l[i] != want {
				t.Fatalf("entry %d is %v, want %v", i, l[i], want)
			}
		}
	}
}

// P10.2: of an entry that is there the Limit alone turns, up and down to what is used.
func TestSetTurnsLimit(t *testing.T) {
	l := sampleTree()
	for at, e := range l {
		for kind := range 4 {
			want := slices.Clone(l)
			for _, limit := range []vec.Vec{e.Used, e.Limit, most, all(e.Used[0] + 1)} {
				want[at].Limit = limit
				got, also := quota.Set(l, e.Path, limit)
				wantTree(t, "Set", got, also, want, api.OK)
			}
			if e.Used[kind] > 0 {
				limit := most
				limit[kind] = e.Used[kind] - 1
				got, also := quota.Set(l, e.Path, limit)
				wantTree(t, "Set", got, also, l, api.ErrQuota)
			}
		}
	}
}

// noPaths are texts that are neither empty nor a path.
var noPaths = []string{
	"/", " ", "A", "a/", "/a", "a//b", "a/b/", "a/b/c/d", "9", "-", "a/9", "a/-b", "a b", "?", "a\x00", "\xff", "a/\xce", "é", "//", "..", "a/B",
	strings.Repeat("a", api.MaxName+1), "a/" + strings.Repeat("я", api.MaxName+1), strings.Repeat("a/", 1000) + "a",
}

// P10.2, P10.3: what is no path is told ahead of all else, and the tree is as it was, also where such an entry stands.
func TestErrName(t *testing.T) {
	full := list{entry("", 0, 9)}
	for len(full) < api.MaxPaths {
		full = append(full, entry("q", 0, 9))
	}
	for _, path := range noPaths {
		for _, l := range []list{nil, sampleTree(), full, {entry(path, 5, 1)}, {entry("", 5, 1), entry("a", 5, 1), entry("a/b", 5, 1), entry(path, 5, 1)}} {
			for _, v := range []vec.Vec{{}, all(1), most} {
				got, also := quota.Set(l, path, v)
				wantTree(t, "Set "+path, got, also, l, api.ErrName)
				got, also = quota.Charge(l, path, v)
				wantTree(t, "Charge "+path, got, also, l, api.ErrName)
				got, also = quota.Refund(l, path, v)
				wantTree(t, "Refund "+path, got, also, l, api.ErrName)
				if quota.Could(l, path, v) {
					t.Errorf("Could(%v, %q)", l, path)
				}
			}
		}
	}
}

// P10.2: Set asks only for the entry right above, ahead of whether the tree is full.
func TestSetErrNone(t *testing.T) {
	for _, c := range []struct {
		l    list
		path string
		want api.Errno
	}{
		{nil, "", api.OK},
		{nil, "a", api.ErrNone},
		{list{entry("b", 1, 0)}, "b", api.ErrNone},
		{list{entry("b", 1, 0)}, "", api.OK},
		{list{entry("", 1, 0)}, "a/b", api.ErrNone},
		{list{entry("", 1, 0), entry("b", 1, 0)}, "a/b", api.ErrNone},
		{list{entry("", 1, 0), entry("a", 1, 0)}, "a/b/c", api.ErrNone},
		{list{entry("", 1, 0), entry("a/b/c", 1, 0)}, "a/b/c", api.ErrNone},
		{list{entry("a", 1, 0)}, "a/b", api.OK},
		{list{entry("a/b", 1, 0)}, "a/b/c", api.OK},
		{slices.Repeat(list{entry("", 1, 0)}, api.MaxPaths), "a/b", api.ErrNone},
		{slices.Repeat(list{entry("b", 1, 9)}, api.MaxPaths), "b", api.ErrNone},
	} {
		got, also := quota.Set(c.l, c.path, all(1))
		want := c.l
		if c.want == api.OK {
			want = setByHand(c.l, c.path, all(1))
		}
		wantTree(t, "Set "+c.path, got, also, want, c.want)
	}
}

// P10.2: as many as MaxPaths are there, one more is not put; but what is there is turned, also where there are more.
func TestSetErrFull(t *testing.T) {
	l := quota.New(all(9))
	for i := range api.MaxPaths - 1 {
		l = set(t, l, "q"+string(rune('a'+i)), all(uint64(i)))
	}
	if len(l) != api.MaxPaths || !quota.Right(l) {
		t.Fatalf("grown is %v", l)
	}
	over := append(slices.Clone(l), entry("z", 1, 1))
	for _, full := range []list{l, over, slices.Repeat(l, 100)} {
		for _, path := range []string{"a", "qa/a", "zz", "я"} {
			got, also := quota.Set(full, path, most)
			wantTree(t, "Set "+path, got, also, full, api.ErrFull)
		}
		for _, path := range []string{"", "qa", "qo"} {
			want := slices.Clone(full)
			want[slices.IndexFunc(want, func(e quota.Entry) bool { return e.Path == path })].Limit = most
			got, also := quota.Set(full, path, most)
			wantTree(t, "Set "+path, got, also, want, api.OK)
		}
	}
	rootless := slices.Repeat(list{entry("a", 1, 0)}, api.MaxPaths)
	got, also := quota.Set(rootless, "", most)
	wantTree(t, "Set of the root", got, also, rootless, api.ErrFull)
	got, also = quota.Set(rootless[1:], "", most)
	wantTree(t, "Set of the root", got, also, append(quota.New(most), rootless[1:]...), api.OK)
}

// P10.2: in a list that is not in order a new entry goes ahead of the first one that is not less.
func TestSetOfUnordered(t *testing.T) {
	for _, c := range []struct {
		paths []string
		path  string
		at    int
	}{
		{[]string{"", "z", "a", "c"}, "b", 1},
		{[]string{"a", "c", "", "b"}, "bb", 1},
		{[]string{"a", "", "z", "z"}, "zz", 4},
		{[]string{"z", "a"}, "", 0},
		{[]string{"", "a", "\xff", "a"}, "я", 2},
		{[]string{"", "b", "a"}, "a/b", 1},
	} {
		var l list
		for i, path := range c.paths {
			l = append(l, entry(path, uint64(i), uint64(i)))
		}
		want := slices.Insert(slices.Clone(l), c.at, entry(c.path, 7, 0))
		got, also := quota.Set(l, c.path, all(7))
		wantTree(t, "Set "+c.path, got, also, want, api.OK)
	}
}

// P10.3: what is charged is used at the path and at each above it, of each kind, and nowhere else; Refund turns it back.
func TestChargeAndRefund(t *testing.T) {
	l := sampleTree()
	for i := range l {
		l[i].Limit = most
	}
	for path, places := range map[string][]int{"": {0}, "a": {0, 1}, "a/b": {0, 1, 2}, "a/b/c": {0, 1, 2, 3}, "a/d": {0, 1, 4}, "b": {0, 5}, "c": {0, 6}} {
		for _, v := range []vec.Vec{{}, {1, 2, 3, 4}, one(0, 7), one(1, 7), one(2, 7), one(3, 7), all(1 << 40)} {
			want := slices.Clone(l)
			for _, at := range places {
				for kind := range v {
					want[at].Used[kind] += v[kind]
				}
			}
			got, also := quota.Charge(l, path, v)
			wantTree(t, "Charge "+path, got, also, want, api.OK)
			got, also = quota.Refund(got, path, v)
			wantTree(t, "Refund "+path, got, also, l, api.OK)
		}
	}
}

// P10.3: a limit is reached, and not passed, at whichever entry above it stands, of whichever kind.
func TestChargeUpToLimit(t *testing.T) {
	paths := []string{"", "a", "a/b", "a/b/c"}
	for low := range paths {
		for at := range low + 1 {
			for kind := range 4 {
				var l list
				for _, path := range paths {
					l = append(l, quota.Entry{Path: path, Limit: most, Used: all(3)})
				}
				l[at].Limit[kind] = 10
				if got := charge(t, l, paths[low], one(kind, 7)); got[at].Used[kind] != 10 {
					t.Errorf("%d used", got[at].Used[kind])
				}
				got, also := quota.Charge(l, paths[low], one(kind, 8))
				wantTree(t, "Charge", got, also, l, api.ErrQuota)
				if !quota.Could(l, paths[low], one(kind, 10)) || quota.Could(l, paths[low], one(kind, 11)) {
					t.Errorf("Could(%v, %q)", l, paths[low])
				}
				l[at].Limit[kind] = math.MaxUint64
				got, also = quota.Charge(l, paths[low], one(kind, math.MaxUint64-3))
				if also != api.OK || got[at].Used[kind] != math.MaxUint64 {
					t.Errorf("Charge = %v, %d", got, also)
				}
				got, also = quota.Charge(l, paths[low], one(kind, math.MaxUint64-2))
				wantTree(t, "Charge", got, also, l, api.ErrOver)
			}
		}
	}
}

// P10.3: entry by entry, the root first, what doesn't add is told ahead of what doesn't fit.
func TestChargeErrorsInOrder(t *testing.T) {
	over, tight := entry("", math.MaxUint64, math.MaxUint64), entry("", 0, 0)
	both := entry("", 0, math.MaxUint64)
	for _, c := range []struct {
		root, a, b quota.Entry
		want       api.Errno
	}{
		{tight, over, over, api.ErrQuota},
		{over, tight, tight, api.ErrOver},
		{both, tight, tight, api.ErrOver},
		{entry("", 9, 0), tight, over, api.ErrQuota},
		{entry("", 9, 0), over, tight, api.ErrOver},
		{entry("", 9, 0), entry("", 9, 0), tight, api.ErrQuota},
		{entry("", 9, 0), entry("", 9, 0), over, api.ErrOver},
		{entry("", 9, 0), entry("", 9, 0), both, api.ErrOver},
		{entry("", 9, 0), entry("", 9, 0), entry("", 9, 0), api.OK},
	} {
		c.a.Path, c.b.Path = "a", "a/b"
		l := list{c.root, c.a, c.b}
		want := l
		if c.want == api.OK {
			want = list{entry("", 9, 1), entry("a", 9, 1), entry("a/b", 9, 1)}
		}
		got, also := quota.Charge(l, "a/b", all(1))
		wantTree(t, "Charge", got, also, want, c.want)
		missing := slices.Delete(slices.Clone(l), 1, 2)
		got, also = quota.Charge(missing, "a/b", all(1))
		wantTree(t, "Charge", got, also, missing, api.ErrNone)
	}
	// Of one entry a kind that doesn't add is told, though another one doesn't fit.
	l := list{{Limit: vec.Vec{5, math.MaxUint64}, Used: vec.Vec{5, math.MaxUint64}}}
	got, also := quota.Charge(l, "", vec.Vec{1, 1})
	wantTree(t, "Charge", got, also, l, api.ErrOver)
}

// P10.3: more is used than a limit lets: nothing can be charged there, not even nothing; but it can be refunded.
func TestChargeOfUsedUp(t *testing.T) {
	l := list{entry("", 9, 9), entry("a", 4, 5)}
	got, also := quota.Charge(l, "a", vec.Vec{})
	wantTree(t, "Charge", got, also, l, api.ErrQuota)
	got, also = quota.Refund(l, "a", all(2))
	wantTree(t, "Refund", got, also, list{entry("", 9, 7), entry("a", 4, 3)}, api.OK)
	if !quota.Could(l, "a", all(4)) || quota.Could(l, "a", all(5)) {
		t.Errorf("Could(%v)", l)
	}
}

// P10.3: of Charge and Refund, and of Could, all above are wanted: the root, each between, and the path itself.
func TestChargeErrNone(t *testing.T) {
	whole := list{entry("", 9, 5), entry("a", 9, 5), entry("a/b", 9, 5), entry("a/b/c", 9, 5)}
	for at := range whole {
		l := slices.Delete(slices.Clone(whole), at, at+1)
		for low, e := range whole {
			got, also := quota.Charge(l, e.Path, all(1))
			back, backAlso := quota.Refund(l, e.Path, all(1))
			if at <= low {
				wantTree(t, "Charge "+e.Path, got, also, l, api.ErrNone)
				wantTree(t, "Refund "+e.Path, back, backAlso, l, api.ErrNone)
				got, also = quota.Charge(l, e.Path, most)
				wantTree(t, "Charge "+e.Path, got, also, l, api.ErrNone)
				back, backAlso = quota.Refund(l, e.Path, most)
				wantTree(t, "Refund "+e.Path, back, backAlso, l, api.ErrNone)
			} else if also != api.OK || backAlso != api.OK {
				t.Errorf("Charge and Refund of %q = %d, %d", e.Path, also, backAlso)
			}
			if quota.Could(l, e.Path, all(1)) != (at > low) {
				t.Errorf("Could(%v, %q)", l, e.Path)
			}
		}
	}
}

// P10.3: no more is refunded than each above has used, of whichever kind; where one says no, none turns.
func TestRefundErrState(t *testing.T) {
	paths := []string{"", "a", "a/b", "a/b/c"}
	for low := range paths {
		for at := range low + 1 {
			for kind := range 4 {
				var l list
				for _, path := range paths {
					l = append(l, entry(path, 0, 9))
				}
				l[at].Used[kind] = 4
				if got := refund(t, l, paths[low], one(kind, 4)); got[at].Used[kind] != 0 {
					t.Errorf("%d used", got[at].Used[kind])
				}
				for _, n := range []uint64{5, 9, 1 << 63, math.MaxUint64} {
					got, also := quota.Refund(l, paths[low], one(kind, n))
					wantTree(t, "Refund", got, also, l, api.ErrState)
				}
			}
		}
	}
}

// P10.3: what could be charged hangs on the limits, not on what is used.
func TestCould(t *testing.T) {
	l := sampleTree()
	for path, n := range map[string]uint64{"": 100, "a": 50, "a/b": 20, "a/b/c": 10, "a/d": 8, "b": 10, "c": 0} {
		for i := range l {
			l[i].Used = most
		}
		if !quota.Could(l, path, all(n)) || quota.Could(l, path, all(n+1)) || quota.Could(l, path, most) {
			t.Errorf("Could(%q), %d", path, n)
		}
	}
	wide := list{entry("", 10, 0), entry("a", 20, 0)}
	if !quota.Could(wide, "a", all(10)) || quota.Could(wide, "a", all(11)) {
		t.Error("more than the root lets")
	}
	if endless := quota.New(most); !quota.Could(endless, "", most) {
		t.Error("all that there is")
	}
}

// P10.1: of entries of one Path the first is meant, by each call.
func TestFirstOfOnePath(t *testing.T) {
	l := list{entry("a", 9, 2), entry("", 9, 2), entry("a", 1, 1), entry("", 1, 1)}
	want := list{entry("a", 9, 5), entry("", 9, 5), entry("a", 1, 1), entry("", 1, 1)}
	wantTree(t, "Charge", charge(t, l, "a", all(3)), api.OK, want, api.OK)
	wantTree(t, "Refund", refund(t, want, "a", all(3)), api.OK, l, api.OK)
	if !quota.Could(l, "a", all(9)) {
		t.Error("Could")
	}
	want = list{entry("a", 3, 2), entry("", 9, 2), entry("a", 1, 1), entry("", 1, 1)}
	wantTree(t, "Set", set(t, l, "a", all(3)), api.OK, want, api.OK)
	got, also := quota.Set(l, "a", all(1))
	wantTree(t, "Set", got, also, l, api.ErrQuota)
}

// manyNames tells n entries, the root and those right below it.
func manyNames(n int) list {
	l := list{entry("", 9, 0)}
	for i := 1; i < n; i++ {
		l = append(l, entry("n"+string(rune('a'+i)), 9, 0))
	}
	return l
}

// P10.4: right trees, at the edges.
func TestRight(t *testing.T) {
	long := strings.Repeat("я", api.MaxName)
	for _, l := range []list{
		sampleTree(),
		{{}},
		{entry("", math.MaxUint64, math.MaxUint64)},
		{entry("", 9, 9), entry("a", 9, 9), entry("a/b", 9, 9), entry("a/b/c", 9, 9)},
		{entry("", 9, 9), entry("a", 99, 4), entry("b", 99, 5)},
		{entry("", 9, 9), entry("a", 5, 5), entry("a-", 1, 1), entry("a/b", 3, 3), entry("a/c", 2, 2), entry("aa", 3, 3)},
		{entry("", math.MaxUint64, math.MaxUint64), entry("a", math.MaxUint64, 1<<63), entry("b", math.MaxUint64, 1<<63-1)},
		{{Limit: vec.Vec{4, 3, 2, 1}, Used: vec.Vec{4, 3, 2, 1}}, {Path: "a", Limit: most, Used: vec.Vec{4, 3, 2, 1}}},
		{entry("", 0, 0), entry(long, 0, 0), entry(long+"/"+long, 0, 0), entry(long+"/"+long+"/"+long, 0, 0)},
		{entry("", 0, 0), entry("a", 9, 0)},
		manyNames(api.MaxPaths),
	} {
		if !quota.Right(l) || !rightByHand(l) {
			t.Errorf("Right(%v) = false", l)
		}
	}
}

// wrongs are trees that are not right.
func wrongs() []list {
	wrong := []list{
		nil, {},
		{entry("a", 1, 0)},
		{entry("a", 1, 0), entry("", 1, 0)},
		{entry("", 1, 0), entry("", 1, 0)},
		{entry("", 1, 0), entry("a", 1, 0), entry("a", 1, 0)},
		{entry("", 1, 0), entry("a", 1, 0), entry("a", 2, 0)},
		{entry("", 1, 0), entry("a", 2, 0), entry("a", 1, 0)},
		{entry("", 1, 0), entry("b", 1, 0), entry("a", 1, 0)},
		{entry("", 1, 0), entry("a", 1, 0), entry("a/b", 1, 0), entry("a-", 1, 0)},
		{entry("", 1, 0), entry("aa", 1, 0), entry("a", 1, 0)},
		{entry("", 1, 0), entry("α", 1, 0), entry("z", 1, 0)},
		{entry("", 1, 0), entry("a/b", 1, 0)},
		{entry("", 1, 0), entry("a", 1, 0), entry("a/b/c", 1, 0)},
		{entry("", 1, 0), entry("a", 1, 0), entry("b/c", 1, 0)},
		{entry("", 1, 2)},
		{entry("", 9, 9), entry("a", 1, 2)},
		{entry("", 9, 1), entry("a", 9, 2)},
		{entry("", 9, 3), entry("a", 9, 2), entry("b", 9, 2)},
		{entry("", 9, 9), entry("a", 9, 2), entry("a/b", 9, 3)},
		{entry("", 9, 9), entry("a", 9, 2), entry("a/b", 9, 2), entry("a/b/c", 9, 3)},
		{entry("", 9, 9), entry("a", 9, 4), entry("a/b", 9, 2), entry("a/c", 9, 3), entry("b", 9, 1)},
		{entry("", math.MaxUint64, math.MaxUint64), entry("a", math.MaxUint64, 1<<63), entry("b", math.MaxUint64, 1<<63)},
		{entry("", 9, 0), entry("a", math.MaxUint64, 1<<63), entry("b", math.MaxUint64, 1<<63)},
		manyNames(api.MaxPaths + 1),
		manyNames(2 * api.MaxPaths),
		slices.Repeat(list{{}}, 1000),
	}
	for _, path := range noPaths {
		wrong = append(wrong, list{entry(path, 1, 0)}, list{entry("", 1, 0), entry(path, 1, 0)}, list{entry("", 1, 0), entry("a", 1, 0), entry("a/b", 1, 0), entry("a/b/c", 1, 0), entry(path, 1, 0)})
	}
	for kind := range 4 {
		wrong = append(wrong,
			list{{Limit: all(1), Used: one(kind, 2)}},
			list{entry("", 9, 3), {Path: "a", Limit: all(9), Used: one(kind, 4)}},
			list{entry("", 9, 3), {Path: "a", Limit: all(9), Used: one(kind, 2)}, {Path: "b", Limit: all(9), Used: one(kind, 2)}},
			list{{Limit: most, Used: most}, {Path: "a", Limit: most, Used: one(kind, math.MaxUint64)}, {Path: "b", Limit: most, Used: one(kind, 1)}})
	}
	return wrong
}

// P10.4: what is not right.
func TestWrong(t *testing.T) {
	for _, l := range wrongs() {
		if quota.Right(l) || rightByHand(l) {
			t.Errorf("Right(%v) = true", l)
		}
	}
}

// P10.4: two entries that change places, or are there twice, are not right.
func TestRightOrder(t *testing.T) {
	for i := range api.MaxPaths {
		for j := range i {
			l := manyNames(api.MaxPaths)
			l[i], l[j] = l[j], l[i]
			if quota.Right(l) {
				t.Errorf("Right(%v) = true", l)
			}
			l = manyNames(api.MaxPaths)
			l[i] = l[j]
			if quota.Right(l) {
				t.Errorf("Right(%v) = true", l)
			}
		}
	}
}

// P10.4: where all that is used is used below, by one more it is right at the root alone, by one less where nothing is below.
func TestRightSums(t *testing.T) {
	right := list{entry("", 99, 20), entry("a", 99, 9), entry("a/b", 99, 5), entry("a/b/c", 99, 5), entry("a/c", 99, 4), entry("b", 99, 11)}
	for at, e := range right {
		more, less := at == 0, e.Path == "a/b/c" || e.Path == "a/c" || e.Path == "b"
		for kind := range 4 {
			l := slices.Clone(right)
			l[at].Used[kind]++
			if quota.Right(l) != more {
				t.Errorf("Right(%v) = %v", l, !more)
			}
			l[at].Used[kind] -= 2
			if quota.Right(l) != less {
				t.Errorf("Right(%v) = %v", l, !less)
			}
		}
	}
}

// P10.5: a form that was put together by hand.
func TestPut(t *testing.T) {
	for _, c := range []struct {
		l    list
		want string
	}{
		{nil, "\x00"},
		{list{}, "\x00"},
		{list{{}}, "\x01\x00\x00\x00\x00\x00\x00\x00\x00\x00"},
		{list{{Limit: vec.Vec{1, 2, 300, 4}, Used: vec.Vec{5, 6, 7, 128}}}, "\x01\x00\x01\x02\xac\x02\x04\x05\x06\x07\x80\x01"},
		{list{{}, {Path: "a/б", Limit: vec.Vec{9}}}, "\x02\x00" + strings.Repeat("\x00", 8) + "\x04a/б\x09\x00\x00\x00\x00\x00\x00\x00"},
		{list{{Path: "?\xff", Used: vec.Vec{0, 0, 0, 1}}}, "\x01\x02?\xff\x00\x00\x00\x00\x00\x00\x00\x01"},
		{slices.Repeat(list{{}}, 200), "\xc8\x01" + strings.Repeat("\x00", 9*200)},
	} {
		if got := quota.Put(c.l); got != c.want || got != putByHand(c.l) {
			t.Errorf("Put(%v) = %q, want %q", c.l, got, c.want)
		}
	}
}

// goodTrees are right trees, with the greatest paths and amounts.
func goodTrees() []list {
	long := strings.Repeat("я", api.MaxName)
	return []list{
		{{}},
		sampleTree(),
		{entry("", math.MaxUint64, math.MaxUint64), entry("a", math.MaxUint64, math.MaxUint64)},
		{{Limit: vec.Vec{300, 1, 128, 1 << 63}, Used: vec.Vec{127, 0, 1, 1 << 62}}, {Path: "a", Limit: most, Used: vec.Vec{126, 0, 1, 1}}},
		{entry("", 7, 0), entry(long, 7, 0), entry(long+"/"+long, 7, 0), entry(long+"/"+long+"/"+long, 7, 0)},
		manyNames(api.MaxPaths),
	}
}

// P10.5: what is put is got, wherever it stands, and nothing where it is cut off.
func TestGet(t *testing.T) {
	for _, l := range goodTrees() {
		form := quota.Put(l)
		for _, front := range []string{"", "z", "\x80\x80", form} {
			for _, back := range []string{"", "\x00", "\xff\xff", form} {
				got, next, ok := quota.Get(front+form+back, len(front))
				if !ok || next != len(front)+len(form) || !slices.Equal(got, l) {
					t.Fatalf("Get = %v, %d, %v, want %v", got, next, ok, l)
				}
			}
		}
		for end := range len(form) {
			wantNone(t, form[:end], 0)
			// Amounts and a text of nothing stand ahead of the place: they are no part of what is cut off.
			wantNone(t, strings.Repeat("\x00", 9)+form[:end], 9)
		}
		for _, at := range []int{math.MinInt, -1, len(form), len(form) + 1, math.MaxInt} {
			wantNone(t, form, at)
		}
	}
}

// wantNone wants that nothing is got.
func wantNone(t *testing.T, s string, at int) {
	t.Helper()
	if l, next, ok := quota.Get(s, at); len(l) != 0 || next != 0 || ok {
		t.Fatalf("Get(%q, %d) = %v, %d, %v", s, at, l, next, ok)
	}
}

// P10.5: of what is not right nothing is got, though it is put.
func TestGetOfWrong(t *testing.T) {
	for _, l := range wrongs() {
		if got, want := quota.Put(l), putByHand(l); got != want {
			t.Errorf("Put(%v) = %q, want %q", l, got, want)
		}
		wantNone(t, quota.Put(l), 0)
	}
	for _, s := range []string{"", "\x80", "\x81\x00", "\xff\xff\xff\xff\xff\xff\xff\xff\xff\x01", "\x81\x00" + strings.Repeat("\x00", 9), "\x01\x80\x00" + strings.Repeat("\x00", 8), "\x01\x00\x80\x00" + strings.Repeat("\x00", 7)} {
		wantNone(t, s, 0)
	}
}

// P10.5: forms of which a byte is turned are got as by hand.
func TestGetOfTurned(t *testing.T) {
	for _, l := range goodTrees()[:5] {
		form := []byte(quota.Put(l))
		for i := range form {
			was := form[i]
			for b := range 256 {
				form[i] = byte(b)
				wantGetByHand(t, string(form), 0)
			}
			form[i] = was
		}
	}
}

// wantGetByHand holds Get against a reading by hand.
func wantGetByHand(t *testing.T, s string, at int) {
	t.Helper()
	want, wantNext, wantOK := getByHand(s, at)
	if got, next, ok := quota.Get(s, at); !slices.Equal(got, want) || next != wantNext || ok != wantOK {
		t.Fatalf("Get(%q, %d) = %v, %d, %v, want %v, %d, %v", s, at, got, next, ok, want, wantNext, wantOK)
	}
}

// pathForm is how a path is written.
var pathForm = regexp.MustCompile(`\A[a-zα-ωа-я][a-z0-9α-ωа-я-]{0,15}(/[a-zα-ωа-я][a-z0-9α-ωа-я-]{0,15}){0,2}\z`)

// firstByHand tells the place of the first entry of that Path.
func firstByHand(l list, path string) int {
	for i := range l {
		if l[i].Path == path {
			return i
		}
	}
	return -1
}

// upByHand tells the Path right above a path.
func upByHand(path string) string {
	return path[:max(0, strings.LastIndexByte(path, '/'))]
}

// aboveByHand tells the places of those above path, the root first; false, if one is missing.
func aboveByHand(l list, path string) (places []int, ok bool) {
	if path != "" {
		if places, ok = aboveByHand(l, upByHand(path)); !ok {
			return nil, false
		}
	}
	at := firstByHand(l, path)
	return append(places, at), at >= 0
}

// setErrnoByHand tells what Set should say.
func setErrnoByHand(l list, path string, limit vec.Vec) api.Errno {
	at := firstByHand(l, path)
	switch {
	case path != "" && !pathForm.MatchString(path):
		return api.ErrName
	case path != "" && firstByHand(l, upByHand(path)) < 0:
		return api.ErrNone
	case at < 0 && len(l) >= 16:
		return api.ErrFull
	case at >= 0 && !fitsByHand(l[at].Used, limit):
		return api.ErrQuota
	}
	return api.OK
}

// setByHand tells what Set should make of l.
func setByHand(l list, path string, limit vec.Vec) (told list) {
	at := firstByHand(l, path)
	put := at >= 0
	for i, e := range l {
		if !put && e.Path >= path {
			told = append(told, quota.Entry{Path: path, Limit: limit})
			put = true
		}
		if i == at {
			e.Limit = limit
		}
		told = append(told, e)
	}
	if !put {
		told = append(told, quota.Entry{Path: path, Limit: limit})
	}
	return told
}

// fitsByHand tells whether each amount of a is at most b's.
func fitsByHand(a, b vec.Vec) bool {
	return a[0] <= b[0] && a[1] <= b[1] && a[2] <= b[2] && a[3] <= b[3]
}

// number tells a whole number of no bound.
func number(n uint64) *big.Int { return new(big.Int).SetUint64(n) }

// turnByHand tells what Charge, or Refund, should say.
func turnByHand(l list, path string, v vec.Vec, back bool) (list, api.Errno) {
	if path != "" && !pathForm.MatchString(path) {
		return l, api.ErrName
	}
	places, ok := aboveByHand(l, path)
	if !ok {
		return l, api.ErrNone
	}
	told := append(list(nil), l...)
	for _, at := range places {
		for kind, n := range v {
			sum := new(big.Int)
			if back {
				sum.Sub(number(l[at].Used[kind]), number(n))
			} else {
				sum.Add(number(l[at].Used[kind]), number(n))
			}
			if back && sum.Sign() < 0 {
				return l, api.ErrState
			} else if !sum.IsUint64() {
				return l, api.ErrOver
			}
			told[at].Used[kind] = sum.Uint64()
		}
		if !back && !fitsByHand(told[at].Used, l[at].Limit) {
			return l, api.ErrQuota
		}
	}
	return told, api.OK
}

// couldByHand tells what Could should say.
func couldByHand(l list, path string, v vec.Vec) bool {
	var unused list
	for _, e := range l {
		unused = append(unused, quota.Entry{Path: e.Path, Limit: e.Limit})
	}
	_, also := turnByHand(unused, path, v, false)
	return also == api.OK
}

// rightByHand asks of each entry, and of each two, what the chapter asks.
func rightByHand(l list) bool {
	if len(l) < 1 || len(l) > 16 || l[0].Path != "" {
		return false
	}
	for i, e := range l {
		if i > 0 && (l[i-1].Path >= e.Path || !pathForm.MatchString(e.Path) || firstByHand(l, upByHand(e.Path)) < 0) || !fitsByHand(e.Used, e.Limit) {
			return false
		}
		for kind := range e.Used {
			sum := new(big.Int)
			for _, below := range l[1:] {
				if below.Path != "" && upByHand(below.Path) == e.Path {
					sum.Add(sum, number(below.Used[kind]))
				}
			}
			if sum.Cmp(number(e.Used[kind])) > 0 {
				return false
			}
		}
	}
	return true
}

// putByHand tells the form by the library's numbers.
func putByHand(l list) string {
	form := binary.AppendUvarint(nil, uint64(len(l)))
	for _, e := range l {
		form = append(binary.AppendUvarint(form, uint64(len(e.Path))), e.Path...)
		for _, v := range []vec.Vec{e.Limit, e.Used} {
			for _, n := range v {
				form = binary.AppendUvarint(form, n)
			}
		}
	}
	return string(form)
}

// getByHand reads by the library's numbers, and takes only what putByHand puts just so.
func getByHand(s string, at int) (list, int, bool) {
	if at < 0 || at >= len(s) {
		return nil, 0, false
	}
	left := []byte(s[at:])
	take := func() uint64 {
		n, size := binary.Uvarint(left)
		left = left[max(size, 0):]
		return n
	}
	var l list
	for count := min(take(), 17); uint64(len(l)) < count; {
		size := min(take(), uint64(len(left)))
		e := quota.Entry{Path: string(left[:size])}
		left = left[size:]
		for kind := range 4 {
			e.Limit[kind] = take()
		}
		for kind := range 4 {
			e.Used[kind] = take()
		}
		l = append(l, e)
	}
	if form := putByHand(l); rightByHand(l) && strings.HasPrefix(s[at:], form) {
		return l, at + len(form), true
	}
	return nil, 0, false
}

// wantAsByHand asks every call of l, and wants what is told by hand, and l as it was.
func wantAsByHand(t *testing.T, l list, path string, v vec.Vec) {
	t.Helper()
	was := append(list(nil), l...)
	want, wantAlso := l, setErrnoByHand(l, path, v)
	if wantAlso == api.OK {
		want = setByHand(l, path, v)
	}
	got, also := quota.Set(l, path, v)
	wantTree(t, "Set "+path, got, also, want, wantAlso)
	want, wantAlso = turnByHand(l, path, v, false)
	got, also = quota.Charge(l, path, v)
	wantTree(t, "Charge "+path, got, also, want, wantAlso)
	want, wantAlso = turnByHand(l, path, v, true)
	got, also = quota.Refund(l, path, v)
	wantTree(t, "Refund "+path, got, also, want, wantAlso)
	if quota.Could(l, path, v) != couldByHand(l, path, v) {
		t.Fatalf("Could(%v, %q, %v) = %v", l, path, v, !couldByHand(l, path, v))
	}
	var found quota.Entry
	at := firstByHand(l, path)
	if at >= 0 {
		found = l[at]
	}
	if e, ok := quota.Find(l, path); e != found || ok != (at >= 0) {
		t.Fatalf("Find(%v, %q) = %v, %v", l, path, e, ok)
	}
	if !slices.Equal(l, was) {
		t.Fatalf("the list was %v and is %v", was, l)
	}
}

// wantRightByHand asks whether l is right, and for its form, both ways.
func wantRightByHand(t *testing.T, l list) {
	t.Helper()
	if got := quota.Right(l); got != rightByHand(l) {
		t.Fatalf("Right(%v) = %v", l, got)
	}
	form := quota.Put(l)
	if form != putByHand(l) {
		t.Fatalf("Put(%v) = %q", l, form)
	}
	wantGetByHand(t, form, 0)
}

// P10.1 to P10.5: all lists of up to three sample entries, right or not, with each path and each amount.
func TestAllLists(t *testing.T) {
	entries := list{
		entry("", 9, 3), entry("", 4, 5), entry("", math.MaxUint64, math.MaxUint64-2), entry("a", 5, 2), {Path: "a", Limit: vec.Vec{9, 2, 9, 9}, Used: vec.Vec{3, 2, 1, 0}},
		entry("a/b", 9, 1), entry("a/b", math.MaxUint64, 1<<63), entry("a/c", math.MaxUint64, 1<<63), entry("a-", 2, 1), entry("b", 1, 0), entry("A", 9, 0), entry("b/", 0, 0),
	}
	paths := []string{"", "a", "a/b", "a/c", "a-", "b", "A", "c", "b/", "a/b/c"}
	amounts := []vec.Vec{{}, all(1), all(3), {5, 0, 0, 1}, one(2, math.MaxUint64), most}
	var grow func(l list)
	grow = func(l list) {
		wantRightByHand(t, l)
		for _, path := range paths {
			for _, v := range amounts {
				wantAsByHand(t, l, path, v)
			}
		}
		if len(l) == 3 {
			return
		}
		for _, e := range entries {
			grow(append(slices.Clip(l), e))
		}
	}
	grow(nil)
}

// step is one call.
type step struct {
	call string
	path string
	v    vec.Vec
}

// play does a step by the package.
func play(l list, p step) (list, api.Errno) {
	switch p.call {
	case "Set":
		return quota.Set(l, p.path, p.v)
	case "Charge":
		return quota.Charge(l, p.path, p.v)
	default:
		return quota.Refund(l, p.path, p.v)
	}
}

func sampleSteps() []step {
	var steps []step
	for _, path := range []string{"", "a", "a/b", "b", "a/"} {
		for _, v := range []vec.Vec{all(2), {1, 0, 3, 1}} {
			for _, call := range []string{"Set", "Charge", "Refund"} {
				steps = append(steps, step{call, path, v})
			}
		}
	}
	return steps
}

// P10.1 to P10.5: all rows of up to five sample calls, from new trees, each held against the calls by hand.
func TestAllRowsOfCalls(t *testing.T) {
	row := []list{nil, quota.New(all(3)), quota.New(most)}
	for range 5 {
		seen := map[string]bool{}
		var next []list
		for _, l := range row {
			for _, p := range sampleSteps() {
				wantAsByHand(t, l, p.path, p.v)
				got, _ := play(l, p)
				if form := quota.Put(got); !seen[form] {
					wantRightByHand(t, got)
					seen[form] = true
					next = append(next, got)
				}
			}
		}
		row = next
	}
}

// ledger is what was charged at paths, one by one, and not refunded.
type ledger []step

// wantUsed wants that of each entry is used what was charged at it and below it, and that the tree is right.
func (charged ledger) wantUsed(t *testing.T, l list) {
	t.Helper()
	if !quota.Right(l) {
		t.Fatalf("not right: %v", l)
	}
	for _, e := range l {
		var want vec.Vec
		for _, p := range charged {
			if e.Path == "" || p.path == e.Path || strings.HasPrefix(p.path, e.Path+"/") {
				for kind, n := range p.v {
					want[kind] += n
				}
			}
		}
		if e.Used != want {
			t.Fatalf("of %q %v is used, want %v", e.Path, e.Used, want)
		}
	}
}

// P10.6: what is right stays so, what is charged is used at each above, and refunding all, in any order, leaves nothing used.
func TestChargedIsRefunded(t *testing.T) {
	chance := rand.New(rand.NewSource(1))
	paths := []string{"", "a", "a-", "a/b", "a/b/c", "a/b/d", "a/c", "b", "b/a", "ab", "x", "x/y"}
	told := map[api.Errno]int{}
	for range 600 {
		l, charged := quota.New(all(60)), ledger{}
		for range 60 {
			path := paths[chance.Intn(len(paths))]
			amount := vec.Vec{uint64(chance.Intn(12)), uint64(chance.Intn(9)), uint64(chance.Intn(6)), uint64(chance.Intn(3))}
			was := l
			var also api.Errno
			switch chance.Intn(5) {
			case 0, 1:
				l, also = quota.Set(l, path, all(uint64(chance.Intn(40))))
			case 2, 3:
				if l, also = quota.Charge(l, path, amount); also == api.OK {
					back := refund(t, l, path, amount)
					wantTree(t, "Refund "+path, back, api.OK, was, api.OK)
					charged = append(charged, step{path: path, v: amount})
				}
			default:
				if len(charged) > 0 {
					at := chance.Intn(len(charged))
					l = refund(t, l, charged[at].path, charged[at].v)
					charged = slices.Delete(charged, at, at+1)
				}
			}
			told[also]++
			if also != api.OK && !slices.Equal(l, was) {
				t.Fatalf("with error %d the tree was %v and is %v", also, was, l)
			}
			charged.wantUsed(t, l)
		}
		chance.Shuffle(len(charged), func(i, j int) { charged[i], charged[j] = charged[j], charged[i] })
		for len(charged) > 0 {
			l = refund(t, l, charged[0].path, charged[0].v)
			charged = charged[1:]
			charged.wantUsed(t, l)
		}
	}
	if told[api.OK] < 1000 || told[api.ErrNone] < 1000 || told[api.ErrQuota] < 1000 {
		t.Errorf("told %v", told)
	}
}

// P3: what is handed in is not written into, nor what stands behind it; what is told is memory of its own.
func TestMemory(t *testing.T) {
	const spare = 4
	behind := sampleTree()
	behind = append(behind, slices.Repeat(list{entry("behind", 7, 7)}, spare)...)
	was := slices.Clone(behind)
	l := behind[:len(behind)-spare]
	for _, c := range []struct {
		step
		want api.Errno
	}{
		{step{"Set", "a", all(40)}, api.OK},
		{step{"Set", "aa", all(40)}, api.OK},
		{step{"Set", "z", all(40)}, api.OK},
		{step{"Set", "A", all(40)}, api.ErrName},
		{step{"Set", "d/e", all(40)}, api.ErrNone},
		{step{"Set", "a", all(1)}, api.ErrQuota},
		{step{"Charge", "a/b", all(1)}, api.OK},
		{step{"Charge", "A", all(1)}, api.ErrName},
		{step{"Charge", "d", all(1)}, api.ErrNone},
		{step{"Charge", "a/b/c", all(6)}, api.ErrQuota},
		{step{"Charge", "a/b/c", most}, api.ErrOver},
		{step{"Refund", "a/b/c", all(1)}, api.OK},
		{step{"Refund", "A", all(1)}, api.ErrName},
		{step{"Refund", "d", all(1)}, api.ErrNone},
		{step{"Refund", "a/b/c", all(6)}, api.ErrState},
	} {
		got, also := play(l, c.step)
		if also != c.want || !slices.Equal(behind, was) {
			t.Fatalf("%v: %d, and the list is %v", c, also, behind)
		}
		for i := range got {
			got[i] = quota.Entry{}
		}
		clear(append(got, entry("more", 1, 1)))
		if !slices.Equal(behind, was) {
			t.Fatalf("what %v told is a part of the list", c)
		}
	}
	full := slices.Repeat(l, api.MaxPaths)
	got, also := quota.Set(full, "aa", all(1))
	clear(got)
	wantTree(t, "Set", full, also, slices.Repeat(l, api.MaxPaths), api.ErrFull)
	quota.Could(l, "a/b", all(1))
	quota.Right(l)
	quota.Put(l)
	if !slices.Equal(behind, was) {
		t.Fatalf("the list is %v", behind)
	}
	unordered := list{entry("", 9, 3), entry("b", 9, 1), entry("a", 9, 1), entry("a", 9, 0)}
	was = slices.Clone(unordered)
	if quota.Right(unordered) || !slices.Equal(unordered, was) {
		t.Errorf("Right, and the list is %v", unordered)
	}
}

// P10.2, P10.5: lists of very many entries are gone through all the same.
func TestManyEntries(t *testing.T) {
	const many = 200000
	l := slices.Repeat(list{entry("a", 3, 1)}, many)
	l = append(l, entry("", 3, 1))
	if got := charge(t, l, "a", all(1)); got[0] != entry("a", 3, 2) || got[1] != entry("a", 3, 1) || got[many] != entry("", 3, 2) {
		t.Errorf("Charge = %v .. %v", got[:2], got[many])
	}
	if quota.Right(l) || len(quota.Put(l)) != 3+many*10+9 {
		t.Error("Right, or Put")
	}
	wantNone(t, quota.Put(l), 0)
	got, also := quota.Set(l, "b", all(1))
	wantTree(t, "Set", got, also, l, api.ErrFull)
}

// P4: the same is told again, also to many at one time.
func TestToldAgain(t *testing.T) {
	l := sampleTree()
	form := quota.Put(l)
	var told [8][]string
	var all sync.WaitGroup
	for i := range told {
		all.Go(func() {
			for range 100 {
				told[i] = nil
				for _, p := range sampleSteps() {
					got, _ := play(l, p)
					again, _, _ := quota.Get(quota.Put(got), 0)
					told[i] = append(told[i], quota.Put(again))
				}
			}
		})
	}
	all.Wait()
	for i := range told {
		if !slices.Equal(told[i], told[0]) {
			t.Errorf("%q, then %q", told[0], told[i])
		}
	}
	if quota.Put(l) != form {
		t.Errorf("the tree is %v", l)
	}
}

// P1 to P6: at any argument a call ends, and tells what the words say.
func FuzzCalls(f *testing.F) {
	f.Add("", "a", "a/b", "a", uint64(9), uint64(3), uint64(2), uint64(1), uint8(3), "\x01\x00", 0)
	f.Add("", "a", "a/b", "a/b", uint64(9), uint64(math.MaxUint64), uint64(2), uint64(1), uint8(3), quota.Put(sampleTree()), 0)
	f.Add("b", "", "b/c", "b/c", uint64(math.MaxUint64), uint64(1<<63), uint64(1<<63), uint64(0), uint8(2), "z"+quota.Put(goodTrees()[3]), 1)
	f.Add("", "", "\xff", "A", uint64(1), uint64(2), uint64(3), uint64(4), uint8(20), quota.Put(list{{}}), math.MinInt)
	f.Fuzz(func(t *testing.T, first, second, third, path string, a, b, c, d uint64, count uint8, s string, at int) {
		whole := list{
			{Path: first, Limit: vec.Vec{a, b, c, d}, Used: vec.Vec{d, c, b, a}},
			{Path: second, Limit: vec.Vec{a, a, b, b}, Used: vec.Vec{c, d, c, d}},
			{Path: third, Limit: vec.Vec{b, c, d, a}, Used: vec.Vec{a & 3, b & 3, c & 3, d & 3}},
		}
		l := slices.Repeat(whole, 1+int(count)/3)[:int(count)%24]
		wantAsByHand(t, l, path, vec.Vec{a, b, c, d})
		wantAsByHand(t, l, path, vec.Vec{d & 1, c & 1, b & 1, a & 1})
		wantRightByHand(t, l)
		wantGetByHand(t, s, at)
	})
}
