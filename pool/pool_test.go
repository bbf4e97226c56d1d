package pool_test

import (
	"fmt"
	"maps"
	"math"
	"math/rand"
	"slices"
	"strings"
	"sync"
	"testing"

	"demesne/api"
	"demesne/label"
	"demesne/pool"
	"demesne/vec"
)

// most is the greatest amount of each kind.
var most = all(math.MaxUint64)

// all tells n of each kind.
func all(n uint64) vec.Vec { return vec.Vec{n, n, n, n} }

// one tells n of that kind alone.
func one(kind int, n uint64) vec.Vec {
	var v vec.Vec
	v[kind] = n
	return v
}

// up and down tell a node that has the same of each kind.
func up(name string, has uint64, labels ...label.Pair) pool.Node {
	return pool.Node{Name: name, Cap: all(has), Labels: labels, Up: true}
}

func down(name string, has uint64, labels ...label.Pair) pool.Node {
	n := up(name, has, labels...)
	n.Up = false
	return n
}

// on tells a place that has the same of each kind.
func on(job uint64, node string, has uint64) pool.Place {
	return pool.Place{Job: job, Node: node, V: all(has)}
}

// nodes tells a pool of these alone.
func nodes(l ...pool.Node) pool.Pool { return pool.Pool{Nodes: l} }

// with tells p with these places, and no others.
func with(p pool.Pool, l ...pool.Place) pool.Pool { return pool.Pool{Nodes: p.Nodes, Places: l} }

// labels tells the labels that are shown so.
func labels(text string) []label.Pair {
	l, ok := label.Parse(text)
	if !ok {
		panic("no labels: " + text)
	}
	return l
}

// samplePool has nodes of all sorts, and jobs with copies here and there.
func samplePool() pool.Pool {
	return with(
		nodes(up("a", 10), down("b", 9, labels("disk=ssd,zone=a")...), up("c", 8, labels("zone=b")...), up("d", 0), down("e", 5)),
		on(7, "a", 2), on(3, "c", 1), on(7, "a", 2), on(300, "b", 4), on(7, "c", 0), on(3, "a", 6), on(300, "b", 5), on(9, "d", 0))
}

// names tells n names that rise.
func names(n int) (l []string) {
	for i := range n {
		l = append(l, "n"+string(rune('a'+i%26))+strings.Repeat("-", i/26))
	}
	slices.Sort(l)
	return l
}

// manyNodes tells a pool of n nodes.
func manyNodes(n int) (p pool.Pool) {
	for _, name := range names(n) {
		p.Nodes = append(p.Nodes, up(name, 9))
	}
	return p
}

// noNames are texts that are no names.
var noNames = []string{
	"", " ", "A", "0", "9a", "-", "-a", "a b", "a ", " a", "a/b", "a/", "/", "a=", "a,", "?", "aB", "a\x00", "a\n", "é", "a\xff", "\xff", "\xce", "\xc1\xa1", "€",
	strings.Repeat("a", api.MaxName+1), strings.Repeat("я", api.MaxName+1), strings.Repeat("a", 2*api.MaxName), strings.Repeat("a", 2*api.MaxName+1), strings.Repeat("a", 1000),
}

// manyLabels tells n labels whose keys rise.
func manyLabels(n int) (l []label.Pair) {
	for _, name := range names(n) {
		l = append(l, label.Pair{Key: name, Value: "v"})
	}
	return l
}

// noLabels are labels that are not right.
func noLabels() [][]label.Pair {
	return [][]label.Pair{
		{{}}, {{Key: "a"}}, {{Value: "a"}}, {{Key: "A", Value: "a"}}, {{Key: "a", Value: "A"}},
		{{Key: "b", Value: "v"}, {Key: "a", Value: "v"}},
		{{Key: "a", Value: "v"}, {Key: "a", Value: "v"}},
		{{Key: "a", Value: "v"}, {Key: "b", Value: "a b"}},
		manyLabels(api.MaxLabels + 1),
		slices.Repeat([]label.Pair{{Key: "a", Value: "v"}}, 1000),
	}
}

// The chapter's example.
func TestExample(t *testing.T) {
	got, also := pool.Lay(pool.Pool{}, 1, []string{"a"}, vec.Vec{})
	wantPool(t, "Lay", got, also, pool.Pool{}, api.ErrNone)
}

// P12.1: the first node of just that Name is found, wherever it stands, with all its fields.
func TestFind(t *testing.T) {
	p := samplePool()
	for _, n := range p.Nodes {
		if got, ok := pool.Find(p, n.Name); !ok || showNode(got) != showNode(n) {
			t.Errorf("Find(%q) = %v, %v", n.Name, got, ok)
		}
	}
	for _, name := range append([]string{"f", "aa", "a-", "zone", "ssd", "á"}, noNames...) {
		if got, ok := pool.Find(p, name); ok || showNode(got) != showNode(pool.Node{}) {
			t.Errorf("Find(%q) = %v, %v", name, got, ok)
		}
	}
	odd := nodes(up("b", 1), down("?", 2, label.Pair{}), up("b", 3), down("", 4), up("", 5), up("\xff", 6), up("a", 7))
	for name, at := range map[string]int{"b": 0, "?": 1, "": 3, "\xff": 5, "a": 6} {
		if got, ok := pool.Find(odd, name); !ok || showNode(got) != showNode(odd.Nodes[at]) {
			t.Errorf("Find(%q) = %v, %v", name, got, ok)
		}
	}
	for _, p := range []pool.Pool{{}, with(pool.Pool{}, on(1, "a", 1)), nodes(up("b", 1))} {
		if got, ok := pool.Find(p, "a"); ok || showNode(got) != showNode(pool.Node{}) {
			t.Errorf("Find of none = %v, %v", got, ok)
		}
	}
}

// P12.1: nodes are put by the bytes of their Names, in whatever order they come, up, and as they are else.
func TestAddPutsInOrder(t *testing.T) {
	sorted := []string{"a", "a-", "a-b", "a0", "a9", "aa", "ab", "b", "z", "zz", "zzzz", "α", "ω", "а", "ааа", "я"}
	chance := rand.New(rand.NewSource(1))
	for range 300 {
		var p pool.Pool
		p.Places = []pool.Place{on(1, "a", 1), on(2, "x", 2)}
		for _, i := range chance.Perm(len(sorted)) {
			n := pool.Node{Name: sorted[i], Cap: vec.Vec{uint64(i), 1, 2, math.MaxUint64}, Labels: manyLabels(i % (api.MaxLabels + 1)), Up: i%2 == 0}
			wantAdded(t, p, n)
			p, _ = pool.Add(p, n)
		}
		for i, n := range p.Nodes {
			want := pool.Node{Name: sorted[i], Cap: vec.Vec{uint64(i), 1, 2, math.MaxUint64}, Labels: manyLabels(i % (api.MaxLabels + 1)), Up: true}
			if showNode(n) != showNode(want) {
				t.Fatalf("node %d is %v, want %v", i, n, want)
			}
		}
		if len(p.Nodes) != api.MaxNodes || len(p.Places) != 2 {
			t.Fatalf("grown is %s", show(p))
		}
	}
}

// P12.1: in a pool that is not in order a new node goes ahead of the first one whose Name is not less.
func TestAddToUnordered(t *testing.T) {
	for _, c := range []struct {
		names []string
		name  string
		at    int
	}{
		{[]string{"", "z", "a", "c"}, "b", 1},
		{[]string{"a", "c", "", "b"}, "bb", 1},
		{[]string{"a", "", "y", "y"}, "z", 4},
		{[]string{"z", "a"}, "b", 0},
		{[]string{"", "a", "\xff", "a"}, "я", 2},
		{nil, "a", 0},
	} {
		var p pool.Pool
		for i, name := range c.names {
			p.Nodes = append(p.Nodes, down(name, uint64(i)))
		}
		want := nodes(slices.Insert(slices.Clone(p.Nodes), c.at, up(c.name, 7))...)
		got, also := pool.Add(p, down(c.name, 7))
		wantPool(t, "Add", got, also, want, api.OK)
	}
}

// P12.1: a Name that is none is told ahead of all else, also where there is such a node.
func TestAddErrName(t *testing.T) {
	for _, name := range noNames {
		for _, p := range []pool.Pool{{}, samplePool(), manyNodes(api.MaxNodes), manyNodes(100), nodes(up(name, 1)), nodes(append(manyNodes(16).Nodes, up(name, 1))...)} {
			for _, l := range append(noLabels(), nil, labels("a=b")) {
				got, also := pool.Add(p, up(name, 1, l...))
				wantPool(t, "Add", got, also, p, api.ErrName)
			}
		}
	}
}

// P12.1: labels that are not right are told ahead of a Name that is there, and of a pool that is full.
func TestAddErrForm(t *testing.T) {
	for _, l := range noLabels() {
		for _, p := range []pool.Pool{{}, samplePool(), manyNodes(api.MaxNodes), nodes(append(manyNodes(16).Nodes, up("a", 1))...)} {
			got, also := pool.Add(p, up("a", 1, l...))
			wantPool(t, "Add", got, also, p, api.ErrForm)
		}
	}
	for n := range api.MaxLabels + 1 {
		if _, also := pool.Add(samplePool(), up("x", 1, manyLabels(n)...)); also != api.OK {
			t.Errorf("Add with %d labels told %d", n, also)
		}
	}
}

// P12.1: a Name that is there is told ahead of a pool that is full; it may stand anywhere, and be up or down.
func TestAddErrTwice(t *testing.T) {
	for _, p := range []pool.Pool{samplePool(), manyNodes(api.MaxNodes), manyNodes(50), nodes(up("b", 1), up("a", 2)), nodes(up("z", 1), up("a", 2), up("a", 3))} {
		for _, n := range p.Nodes {
			for _, again := range []pool.Node{n, up(n.Name, 99), down(n.Name, 0, labels("a=b")...)} {
				got, also := pool.Add(p, again)
				wantPool(t, "Add", got, also, p, api.ErrTwice)
			}
		}
	}
}

// P12.1: as many as MaxNodes are there, one more is not put, wherever it would stand.
func TestAddErrFull(t *testing.T) {
	for n := range 40 {
		p := manyNodes(n)
		for _, name := range []string{"a", "m", "naa", "ng0", "z", "я"} {
			wantAdded(t, p, up(name, 1))
			if _, also := pool.Add(p, up(name, 1)); (also == api.ErrFull) != (n >= api.MaxNodes) {
				t.Errorf("Add to %d nodes told %d", n, also)
			}
		}
	}
	full := nodes(slices.Repeat([]pool.Node{up("", 1)}, 1000)...)
	got, also := pool.Add(full, up("a", 1))
	wantPool(t, "Add", got, also, full, api.ErrFull)
}

// P12.2: what is free is Cap less what stands on just that node, be it up or down; P1: the edges of 64 bits.
func TestFree(t *testing.T) {
	p := samplePool()
	for name, want := range map[string]uint64{"a": 0, "b": 0, "c": 7, "d": 0, "e": 5} {
		if v, ok := pool.Free(p, name); v != all(want) || !ok {
			t.Errorf("Free(%q) = %v, %v", name, v, ok)
		}
	}
	for _, name := range append([]string{"f", "aa"}, noNames...) {
		if v, ok := pool.Free(with(p, append(p.Places, on(1, name, 0))...), name); v != (vec.Vec{}) || ok {
			t.Errorf("Free(%q) = %v, %v", name, v, ok)
		}
	}
	for kind := range 4 {
		for _, n := range []uint64{0, 1, 5, 1 << 63, math.MaxUint64} {
			for _, places := range [][]uint64{{}, {0}, {n}, {n, 0}, {n, 1}, {n, 1, 0}, {n - 1, 1}, {n - 1, 2}, {n / 2, n / 2}, {n/2 + 1, n / 2}, {n/2 + 1, n/2 + 1}, {1, n}, {n, n}, {n, n, 2}, {1 << 63, 1 << 63}, {math.MaxUint64, 1}, {math.MaxUint64, math.MaxUint64, 2}} {
				p := nodes(pool.Node{Name: "x", Cap: one(kind, n)}, up("y", 3))
				for job, has := range places {
					p.Places = append(p.Places, pool.Place{Job: uint64(job), Node: "x", V: one(kind, has)}, on(1, "y", 1), on(1, "z", 9))
				}
				wantNamed(t, p, "x")
			}
		}
	}
}

// P12.2: what has not fitted once doesn't fit again, though nothing more stands there.
func TestFreeStaysNo(t *testing.T) {
	for _, places := range [][]pool.Place{
		{on(1, "a", 6), on(1, "a", 0)},
		{on(1, "a", 6), on(1, "a", 6), on(2, "a", 0)},
		{{Node: "a", V: one(3, 6)}, {Node: "a", V: one(0, 1)}},
		{on(1, "a", 5), {Node: "a", V: one(2, 1)}, on(1, "a", 0), on(1, "a", 0)},
	} {
		p := with(nodes(up("a", 5)), places...)
		if v, ok := pool.Free(p, "a"); v != (vec.Vec{}) || ok {
			t.Errorf("Free = %v, %v", v, ok)
		}
		got, also := pool.Lay(p, 1, []string{"a"}, vec.Vec{})
		wantPool(t, "Lay", got, also, p, api.ErrRoom)
		if len(pool.Slots(p)) != 0 || pool.Right(p) {
			t.Errorf("Slots = %v, Right = %v", pool.Slots(p), pool.Right(p))
		}
	}
}

// P12.2: copies go behind the others, in the order of the nodes, each with v; of any job, also one that stands already.
func TestLay(t *testing.T) {
	p := with(nodes(up("a", 9), up("b", 9), down("c", 9)), on(5, "b", 1), on(4, "c", 9))
	for _, job := range []uint64{0, 1, 4, 5, math.MaxUint64} {
		for _, on := range [][]string{nil, {}, {"a"}, {"b", "a"}, {"a", "a", "b", "a", "b"}, slices.Repeat([]string{"b"}, 8)} {
			v := vec.Vec{1, 0, 1, 1}
			want := p
			for _, name := range on {
				want.Places = append(slices.Clip(want.Places), pool.Place{Job: job, Node: name, V: v})
			}
			got, also := pool.Lay(p, job, on, v)
			wantPool(t, "Lay", got, also, want, api.OK)
		}
	}
}

// P12.2: a node is filled up, and not above, by what is laid ahead in the same call, too, of whichever kind.
func TestLayUpToCap(t *testing.T) {
	for kind := range 4 {
		for _, c := range []struct{ has, stands, v, copies uint64 }{
			{10, 0, 5, 2}, {10, 0, 3, 3}, {10, 4, 3, 2}, {10, 4, 2, 3}, {10, 10, 1, 0}, {10, 0, 11, 0}, {10, 0, 10, 1}, {0, 0, 1, 0},
			{math.MaxUint64, 0, 1 << 63, 1}, {math.MaxUint64, 0, 1<<63 - 1, 2}, {math.MaxUint64, 0, math.MaxUint64, 1}, {math.MaxUint64, 1, math.MaxUint64, 0}, {1 << 63, 0, math.MaxUint64, 0},
		} {
			p := nodes(up("a", 0), pool.Node{Name: "b", Cap: one(kind, c.has), Up: true}, up("c", 0))
			p.Places = []pool.Place{{Job: 1, Node: "b", V: one(kind, c.stands)}}
			for copies := range c.copies + 3 {
				want := api.OK
				if copies > c.copies {
					want = api.ErrRoom
				}
				on := slices.Repeat([]string{"b"}, int(copies))
				if _, also := pool.Lay(p, 2, on, one(kind, c.v)); also != want {
					t.Errorf("Lay of %d copies of %v told %d", copies, c, also)
				}
				wantLaid(t, p, 2, on, one(kind, c.v))
			}
		}
	}
	// Of a demand of nothing as many are laid as are asked for, on a full node, too.
	full := with(nodes(up("a", 3)), on(1, "a", 3))
	if got, also := pool.Lay(full, 2, slices.Repeat([]string{"a"}, 500), vec.Vec{}); also != api.OK || len(pool.Of(got, 2)) != 500 || len(got.Places) != 501 {
		t.Errorf("Lay told %d, %d places", also, len(got.Places))
	}
}

// P12.2: the first node that says no tells its error, whatever stands behind it, and of one node the errors go in their order.
func TestLayErrorsInOrder(t *testing.T) {
	p := with(nodes(up("fine", 99), down("off", 99), up("full", 1), down("offfull", 1), up("over", 1), down("offover", 1)),
		on(1, "full", 1), on(1, "offfull", 1), on(1, "over", 2), on(1, "offover", 2), on(1, "gone", 1))
	says := map[string]api.Errno{"fine": api.OK, "off": api.ErrDown, "full": api.ErrRoom, "offfull": api.ErrDown, "over": api.ErrRoom, "offover": api.ErrDown, "gone": api.ErrNone, "": api.ErrNone}
	all := slices.Sorted(maps.Keys(says))
	var grow func(on []string, want api.Errno)
	grow = func(on []string, want api.Errno) {
		if _, also := pool.Lay(p, 1, on, vec.Vec{1, 1, 1, 1}); also != want {
			t.Errorf("Lay on %q told %d, want %d", on, also, want)
		}
		wantLaid(t, p, 1, on, vec.Vec{1, 1, 1, 1})
		if len(on) == 4 {
			return
		}
		for _, name := range all {
			next := want
			if want == api.OK {
				next = says[name]
			}
			grow(append(slices.Clip(on), name), next)
		}
	}
	grow(nil, api.OK)
}

// P12.2: of a job that stands nowhere nothing is dropped, and of one that stands all, and of no other; Of tells its nodes as they stand.
func TestDropAndOf(t *testing.T) {
	p := samplePool()
	for job, want := range map[uint64][]string{7: {"a", "a", "c"}, 3: {"c", "a"}, 300: {"b", "b"}, 9: {"d"}, 0: nil, 44: nil, math.MaxUint64: nil, 300 + 1<<32: nil} {
		if got := pool.Of(p, job); !slices.Equal(got, want) {
			t.Errorf("Of(%d) = %q", job, got)
		}
		left := pool.Drop(p, job)
		if len(left.Places) != len(p.Places)-len(want) || len(pool.Of(left, job)) != 0 {
			t.Errorf("Drop(%d) = %s", job, show(left))
		}
		wantJob(t, p, job)
	}
	none := with(pool.Pool{}, on(1, "x", 1), on(2, "", 1), on(1, "y", 1))
	wantJob(t, none, 1)
	wantJob(t, none, 2)
}

// P12.3: a node that fails goes down, its places stay; who stands there is told, rising, each once.
func TestFail(t *testing.T) {
	p := with(nodes(up("a", 9), up("b", 9), down("c", 9)),
		on(9, "a", 1), on(4, "a", 1), on(5, "b", 1), on(9, "a", 1), on(math.MaxUint64, "a", 1), on(0, "a", 1), on(4, "a", 1), on(10, "a", 0), on(1, "c", 1), on(1<<32, "a", 1), on(2, "gone", 1))
	for name, want := range map[string][]uint64{"a": {0, 4, 9, 10, 1 << 32, math.MaxUint64}, "b": {5}} {
		got, jobs, also := pool.Fail(p, name)
		if also != api.OK || !slices.Equal(jobs, want) || !slices.Equal(got.Places, p.Places) {
			t.Errorf("Fail(%q) = %s, %d, %d", name, show(got), jobs, also)
		}
		for i, n := range got.Nodes {
			if was := p.Nodes[i]; n.Up != (was.Up && n.Name != name) || n.Name != was.Name || n.Cap != was.Cap {
				t.Errorf("node %v was %v", n, was)
			}
		}
		again, jobs, also := pool.Fail(got, name)
		wantPool(t, "Fail again", again, also, got, api.ErrState)
		if len(jobs) != 0 {
			t.Errorf("Fail again told %d", jobs)
		}
		back, also := pool.Mend(got, name)
		wantPool(t, "Mend", back, also, p, api.OK)
	}
	for name, want := range map[string]api.Errno{"c": api.ErrState, "gone": api.ErrNone, "": api.ErrNone, "aa": api.ErrNone} {
		got, jobs, also := pool.Fail(p, name)
		wantPool(t, "Fail", got, also, p, want)
		if len(jobs) != 0 {
			t.Errorf("Fail(%q) told %d", name, jobs)
		}
	}
	if _, jobs, also := pool.Fail(nodes(up("a", 1)), "a"); also != api.OK || len(jobs) != 0 {
		t.Errorf("Fail of a bare node told %d, %d", jobs, also)
	}
}

// P12.3: many jobs are told rising, in whatever order they stand, the same again.
func TestFailTellsRising(t *testing.T) {
	chance := rand.New(rand.NewSource(1))
	for range 200 {
		p := nodes(up("a", 0), up("b", 0))
		for range chance.Intn(60) {
			p.Places = append(p.Places, on(uint64(chance.Intn(40)), []string{"a", "b"}[chance.Intn(2)], 0))
		}
		wantNamed(t, p, "a")
		wantNamed(t, p, "b")
	}
}

// P12.3: a node that is down goes up, with what stands on it; one that is up, or not there, does not.
func TestMend(t *testing.T) {
	p := samplePool()
	for name, want := range map[string]api.Errno{"a": api.ErrState, "b": api.OK, "c": api.ErrState, "d": api.ErrState, "e": api.OK, "f": api.ErrNone, "": api.ErrNone} {
		turned := p
		if want == api.OK {
			turned.Nodes = slices.Clone(p.Nodes)
			turned.Nodes[firstByHand(p, name)].Up = true
		}
		got, also := pool.Mend(p, name)
		wantPool(t, "Mend "+name, got, also, turned, want)
	}
}

// P12.3: slots are those nodes that are up, and on which not more stands than they have, in the order of the pool.
func TestSlots(t *testing.T) {
	zone := labels("zone=b")
	for _, c := range []struct {
		p    pool.Pool
		want []pool.Slot
	}{
		{pool.Pool{}, nil},
		{with(pool.Pool{}, on(1, "a", 1)), nil},
		{samplePool(), []pool.Slot{{Node: "a"}, {Node: "c", Free: all(7), Labels: zone}, {Node: "d"}}},
		{with(nodes(up("a", 1), up("b", 1, zone...), down("c", 1)), on(1, "a", 2)), []pool.Slot{{Node: "b", Free: all(1), Labels: zone}}},
		{nodes(down("a", 1), up("z", 1), up("b", 2)), []pool.Slot{{Node: "z", Free: all(1)}, {Node: "b", Free: all(2)}}},
		{nodes(up("A", 1, label.Pair{}), up("", 2)), []pool.Slot{{Node: "A", Free: all(1), Labels: []label.Pair{{}}}, {Node: "", Free: all(2)}}},
	} {
		if got := pool.Slots(c.p); showSlots(got) != showSlots(c.want) {
			t.Errorf("Slots of\n%s= %v", show(c.p), got)
		}
	}
}

// P12.1 to P12.3: of nodes of one Name the first one is meant, by each call.
func TestFirstOfOneName(t *testing.T) {
	p := with(nodes(down("b", 9), up("a", 7, labels("zone=a")...), up("b", 3), down("a", 1)), on(1, "a", 2), on(2, "b", 4))
	for _, name := range []string{"a", "b", "c"} {
		wantNamed(t, p, name)
		wantLaid(t, p, 5, []string{name}, all(5))
		wantLaid(t, p, 5, []string{name}, all(6))
	}
	if v, ok := pool.Free(p, "a"); v != all(5) || !ok {
		t.Errorf("Free = %v, %v", v, ok)
	}
	if _, also := pool.Lay(p, 5, []string{"b"}, vec.Vec{}); also != api.ErrDown {
		t.Errorf("Lay told %d", also)
	}
	// Free is told of a Name: the second b has the room of the first.
	want := []pool.Slot{{Node: "a", Free: all(5), Labels: labels("zone=a")}, {Node: "b", Free: all(5)}}
	if got := pool.Slots(p); showSlots(got) != showSlots(want) {
		t.Errorf("Slots = %v", got)
	}
}

// P12.3: bare is the pool with all nodes as they are, and without all places.
func TestBare(t *testing.T) {
	for _, p := range append(goods(), wrongs()...) {
		got := pool.Bare(p)
		if len(got.Places) != 0 || show(got) != show(nodes(p.Nodes...)) {
			t.Errorf("Bare of\n%s= %s", show(p), show(got))
		}
	}
}

// goods are right pools, with the edges of names, counts and amounts.
func goods() []pool.Pool {
	long := strings.Repeat("я", api.MaxName)
	wide := nodes(up("a", math.MaxUint64, manyLabels(api.MaxLabels)...), pool.Node{Name: long, Cap: vec.Vec{300, 1, 128, 1 << 63}, Labels: []label.Pair{{Key: long, Value: long}}})
	return []pool.Pool{
		{},
		{Nodes: []pool.Node{}, Places: []pool.Place{}},
		nodes(up("a", 0)),
		nodes(down("a", 0)),
		samplePool(),
		wide,
		with(wide, pool.Place{Job: math.MaxUint64, Node: long, V: vec.Vec{300, 1, 128, 1 << 63}}, on(0, "a", math.MaxUint64), on(0, "a", 0)),
		with(nodes(up("a", math.MaxUint64)), on(1, "a", 1<<63), on(128, "a", 1<<63-1)),
		with(nodes(up("a", 3), up("a-", 3), up("a0", 3), up("aa", 3), up("b", 3), up("α", 3), up("а", 3)), on(1, "а", 3), on(2, "a", 3)),
		manyNodes(api.MaxNodes),
		with(manyNodes(api.MaxNodes), slices.Repeat([]pool.Place{on(3, "na", 0)}, 256)...),
	}
}

// wrongs are pools that are not right, by one fault.
func wrongs() []pool.Pool {
	wrong := []pool.Pool{
		nodes(up("b", 1), up("a", 1)),
		nodes(up("a", 1), up("a", 1)),
		nodes(up("a", 1), up("a", 2)),
		nodes(up("a", 1), up("b", 1), up("a", 1)),
		nodes(up("a", 1), up("c", 1), up("b", 1)),
		nodes(up("aa", 1), up("a", 1)),
		nodes(up("a0", 1), up("a-", 1)),
		nodes(up("α", 1), up("z", 1)),
		nodes(up("а", 1), up("ω", 1)),
		with(pool.Pool{}, on(1, "a", 0)),
		with(nodes(up("a", 1)), on(1, "b", 0)),
		with(nodes(up("a", 1)), on(1, "", 0)),
		with(nodes(up("a", 1)), on(1, "a", 1), on(1, "aa", 0)),
		with(nodes(up("a", 1), up("b", 1)), on(1, "a", 1), on(1, "c", 0), on(1, "b", 1)),
		with(nodes(up("a", 1)), on(1, "a", 2)),
		with(nodes(down("a", 1)), on(1, "a", 2)),
		with(nodes(up("a", 5), up("b", 5)), on(1, "a", 5), on(2, "b", 3), on(3, "b", 3)),
		with(nodes(up("a", 5)), on(1, "a", 6), on(1, "a", 0)),
		with(nodes(up("a", math.MaxUint64)), on(1, "a", 1<<63), on(1, "a", 1<<63)),
		with(nodes(up("a", 1)), on(1, "a", math.MaxUint64), on(1, "a", 2)),
		manyNodes(api.MaxNodes + 1),
		manyNodes(100),
		nodes(slices.Repeat([]pool.Node{up("a", 1)}, 1000)...),
		{Nodes: make([]pool.Node, 17)},
	}
	for _, name := range noNames {
		wrong = append(wrong, nodes(up(name, 1)), nodes(up("a", 1), up(name, 1)), nodes(up(name, 1), up("я", 1)), with(nodes(up("a", 1)), on(1, name, 0)), with(nodes(up(name, 1)), on(1, name, 0)))
	}
	for _, l := range noLabels() {
		wrong = append(wrong, nodes(up("a", 1, l...)), nodes(down("a", 1, l...), up("b", 1)), nodes(up("a", 1), up("b", 1, l...)))
	}
	for kind := range 4 {
		wrong = append(wrong,
			with(nodes(up("a", 1)), pool.Place{Job: 1, Node: "a", V: one(kind, 2)}),
			with(nodes(up("a", 9), up("b", 3)), on(1, "b", 1), pool.Place{Job: 1, Node: "b", V: one(kind, 3)}),
			with(nodes(up("a", math.MaxUint64)), on(1, "a", math.MaxUint64), pool.Place{Job: 1, Node: "a", V: one(kind, 1)}))
	}
	return wrong
}

// P12.4: right pools, and what is not right; Right asks nothing of how many places there are.
func TestRight(t *testing.T) {
	for _, p := range goods() {
		if !pool.Right(p) || !rightByHand(p) {
			t.Errorf("not right:\n%s", show(p))
		}
	}
	for _, p := range wrongs() {
		if pool.Right(p) || rightByHand(p) {
			t.Errorf("right:\n%s", show(p))
		}
	}
	if p := with(nodes(up("a", 1000)), slices.Repeat([]pool.Place{on(1, "a", 1)}, 1000)...); !pool.Right(p) {
		t.Error("a thousand places are not right")
	}
}

// P12.4: two nodes that change places, or are there twice, are not right, wherever they stand.
func TestRightOrder(t *testing.T) {
	for i := range api.MaxNodes {
		for j := range i {
			p := manyNodes(api.MaxNodes)
			p.Nodes[i], p.Nodes[j] = p.Nodes[j], p.Nodes[i]
			if pool.Right(p) {
				t.Errorf("right:\n%s", show(p))
			}
			p = manyNodes(api.MaxNodes)
			p.Nodes[i] = p.Nodes[j]
			if pool.Right(p) {
				t.Errorf("right:\n%s", show(p))
			}
		}
	}
}

// P12.4: two pools are the same just if no field differs, whether they are right or not, and whether lists are nil or empty.
func TestSame(t *testing.T) {
	pools := append(goods(), wrongs()...)
	for _, a := range pools {
		for _, b := range pools {
			if got, want := pool.Same(a, b), show(a) == show(b); got != want {
				t.Errorf("Same = %v of\n%sand\n%s", got, show(a), show(b))
			}
		}
	}
	if !pool.Same(pool.Pool{}, pool.Pool{Nodes: []pool.Node{}, Places: []pool.Place{}}) || !pool.Same(nodes(pool.Node{Labels: []label.Pair{}}), nodes(pool.Node{})) {
		t.Error("nil and empty differ")
	}
}

// P12.4: each field counts, at each place.
func TestSameAsksEachField(t *testing.T) {
	build := func() pool.Pool {
		p := samplePool()
		p.Nodes[2].Labels = labels("disk=ssd,rack=x,zone=b")
		return p
	}
	differ := func(what string, turn func(p *pool.Pool)) {
		p := build()
		turn(&p)
		if pool.Same(p, build()) || pool.Same(build(), p) {
			t.Errorf("the same, though %s is turned", what)
		}
	}
	for i := range build().Nodes {
		differ("Name", func(p *pool.Pool) { p.Nodes[i].Name += "x" })
		differ("Up", func(p *pool.Pool) { p.Nodes[i].Up = !p.Nodes[i].Up })
		differ("Labels", func(p *pool.Pool) {
			p.Nodes[i].Labels = append(slices.Clip(p.Nodes[i].Labels), label.Pair{Key: "zz", Value: "v"})
		})
		for kind := range 4 {
			differ("Cap", func(p *pool.Pool) { p.Nodes[i].Cap[kind]++ })
		}
	}
	for i := range 3 {
		differ("Key", func(p *pool.Pool) { p.Nodes[2].Labels[i].Key += "x" })
		differ("Value", func(p *pool.Pool) { p.Nodes[2].Labels[i].Value += "x" })
	}
	for i := range build().Places {
		differ("Job", func(p *pool.Pool) { p.Places[i].Job++ })
		differ("Node", func(p *pool.Pool) { p.Places[i].Node += "x" })
		for kind := range 4 {
			differ("V", func(p *pool.Pool) { p.Places[i].V[kind]++ })
		}
	}
	differ("the last node", func(p *pool.Pool) { p.Nodes = p.Nodes[:4] })
	differ("the last place", func(p *pool.Pool) { p.Places = p.Places[:7] })
	differ("the order of nodes", func(p *pool.Pool) { slices.Reverse(p.Nodes) })
	differ("the order of places", func(p *pool.Pool) { p.Places[0], p.Places[1] = p.Places[1], p.Places[0] })
}

// P12.5: forms that were put together by hand.
func TestPut(t *testing.T) {
	for _, c := range []struct {
		p    pool.Pool
		want string
	}{
		{pool.Pool{}, "\x00\x00"},
		{nodes(up("a", 0)), "\x01\x01a\x00\x00\x00\x00\x00\x01\x00"},
		{nodes(down("a", 0)), "\x01\x01a\x00\x00\x00\x00\x00\x00\x00"},
		{nodes(pool.Node{Name: "б", Cap: vec.Vec{1, 2, 300, 4}, Labels: labels("disk=ssd,zone=x"), Up: true}), "\x01\x02б\x01\x02\xac\x02\x04\x02\x04disk\x03ssd\x04zone\x01x\x01\x00"},
		{with(nodes(up("a", 0), down("b", 1)), pool.Place{Job: 300, Node: "b", V: vec.Vec{0, 0, 0, 1}}, on(1, "a", 0)),
			"\x02\x01a\x00\x00\x00\x00\x00\x01\x01b\x01\x01\x01\x01\x00\x00\x02\xac\x02\x01b\x00\x00\x00\x01\x01\x01a\x00\x00\x00\x00"},
		// Of labels that are not right Put is nothing.
		{nodes(up("?\xff", 0, label.Pair{})), "\x01\x02?\xff\x00\x00\x00\x00\x01\x00"},
		{with(pool.Pool{}, slices.Repeat([]pool.Place{{}}, 200)...), "\x00\xc8\x01" + strings.Repeat("\x00", 6*200)},
	} {
		if got := pool.Put(c.p); got != c.want || got != putByHand(c.p) {
			t.Errorf("Put of\n%s= %q, want %q", show(c.p), got, c.want)
		}
	}
	for _, p := range append(goods(), wrongs()...) {
		if got := pool.Put(p); got != putByHand(p) {
			t.Errorf("Put of\n%s= %q", show(p), got)
		}
	}
}

// wantNone wants that nothing is got.
func wantNone(t *testing.T, s string, at int) {
	t.Helper()
	if p, next, ok := pool.Get(s, at); len(p.Nodes) != 0 || len(p.Places) != 0 || next != 0 || ok {
		t.Fatalf("Get(%.200q, %d) = %d, %v and\n%s", s, at, next, ok, show(p))
	}
}

// P12.5: what is put is got, wherever it stands, and nothing where it is cut off, or the place is none.
func TestGet(t *testing.T) {
	for _, p := range goods() {
		form := pool.Put(p)
		for _, front := range []string{"", "z", "\x80\x80", form} {
			for _, back := range []string{"", "\x00", "\xff\xff", form} {
				got, next, ok := pool.Get(front+form+back, len(front))
				if !ok || next != len(front)+len(form) || !pool.Same(got, p) || show(got) != show(p) {
					t.Fatalf("Get = %d, %v and\n%swant\n%s", next, ok, show(got), show(p))
				}
			}
		}
		for end := range len(form) {
			wantNone(t, form[:end], 0)
			// A form stands ahead of the place: it is no part of what is cut off.
			wantNone(t, "\x00\x00"+form[:end], 2)
		}
		for _, at := range []int{math.MinInt, -1, len(form), len(form) + 1, math.MaxInt} {
			wantNone(t, form, at)
		}
	}
}

// P12.5: of what is not right nothing is got, though it is put.
func TestGetOfWrong(t *testing.T) {
	for _, p := range wrongs() {
		wantNone(t, pool.Put(p), 0)
		wantNone(t, "z"+pool.Put(p)+"\x00\x00", 1)
	}
}

// P12.5: as many places as all copies of all jobs are got, one more is not, though it is right.
func TestGetCountsPlaces(t *testing.T) {
	for _, n := range []int{0, 1, 127, 128, 255, 256, 257, 258, 300, 1000} {
		p := with(nodes(up("a", 1000)), slices.Repeat([]pool.Place{on(1, "a", 1)}, n)...)
		got, next, ok := pool.Get(pool.Put(p), 0)
		if n > api.MaxQueue*api.MaxGang {
			wantNone(t, pool.Put(p), 0)
		} else if !ok || next != len(pool.Put(p)) || show(got) != show(p) {
			t.Errorf("Get of %d places = %d, %v", n, next, ok)
		}
	}
}

// P12.5: counts and states that are none, longer than need be, past the limits, or past any int.
func TestGetWrongNumbers(t *testing.T) {
	node, place := "\x01a\x00\x00\x00\x00\x00\x01", "\x01\x01a\x00\x00\x00\x00"
	good := "\x01" + node + "\x01" + place
	if p, next, ok := pool.Get(good, 0); !ok || next != len(good) || show(p) != show(with(nodes(up("a", 0)), on(1, "a", 0))) {
		t.Fatalf("Get = %d, %v and\n%s", next, ok, show(p))
	}
	for _, count := range []string{
		"\x80", "\x80\x00", "\x81\x00", "\x81\x80\x00", "\x02", "\x11", "\x7f", "\x80\x02", "\x81\x02", "\x81\x80\x80\x80\x10",
		strings.Repeat("\xff", 9) + "\x01", strings.Repeat("\x80", 9) + "\x01", "\x81" + strings.Repeat("\x80", 8) + "\x01", strings.Repeat("\xff", 9) + "\x02", strings.Repeat("\x80", 10) + "\x01",
	} {
		wantNone(t, count+node+"\x01"+place, 0)
		wantNone(t, "\x01"+node+count+place, 0)
		wantNone(t, count+strings.Repeat(node, 300), 0)
		wantNone(t, "\x01"+node[:len(node)-1]+count+"\x01"+place, 0)
		wantNone(t, "\x01"+node[:2]+"\x00\x00\x00\x00"+count+"\x01\x01"+place, 0)
		wantNone(t, "\x01"+count+node[1:]+"\x01"+place, 0)
		wantNone(t, "\x01"+node+"\x01\x01"+count+place[2:], 0)
	}
	for state := 2; state < 256; state++ {
		wantNone(t, "\x01"+node[:len(node)-1]+string([]byte{byte(state)})+"\x01"+place, 0)
	}
}

// P12.5: forms of which a byte is turned are got as by hand.
func TestGetOfTurned(t *testing.T) {
	for _, p := range goods()[:9] {
		form := []byte(pool.Put(p))
		for i := range form {
			was := form[i]
			for b := range 256 {
				form[i] = byte(b)
				wantGetByHand(t, string(form), 0)
			}
			form[i] = was
		}
	}
}

// eachList hands in every list of up to so many of these items.
func eachList[Item any](items []Item, most int, do func(l []Item)) {
	var grow func(l []Item)
	grow = func(l []Item) {
		do(l)
		if len(l) == most {
			return
		}
		for _, item := range items {
			grow(append(slices.Clip(l), item))
		}
	}
	grow(nil)
}

// P12.1 to P12.5: all pools of a few sample nodes and places, right or not, by each call.
func TestAllPools(t *testing.T) {
	some := []pool.Node{up("a", 4), down("a", 9), {Name: "b", Cap: vec.Vec{2, 3, math.MaxUint64, 9}, Labels: labels("zone=x"), Up: true}, down("c", 3, label.Pair{}), up("A", 3)}
	places := []pool.Place{on(2, "a", 3), {Job: 1, Node: "b", V: vec.Vec{1, 3, 1 << 63, 0}}, on(1, "a", 0), on(9, "c", 2), on(2, "x", 1)}
	lays := [][]string{nil, {"a"}, {"b", "a"}, {"b", "b"}, {"c"}, {"a", "x"}}
	for _, size := range [][2]int{{3, 1}, {2, 3}} {
		eachList(some, size[0], func(l []pool.Node) {
			eachList(places, size[1], func(x []pool.Place) {
				p := with(nodes(l...), x...)
				wantWhole(t, p)
				for _, name := range []string{"a", "b", "c", "x"} {
					wantNamed(t, p, name)
				}
				for _, job := range []uint64{0, 1, 2} {
					wantJob(t, p, job)
				}
				for _, on := range lays {
					wantLaid(t, p, 1, on, vec.Vec{1, 0, 1, 1})
				}
				wantLaid(t, p, 5, []string{"a", "a"}, vec.Vec{})
				for _, n := range []pool.Node{down("b", 1), up("a-", 1), up("c", 1, label.Pair{})} {
					wantAdded(t, p, n)
				}
			})
		})
	}
}

// step is one call that turns a pool.
type step struct {
	call string
	name string
	job  uint64
	on   []string
	v    vec.Vec
}

// play does a step by the package.
func play(p pool.Pool, s step) (told pool.Pool, also api.Errno) {
	switch s.call {
	case "Add":
		return pool.Add(p, pool.Node{Name: s.name, Cap: s.v, Labels: []label.Pair{{Key: "zone", Value: s.name}}})
	case "Lay":
		return pool.Lay(p, s.job, s.on, s.v)
	case "Drop":
		return pool.Drop(p, s.job), api.OK
	case "Fail":
		told, _, also = pool.Fail(p, s.name)
		return told, also
	case "Bare":
		return pool.Bare(p), api.OK
	default:
		return pool.Mend(p, s.name)
	}
}

// playByHand does a step by hand.
func playByHand(p pool.Pool, s step) (told pool.Pool, also api.Errno) {
	switch s.call {
	case "Add":
		return addByHand(p, pool.Node{Name: s.name, Cap: s.v, Labels: []label.Pair{{Key: "zone", Value: s.name}}})
	case "Lay":
		return layByHand(p, s.job, s.on, s.v)
	case "Drop":
		return dropByHand(p, s.job), api.OK
	case "Bare":
		return pool.Pool{Nodes: p.Nodes}, api.OK
	default:
		return turnByHand(p, s.name, s.call == "Mend")
	}
}

// sampleSteps are those of two nodes and two jobs.
func sampleSteps() (steps []step) {
	for _, name := range []string{"b", "a"} {
		steps = append(steps, step{call: "Add", name: name, v: vec.Vec{3, 4}}, step{call: "Fail", name: name}, step{call: "Mend", name: name})
	}
	for job := range uint64(2) {
		steps = append(steps, step{call: "Drop", job: job},
			step{call: "Lay", job: job, on: []string{"a"}, v: vec.Vec{2, 1}},
			step{call: "Lay", job: job, on: []string{"b", "a", "b"}, v: vec.Vec{1, 2}},
			step{call: "Lay", job: job, on: []string{"a", "b"}})
	}
	return append(steps, step{call: "Bare"})
}

// P12.6: all rows of up to six sample calls, from nothing on: each is as by hand, and what comes of it is right.
func TestAllRowsOfCalls(t *testing.T) {
	row := []pool.Pool{{}}
	seen := map[string]bool{show(pool.Pool{}): true}
	for range 6 {
		var next []pool.Pool
		for _, p := range row {
			for _, s := range sampleSteps() {
				want, wantAlso := playByHand(p, s)
				got, also := play(p, s)
				wantPool(t, s.call, got, also, want, wantAlso)
				if text := show(got); !seen[text] {
					seen[text] = true
					next = append(next, got)
					wantSafe(t, got)
				}
			}
		}
		row = next
	}
	if len(seen) < 300 {
		t.Errorf("only %d pools", len(seen))
	}
}

// wantSafe wants that p is right, and that on each node there is room for what stands there.
func wantSafe(t *testing.T, p pool.Pool) {
	t.Helper()
	if !pool.Right(p) {
		t.Fatalf("not right:\n%s", show(p))
	}
	for _, n := range p.Nodes {
		var stands vec.Vec
		for _, x := range p.Places {
			if x.Node == n.Name {
				for kind := range stands {
					stands[kind] += x.V[kind]
				}
			}
		}
		free, ok := pool.Free(p, n.Name)
		for kind := range stands {
			if !ok || stands[kind] > n.Cap[kind] || free[kind] != n.Cap[kind]-stands[kind] {
				t.Fatalf("on %q stands %v, free is %v, %v", n.Name, stands, free, ok)
			}
		}
	}
}

// randomStep tells any step.
func randomStep(chance *rand.Rand) step {
	all := []string{"a", "a-", "b", "c", "α", "я", "zz", "m", "A"}
	name := func() string { return all[chance.Intn(len(all))] }
	amount := func(most int) vec.Vec {
		return vec.Vec{uint64(chance.Intn(most)), uint64(chance.Intn(most)), uint64(chance.Intn(most)), uint64(chance.Intn(most))}
	}
	s := step{call: []string{"Add", "Lay", "Lay", "Lay", "Drop", "Fail", "Mend", "Mend"}[chance.Intn(8)], name: name(), job: uint64(chance.Intn(9)), v: amount(4)}
	for range chance.Intn(4) {
		s.on = append(s.on, name())
	}
	if s.call == "Add" {
		s.v = amount(30)
	}
	return s
}

// P12.6: what is right stays so, and is got as it was put; who stood nowhere is laid and dropped, and the pool is as it was.
func TestRightStaysRight(t *testing.T) {
	chance := rand.New(rand.NewSource(1))
	told, laid := map[api.Errno]int{}, 0
	for range 300 {
		var p pool.Pool
		for range 150 {
			s := randomStep(chance)
			want, wantAlso := playByHand(p, s)
			got, also := play(p, s)
			wantPool(t, s.call, got, also, want, wantAlso)
			wantSafe(t, got)
			if again, next, ok := pool.Get(pool.Put(got), 0); !ok || next != len(pool.Put(got)) || !pool.Same(again, got) {
				t.Fatalf("got as %s", show(again))
			}
			if s.call == "Lay" && also == api.OK && len(s.on) > 0 && len(pool.Of(p, s.job)) == 0 {
				laid++
				wantPool(t, "Drop", pool.Drop(got, s.job), api.OK, p, api.OK)
				if !slices.Equal(pool.Of(got, s.job), s.on) {
					t.Fatalf("laid on %q, Of tells %q", s.on, pool.Of(got, s.job))
				}
			}
			told[also]++
			p = got
		}
	}
	for _, also := range []api.Errno{api.OK, api.ErrName, api.ErrTwice, api.ErrNone, api.ErrDown, api.ErrRoom, api.ErrState} {
		if told[also] < 100 {
			t.Errorf("told %v", told)
		}
	}
	if laid < 1000 {
		t.Errorf("laid %d", laid)
	}
}

// spared tells p in arrays of its own with something behind each of its lists.
func spared(p pool.Pool) pool.Pool {
	var told pool.Pool
	for _, n := range p.Nodes {
		behind := append(slices.Clone(n.Labels), label.Pair{Key: "behind", Value: "labels"}, label.Pair{Key: "behind", Value: "more"})
		n.Labels = behind[:len(n.Labels)]
		told.Nodes = append(told.Nodes, n)
	}
	told.Nodes = append(told.Nodes, up("behind", 1), up("behind", 2))[:len(p.Nodes)]
	told.Places = append(slices.Clone(p.Places), on(1, "behind", 1), on(2, "behind", 2))[:len(p.Places)]
	return told
}

// wholly tells p with what stands behind its lists.
func wholly(p pool.Pool) string {
	all := pool.Pool{Nodes: slices.Clone(p.Nodes[:cap(p.Nodes)]), Places: p.Places[:cap(p.Places)]}
	for i, n := range all.Nodes {
		all.Nodes[i].Labels = n.Labels[:cap(n.Labels)]
	}
	return show(all)
}

// spoil writes over all that p has, and over what stands behind it.
func spoil(p pool.Pool) {
	for _, n := range p.Nodes[:cap(p.Nodes)] {
		spoilList(n.Labels)
	}
	spoilList(p.Nodes)
	spoilList(p.Places)
}

func spoilList[Item any](l []Item) { clear(l[:cap(l)]) }

// calls are those that are handed a pool, each with what it should tell, by name; each writes over all that was told.
func calls(t *testing.T, on []string, n pool.Node) map[string]func(p pool.Pool) {
	turned := func(got pool.Pool, also api.Errno, want api.Errno) {
		t.Helper()
		if also != want {
			t.Errorf("told %d, want %d", also, want)
		}
		spoil(got)
	}
	add := func(name string, want api.Errno) func(p pool.Pool) {
		return func(p pool.Pool) {
			n.Name = name
			got, also := pool.Add(p, n)
			turned(got, also, want)
		}
	}
	lay := func(v vec.Vec, want api.Errno) func(p pool.Pool) {
		return func(p pool.Pool) {
			got, also := pool.Lay(p, 7, on, v)
			turned(got, also, want)
		}
	}
	fail := func(name string, want api.Errno) func(p pool.Pool) {
		return func(p pool.Pool) {
			got, jobs, also := pool.Fail(p, name)
			turned(got, also, want)
			spoilList(jobs)
		}
	}
	mend := func(name string, want api.Errno) func(p pool.Pool) {
		return func(p pool.Pool) {
			got, also := pool.Mend(p, name)
			turned(got, also, want)
		}
	}
	return map[string]func(p pool.Pool){
		"Find": func(p pool.Pool) {
			n, _ := pool.Find(p, "b")
			spoilList(n.Labels)
		},
		"Add in the midst": add("bb", api.OK),
		"Add behind all":   add("z", api.OK),
		"Add of no name":   add("0", api.ErrName),
		"Add of one twice": add("b", api.ErrTwice),
		"Free":             func(p pool.Pool) { pool.Free(p, "a") },
		"Lay":              lay(vec.Vec{}, api.OK),
		"Lay of too much":  lay(all(5), api.ErrRoom),
		"Drop":             func(p pool.Pool) { spoil(pool.Drop(p, 7)) },
		"Drop of none":     func(p pool.Pool) { spoil(pool.Drop(p, 8)) },
		"Of":               func(p pool.Pool) { spoilList(pool.Of(p, 7)) },
		"Fail":             fail("c", api.OK),
		"Fail of none":     fail("x", api.ErrNone),
		"Fail of down":     fail("b", api.ErrState),
		"Mend":             mend("b", api.OK),
		"Mend of none":     mend("x", api.ErrNone),
		"Mend of up":       mend("c", api.ErrState),
		"Bare":             func(p pool.Pool) { spoil(pool.Bare(p)) },
		"Right and Put":    func(p pool.Pool) { pool.Right(p); pool.Put(p); pool.Same(p, p) },
		"Slots": func(p pool.Pool) {
			l := pool.Slots(p)
			for _, x := range l {
				spoilList(x.Labels)
			}
			spoilList(l)
		},
	}
}

// P3: nothing that is handed in is written into, nor what stands behind it; what is told is memory of its own.
func TestMemory(t *testing.T) {
	on := append([]string{"a", "c", "d"}, "behind")[:3]
	own := []label.Pair{{Key: "zone", Value: "b"}, {Key: "behind", Value: "labels"}}
	for name, call := range calls(t, on, pool.Node{Labels: own[:1]}) {
		p := spared(samplePool())
		was := wholly(p)
		call(p)
		if got := wholly(p); got != was {
			t.Errorf("%s: the pool was\n%sand is\n%s", name, was, got)
		}
		if !slices.Equal(on[:4], []string{"a", "c", "d", "behind"}) || own[0].Value != "b" || own[1].Key != "behind" {
			t.Errorf("%s: the lists are %q, %q", name, on[:4], own)
		}
	}
}

// P3: a pool that is not in order, or full, is not written into, either.
func TestMemoryOfWrong(t *testing.T) {
	for _, wrong := range append(wrongs(), manyNodes(api.MaxNodes)) {
		p := spared(wrong)
		was := wholly(p)
		for _, s := range append(sampleSteps(), step{call: "Add", name: "z"}, step{call: "Add", name: "0"}) {
			got, _ := play(p, s)
			spoil(got)
		}
		pool.Right(p)
		pool.Put(p)
		if wholly(p) != was {
			t.Fatalf("the pool was\n%sand is\n%s", was, wholly(p))
		}
	}
}

// No two lists of one answer share memory, though those that were handed in do.
func TestListsOfOneAnswer(t *testing.T) {
	shared := labels("disk=ssd,zone=a")
	p := nodes(up("a", 1, shared...), up("b", 1, shared...), down("c", 1, shared...))
	for _, s := range append(sampleSteps(), step{call: "Add", name: "d"}, step{call: "Mend", name: "c"}) {
		got, _ := play(p, s)
		for i := range got.Nodes {
			spoilList(got.Nodes[i].Labels)
			for j := i + 1; j < len(got.Nodes); j++ {
				if !label.Right(got.Nodes[j].Labels) {
					t.Errorf("%s: node %d shares the labels of node %d", s.call, j, i)
				}
			}
		}
	}
	l := pool.Slots(p)
	spoilList(l[0].Labels)
	if !label.Right(l[1].Labels) || !label.Right(shared) {
		t.Error("slots share labels")
	}
}

// P1: very many nodes, places and copies are gone through all the same.
func TestMany(t *testing.T) {
	const many = 100000
	var p pool.Pool
	var on []string
	for i := range many {
		name := fmt.Sprint("n", i)
		p.Nodes = append(p.Nodes, up(name, 3))
		p.Places = append(p.Places, pool.Place{Job: uint64(many - i), Node: name, V: all(1)}, pool.Place{Job: uint64(many - i), Node: "n7", V: vec.Vec{}})
		on = append(on, name)
	}
	slices.Reverse(on)
	if got, also := pool.Lay(p, 1, on, all(2)); also != api.OK || len(got.Places) != 3*many {
		t.Errorf("Lay told %d, %d places", also, len(got.Places))
	}
	if got, also := pool.Lay(p, 1, append(on, on[0]), all(2)); also != api.ErrRoom || len(got.Places) != 2*many {
		t.Errorf("Lay told %d, %d places", also, len(got.Places))
	}
	if got := pool.Slots(p); len(got) != many || got[many-1].Free != all(2) {
		t.Errorf("%d slots", len(got))
	}
	if _, jobs, also := pool.Fail(p, "n7"); also != api.OK || len(jobs) != many || !slices.IsSorted(jobs) {
		t.Errorf("Fail told %d jobs, %d", len(jobs), also)
	}
	if got := pool.Drop(p, many); len(got.Places) != 2*many-2 {
		t.Errorf("Drop left %d", len(got.Places))
	}
	if _, also := pool.Add(p, up("a", 1)); also != api.ErrFull || pool.Right(p) {
		t.Errorf("Add told %d", also)
	}
	form := pool.Put(p)
	wantNone(t, form, 0)
	wantNone(t, pool.Put(with(nodes(up("n7", 3)), p.Places...)), 0)
}

// P4: the same is told again, also to many at one time.
func TestToldAgain(t *testing.T) {
	p := samplePool()
	was := show(p)
	var told [8][]string
	var all sync.WaitGroup
	for i := range told {
		all.Go(func() {
			for range 50 {
				told[i] = nil
				for _, s := range sampleSteps() {
					got, _ := play(p, s)
					_, jobs, _ := pool.Fail(p, "a")
					told[i] = append(told[i], show(got), pool.Put(got), showSlots(pool.Slots(got)), fmt.Sprint(jobs))
				}
			}
		})
	}
	all.Wait()
	for i := range told {
		if !slices.Equal(told[i], told[0]) {
			t.Errorf("%q, then %q", told[0], told[i])
		}
	}
	if show(p) != was {
		t.Errorf("the pool is\n%s", show(p))
	}
}

// P1 to P6: at any argument a call ends, and tells what the words say.
func FuzzCalls(f *testing.F) {
	f.Add("a", "b", "c", "zone", uint64(9), uint64(3), uint64(2), uint64(1), uint8(3), "\x00\x00", 0)
	f.Add("a", "a", "b", "a", uint64(math.MaxUint64), uint64(1), uint64(1<<63), uint64(1<<63), uint8(3), pool.Put(samplePool()), 0)
	f.Add("b", "", "a", "", uint64(math.MaxUint64), uint64(1<<63), uint64(0), uint64(0), uint8(2), "z"+pool.Put(goods()[6]), 1)
	f.Add("", "\xff", "A", "A", uint64(1), uint64(2), uint64(3), uint64(4), uint8(20), pool.Put(wrongs()[0]), math.MinInt)
	f.Fuzz(func(t *testing.T, first, second, third, key string, a, b, c, d uint64, count uint8, s string, at int) {
		whole := []pool.Node{
			{Name: first, Cap: vec.Vec{a, b, c, d}, Up: true},
			{Name: second, Cap: vec.Vec{d, d, a, a}, Labels: []label.Pair{{Key: key, Value: third}}, Up: a%2 == 0},
			{Name: third, Cap: vec.Vec{b, a, b, a}, Up: b%2 == 0},
		}
		p := nodes(slices.Repeat(whole, 1+int(count)/3)[:int(count)%24]...)
		p.Places = []pool.Place{{Job: a, Node: first, V: vec.Vec{d, c, b, a}}, {Job: b, Node: second, V: vec.Vec{c & 1, 0, b & 3}}, {Job: a, Node: first, V: vec.Vec{1, a & 1}}}[:int(count)%4]
		wantWhole(t, p)
		for _, name := range []string{first, second, third, key} {
			wantNamed(t, p, name)
			wantAdded(t, p, pool.Node{Name: name, Labels: []label.Pair{{Key: key, Value: first}}})
			wantAdded(t, p, pool.Node{Name: name, Cap: vec.Vec{a, b, c, d}, Up: true})
		}
		wantJob(t, p, a)
		wantJob(t, p, b)
		wantLaid(t, p, b, []string{first, second, first, third}, vec.Vec{a & 1, b & 1, c & 1, d & 1})
		wantLaid(t, p, a, []string{third, first}, vec.Vec{d, c, b, a})
		wantLaid(t, p, c, []string{first, key}, vec.Vec{})
		wantGetByHand(t, s, at)
	})
}
