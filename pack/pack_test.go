package pack_test

import (
	"math"
	"math/rand"
	"slices"
	"strings"
	"sync"
	"testing"
	"time"

	"demesne/api"
	"demesne/label"
	"demesne/pack"
	"demesne/pool"
	"demesne/sel"
	"demesne/vec"
)

// most is the greatest amount of each kind.
var most = all(math.MaxUint64)

// all tells n of each kind.
func all(n uint64) vec.Vec { return vec.Vec{n, n, n, n} }

// labels tells the labels that are shown so.
func labels(text string) []label.Pair {
	l, ok := label.Parse(text)
	if !ok {
		panic("no labels: " + text)
	}
	return l
}

// where tells the selector that is shown so.
func where(text string) []sel.Term {
	x, ok := sel.Parse(text)
	if !ok {
		panic("no selector: " + text)
	}
	return x
}

// slot tells a slot of that node, with these labels.
func slot(node string, free vec.Vec, shown string) pool.Slot {
	return pool.Slot{Node: node, Free: free, Labels: labels(shown)}
}

// plain tells slots a, b, c .. without labels, of which so much is free.
func plain(frees ...vec.Vec) (l []pool.Slot) {
	for at, free := range frees {
		l = append(l, slot(string(rune('a'+at)), free, "-"))
	}
	return l
}

// sample tells slots of all sorts.
func sample() []pool.Slot {
	return []pool.Slot{
		slot("a", vec.Vec{9, 4, 9, 9}, "disk=ssd,zone=x"),
		slot("b", vec.Vec{4, 9, 9, 9}, "zone=y"),
		slot("c", vec.Vec{9, 9, 4, 9}, "disk=hdd,zone=x"),
		slot("d", vec.Vec{9, 9, 9, 4}, "-"),
		slot("e", vec.Vec{}, "disk=ssd,zone=y"),
		slot("f", most, "zone=z"),
	}
}

// selectors are asked of the samples; which are not right are asked like any other.
func selectors() [][]sel.Term {
	return [][]sel.Term{
		nil, {},
		where("zone"), where("!zone"), where("zone=x"), where("zone=x|y"), where("zone!=x"), where("zone!=x|y|z"),
		where("disk=ssd,zone=x"), where("!disk,zone"), where("disk,zone!=x"), where("none"), where("!none"), where("zone=x,zone=y"),
		{{}}, {{Not: true}}, {{Key: "zone", Values: []string{"y", "x", "x"}}}, {{Key: "?", Not: true, Values: []string{""}}},
		slices.Repeat(where("zone=x"), api.MaxTerms+3),
		append(slices.Repeat(where("zone"), 99), where("zone=y")...),
		{{Key: "zone", Values: append(slices.Repeat([]string{"w"}, 99), "y")}},
	}
}

// The chapter's example.
func TestExample(t *testing.T) {
	got, ok := pack.Fit(plain(vec.Vec{4}, vec.Vec{3}), nil, vec.Vec{2}, 2)
	if !slices.Equal(got, []string{"b", "a"}) || !ok {
		t.Errorf("Fit = %q, %v", got, ok)
	}
}

// P13.1: what each slot has room for is summed, and the sum is not told above most.
func TestRoom(t *testing.T) {
	l := plain(vec.Vec{5, 5}, vec.Vec{3, 9}, vec.Vec{3, 4}, vec.Vec{})
	for _, c := range []struct {
		demand     vec.Vec
		most, want int
	}{
		{vec.Vec{1, 1}, 100, 11}, {vec.Vec{1, 1}, 12, 11}, {vec.Vec{1, 1}, 11, 11}, {vec.Vec{1, 1}, 10, 10}, {vec.Vec{1, 1}, 6, 6}, {vec.Vec{1, 1}, 4, 4}, {vec.Vec{1, 1}, 1, 1},
		{vec.Vec{1, 1}, 0, 0}, {vec.Vec{1, 1}, -1, 0}, {vec.Vec{1, 1}, math.MinInt, 0}, {vec.Vec{1, 1}, math.MaxInt, 11},
		{vec.Vec{2, 2}, 100, 4}, {vec.Vec{3, 4}, 100, 3}, {vec.Vec{3, 5}, 100, 2}, {vec.Vec{5, 5}, 100, 1}, {vec.Vec{5, 6}, 100, 0}, {vec.Vec{6, 0}, 100, 0},
		{vec.Vec{1, 0}, 100, 11}, {vec.Vec{0, 1}, 100, 18}, {vec.Vec{0, 0, 1}, 100, 0}, {vec.Vec{1, 1, 0, 1}, 100, 0}, {most, 100, 0},
		{vec.Vec{}, 100, 100}, {vec.Vec{}, 7, 7}, {vec.Vec{}, 0, 0}, {vec.Vec{}, -7, 0}, {vec.Vec{}, math.MinInt, 0}, {vec.Vec{}, math.MaxInt, math.MaxInt},
	} {
		if got := pack.Room(l, nil, c.demand, c.most); got != c.want {
			t.Errorf("Room(%v, %d) = %d, want %d", c.demand, c.most, got, c.want)
		}
	}
	for _, n := range []int{math.MinInt, -1, 0, 1, 8, 9, math.MaxInt} {
		for _, l := range [][]pool.Slot{nil, {}, plain(vec.Vec{}), sample()[1:2]} {
			if got := pack.Room(l, where("zone=x"), vec.Vec{1}, n); got != 0 {
				t.Errorf("Room of none = %d, most %d", got, n)
			}
		}
	}
}

// P13.1: only the slots that the selector matches are counted.
func TestRoomAsksSelector(t *testing.T) {
	for text, want := range map[string]int{
		"-": 6 + 9, "zone": 4 + 9, "!zone": 2, "zone=x": 3, "zone=y": 1, "zone=x|y": 4, "zone!=x": 3 + 9, "zone!=x|y|z": 2,
		"disk": 3, "!disk": 3 + 9, "disk=ssd": 1, "disk=hdd": 2, "disk=ssd,zone=x": 1, "disk=ssd,zone=y": 0, "!disk,zone": 1 + 9, "none": 0, "!none": 6 + 9, "zone=x,zone=y": 0,
	} {
		l := sample()
		l[5].Free = all(9*4 + 3)
		if got := pack.Room(l, where(text), vec.Vec{4, 4, 2, 2}, 100); got != want {
			t.Errorf("Room of %s = %d, want %d", text, got, want)
		}
		wantRoom(t, l, where(text), vec.Vec{4, 4, 2, 2}, 100)
	}
}

// P13.1: the sum is one of whole numbers: it is never past what an int holds.
func TestRoomOfSumsPastInts(t *testing.T) {
	for _, n := range []int{1, 2, 3, 4, 5, 8, 100, 100000} {
		l := slices.Repeat(plain(most), n)
		for _, limit := range []int{math.MaxInt, math.MaxInt - 1, math.MaxInt/2 + 1, math.MaxInt / 2, math.MaxInt32, 1 << 62} {
			for _, demand := range []vec.Vec{{}, {1}, {0, 0, 0, 1}, all(1), {2}, {3}, {1 << 20}, {1 << 63}, most} {
				wantRoom(t, l, nil, demand, limit)
			}
		}
	}
	half := plain(vec.Vec{math.MaxInt / 2}, vec.Vec{math.MaxInt/2 + 1}, vec.Vec{5})
	if got := pack.Room(half[:2], nil, vec.Vec{1}, math.MaxInt); got != math.MaxInt {
		t.Errorf("Room = %d", got)
	}
	if got := pack.Room(half, nil, vec.Vec{1}, math.MaxInt); got != math.MaxInt {
		t.Errorf("Room = %d", got)
	}
	if got := pack.Room(half[1:], nil, vec.Vec{1}, math.MaxInt); got != math.MaxInt/2+6 {
		t.Errorf("Room = %d", got)
	}
}

// P13.2: each copy goes where the least is left, by the first kind that differs, then to the first such slot.
func TestFit(t *testing.T) {
	for _, c := range []struct {
		frees  []vec.Vec
		demand vec.Vec
		count  int
		want   string
	}{
		{[]vec.Vec{{5, 5}, {3, 9}, {3, 4}}, vec.Vec{2, 2}, 1, "c"},
		{[]vec.Vec{{5, 5}, {3, 9}, {3, 4}}, vec.Vec{2, 2}, 4, "cbaa"},
		{[]vec.Vec{{5, 5}, {3, 9}, {3, 4}}, vec.Vec{0, 5}, 2, "ba"},
		{[]vec.Vec{{9}, {9}, {9}}, vec.Vec{3}, 8, "aaabbbcc"},
		{[]vec.Vec{{7}, {8}, {9}}, vec.Vec{3}, 7, "aabbccc"},
		{[]vec.Vec{{9}, {8}, {7}}, vec.Vec{3}, 7, "ccbbaaa"},
		{[]vec.Vec{{2}, {9}, {2}}, vec.Vec{3}, 3, "bbb"},
		{[]vec.Vec{{1, 9}, {2, 0}}, vec.Vec{1}, 3, "abb"},
		{[]vec.Vec{{1, 1, 1, 9}, {1, 1, 2, 0}, {1, 2}, {2}}, vec.Vec{}, 3, "aaa"},
		{[]vec.Vec{{2}, {1, 2}, {1, 1, 2}, {1, 1, 1, 9}}, vec.Vec{}, 3, "ddd"},
		{[]vec.Vec{{1, 1, 1, 2}, {1, 1, 1, 1}, {1, 1, 1, 1}}, vec.Vec{0, 0, 0, 1}, 4, "bcaa"},
		{[]vec.Vec{{4, 4}, {4, 4}}, vec.Vec{0, 1}, 8, "aaaabbbb"},
		{[]vec.Vec{most, most}, most, 2, "ab"},
		{[]vec.Vec{most, all(math.MaxUint64 - 1)}, all(math.MaxUint64 - 1), 2, "ba"},
		{[]vec.Vec{most, {1 << 63}}, vec.Vec{1 << 63}, 2, "ba"},
		{[]vec.Vec{{}, {}}, vec.Vec{}, 8, "aaaaaaaa"},
	} {
		got, ok := pack.Fit(plain(c.frees...), nil, c.demand, c.count)
		if !slices.Equal(got, strings.Split(c.want, "")) || !ok {
			t.Errorf("Fit(%v, %v, %d) = %q, %v, want %s", c.frees, c.demand, c.count, got, ok, c.want)
		}
		wantBoth(t, plain(c.frees...), nil, c.demand, c.count)
	}
}

// wantNoFit asks for nothing and false.
func wantNoFit(t *testing.T, l []pool.Slot, x []sel.Term, demand vec.Vec, count int) {
	t.Helper()
	if got, ok := pack.Fit(l, x, demand, count); len(got) != 0 || ok {
		t.Errorf("Fit of\n%s%v, %d = %q, %v", show(l, x), demand, count, got, ok)
	}
}

// P13.2: nothing and false is told, if one of the copies has no room, were it the last one.
func TestFitOfNoRoom(t *testing.T) {
	wantNoFit(t, nil, nil, vec.Vec{}, 1)
	wantNoFit(t, []pool.Slot{}, nil, vec.Vec{}, 8)
	wantNoFit(t, plain(vec.Vec{5, 5}, vec.Vec{3, 9}, vec.Vec{3, 4}), nil, vec.Vec{2, 2}, 5)
	wantNoFit(t, plain(vec.Vec{5, 5}, vec.Vec{3, 9}, vec.Vec{3, 4}), nil, vec.Vec{0, 0, 0, 1}, 1)
	wantNoFit(t, plain(all(7)), nil, all(1), 8)
	wantNoFit(t, plain(most, most), nil, most, 3)
	wantNoFit(t, plain(most), nil, vec.Vec{1 << 63}, 2)
	wantNoFit(t, sample(), where("none"), vec.Vec{}, 1)
	wantNoFit(t, sample(), where("zone=y"), vec.Vec{1}, 5)
	for kind := range 4 {
		var over vec.Vec
		over[kind] = 10
		wantNoFit(t, plain(all(9), all(9)), nil, over, 1)
	}
}

// P13.2: of no copies, or of less, there is a Fit of nothing, wherever they would go; above MaxGang there is none.
func TestFitOfCounts(t *testing.T) {
	for _, count := range []int{0, -1, -2, -8, -9, math.MinInt32, math.MinInt} {
		for _, l := range [][]pool.Slot{nil, {}, plain(vec.Vec{}), sample()} {
			if got, ok := pack.Fit(l, where("none"), most, count); len(got) != 0 || !ok {
				t.Errorf("Fit of %d copies = %q, %v", count, got, ok)
			}
		}
	}
	if got, ok := pack.Fit(sample(), nil, vec.Vec{}, api.MaxGang); len(got) != api.MaxGang || !ok {
		t.Errorf("Fit of a gang = %q, %v", got, ok)
	}
	for _, count := range []int{api.MaxGang + 1, api.MaxGang + 2, 16, 256, math.MaxInt32, math.MaxInt32 + 1, math.MaxInt} {
		wantNoFit(t, sample(), nil, vec.Vec{}, count)
		wantNoFit(t, plain(most, most), nil, vec.Vec{1}, count)
		wantNoFit(t, nil, nil, vec.Vec{}, count)
	}
}

// P13.2: copies go only where the selector matches, also where less would be left elsewhere.
func TestFitAsksSelector(t *testing.T) {
	for text, want := range map[string]string{
		"-": "bba", "zone": "bba", "!zone": "ddd", "zone=x": "acc", "zone=y": "bb", "zone=x|y": "bba", "zone!=x": "bbd", "zone!=x|y|z": "ddd",
		"disk": "acc", "!disk": "bbd", "disk=ssd": "a", "disk=hdd": "ccc", "!disk,zone": "bbf", "none": "", "!none": "bba", "zone=z": "fff", "zone=y,disk": "",
	} {
		for count := 1; count <= 3; count++ {
			if count > len(want) {
				wantNoFit(t, sample(), where(text), vec.Vec{2, 3, 1, 1}, count)
				continue
			}
			got, ok := pack.Fit(sample(), where(text), vec.Vec{2, 3, 1, 1}, count)
			if !slices.Equal(got, strings.Split(want[:count], "")) || !ok {
				t.Errorf("Fit of %s, %d = %q, %v, want %s", text, count, got, ok, want[:count])
			}
		}
	}
}

// P13.1, P13.2: of each selector, right or not, slots are asked as sel's Match says.
func TestSelectors(t *testing.T) {
	l := append(sample(), pool.Slot{Node: "?", Free: all(3), Labels: []label.Pair{{Key: "zone", Value: "y"}, {Key: "zone", Value: "x"}}}, pool.Slot{Free: all(2), Labels: []label.Pair{{}}},
		pool.Slot{Node: "a", Free: all(5), Labels: append(slices.Repeat([]label.Pair{{Key: "disk"}}, 99), label.Pair{Key: "zone", Value: "y"})})
	for _, x := range selectors() {
		for _, s := range l {
			if got := pack.Room([]pool.Slot{s}, x, vec.Vec{}, 1) == 1; got != sel.Match(x, s.Labels) {
				t.Errorf("Room of\n%ssays %v", show([]pool.Slot{s}, x), got)
			}
		}
		for _, demand := range []vec.Vec{{}, {1}, {2, 3, 1, 1}, all(4), {0, 0, 5}, most} {
			for count := -1; count <= 10; count++ {
				wantBoth(t, l, x, demand, count)
			}
		}
	}
}

// P13.1, P13.2: slots are taken as they stand: two of one node are two, and a Node may be any text.
func TestOddSlots(t *testing.T) {
	l := []pool.Slot{{Node: "a", Free: vec.Vec{3}}, {Node: "a", Free: vec.Vec{2}}, {Node: "", Free: vec.Vec{4}}, {Node: "\xff b", Free: vec.Vec{9}}, {Node: "a", Free: vec.Vec{2}}}
	got, ok := pack.Fit(l, nil, vec.Vec{2}, 8)
	if want := []string{"a", "a", "a", "", "", "\xff b", "\xff b", "\xff b"}; !slices.Equal(got, want) || !ok {
		t.Errorf("Fit = %q, %v", got, ok)
	}
	if got := pack.Room(l, nil, vec.Vec{2}, 100); got != 9 {
		t.Errorf("Room = %d", got)
	}
	for count := -1; count <= 10; count++ {
		wantBoth(t, l, nil, vec.Vec{2}, count)
	}
}

// eachList hands to do all lists of at most so many of the items.
func eachList[Item any](items []Item, most int, do func(l []Item)) {
	var grow func(l []Item)
	grow = func(l []Item) {
		do(l)
		if len(l) == most {
			return
		}
		for _, item := range items {
			grow(append(l[:len(l):len(l)], item))
		}
	}
	grow(nil)
}

// P13.1 to P13.3: all lists of up to three of some slots, some selectors and demands, and all counts about the limit.
func TestAllSmall(t *testing.T) {
	var items []pool.Slot
	for _, free := range []vec.Vec{{}, {2, 1}, {1, 3}, {3, 3}} {
		items = append(items, pool.Slot{Free: free}, pool.Slot{Free: free, Labels: labels("zone=x")})
	}
	demands := []vec.Vec{{}, {1}, {0, 1}, {1, 1}, {2, 1}, {0, 0, 1}}
	asked := [][]sel.Term{nil, where("zone=x"), where("!zone")}
	eachList(items, 3, func(l []pool.Slot) {
		l = slices.Clone(l)
		for at := range l {
			l[at].Node = string(rune('a' + at))
		}
		for _, demand := range demands {
			for _, x := range asked {
				for _, count := range []int{-1, 0, 1, 2, 3, 4, 5, 7, 8, 9} {
					wantBoth(t, l, x, demand, count)
				}
			}
		}
	})
}

// P13.3: where the copies can stand in any way at all, they Fit; and what Fit tells has room.
func TestFitFindsWhateverThereIs(t *testing.T) {
	frees := []vec.Vec{{}, {2, 1}, {1, 3}, {3, 3}, {2, 0, 1}}
	eachList(frees, 3, func(l []vec.Vec) {
		slots := plain(l...)
		for _, demand := range []vec.Vec{{1}, {0, 1}, {1, 1}, {2, 1}, {0, 0, 1}} {
			for count := 0; count <= 5; count++ {
				_, ok := pack.Fit(slots, nil, demand, count)
				if want := tryAll(slots, nil, demand, count); ok != want || want != (pack.Room(slots, nil, demand, count) == count) {
					t.Fatalf("Fit of\n%s%v, %d = %v, want %v", show(slots, nil), demand, count, ok, want)
				}
			}
		}
	})
}

// edge tells an amount about the edges of 64 bits, or a small one.
func edge(chance *rand.Rand) uint64 {
	edges := []uint64{0, 1, 2, 3, 5, 8, 1<<31 - 1, 1 << 32, 1<<62 + 1, 1<<63 - 1, 1 << 63, 1<<63 + 1, math.MaxUint64 / 3, math.MaxUint64 - 1, math.MaxUint64}
	if chance.Intn(4) == 0 {
		return chance.Uint64() >> chance.Intn(64)
	}
	return edges[chance.Intn(len(edges))]
}

// edges tells such amounts of each kind; of some kinds often the same.
func edges(chance *rand.Rand) vec.Vec {
	v := all(edge(chance))
	for kind := range v {
		if chance.Intn(2) == 0 {
			v[kind] = edge(chance)
		}
	}
	return v
}

// P13.1 to P13.3: slots and demands of any 64 bits.
func TestEdgesOf64Bits(t *testing.T) {
	chance := rand.New(rand.NewSource(13))
	shown := []string{"-", "zone=x", "zone=y", "disk=ssd,zone=x"}
	asked := selectors()
	fits := 0
	for range 40000 {
		var l []pool.Slot
		for at := range chance.Intn(7) {
			l = append(l, slot(string(rune('a'+at)), edges(chance), shown[chance.Intn(len(shown))]))
		}
		demand := edges(chance)
		for kind := range demand {
			if chance.Intn(2) == 0 {
				demand[kind] /= uint64(1 + chance.Intn(9))
			}
		}
		count := chance.Intn(12) - 1
		x := asked[chance.Intn(len(asked))]
		wantBoth(t, l, x, demand, count)
		for _, limit := range []int{int(edge(chance)), math.MaxInt, 1 << 62, 1000} {
			wantRoom(t, l, x, demand, limit)
		}
		if _, ok := pack.Fit(l, x, demand, count); ok && count > 0 {
			fits++
		}
	}
	if fits < 2000 {
		t.Errorf("only %d of the samples fit", fits)
	}
}

// P13.2: what fits a pool's Slots is laid there without an error, and what does not fit can't be.
func TestFitIsLaid(t *testing.T) {
	chance := rand.New(rand.NewSource(7))
	for range 3000 {
		var p pool.Pool
		for at := range 1 + chance.Intn(5) {
			p, _ = pool.Add(p, pool.Node{Name: string(rune('a' + at)), Cap: vec.Vec{uint64(chance.Intn(9)), uint64(chance.Intn(9))}})
		}
		p.Nodes[0].Up = chance.Intn(3) > 0
		for job := uint64(1); job < 20; job++ {
			demand, count := vec.Vec{uint64(chance.Intn(4)), uint64(chance.Intn(4))}, 1+chance.Intn(api.MaxGang)
			room := pack.Room(pool.Slots(p), nil, demand, count)
			nodes, ok := pack.Fit(pool.Slots(p), nil, demand, count)
			if ok != (room == count) {
				t.Fatalf("Room is %d of %d, but Fit says %v", room, count, ok)
			}
			if !ok {
				continue
			}
			laid, errno := pool.Lay(p, job, nodes, demand)
			if errno != api.OK || len(nodes) != count || !pool.Right(laid) {
				t.Fatalf("Lay(%q) = %v", nodes, errno)
			}
			p = laid
		}
	}
}

// spared tells l with room behind it, in which what stands must stay.
func spared(l []pool.Slot) []pool.Slot {
	spare := append(slices.Clone(l), slices.Repeat(plain(all(77)), 9)...)
	for at := range spare {
		spare[at].Labels = append(slices.Clone(spare[at].Labels), labels("a=b,c=d")...)[:len(spare[at].Labels)]
	}
	return spare[:len(l)]
}

// Nothing that is handed in is written into, nor what stands behind it in its array.
func TestArgumentsStay(t *testing.T) {
	for _, x := range selectors() {
		for _, demand := range []vec.Vec{{}, {1}, {2, 3, 1, 1}, all(4), most} {
			for count := -1; count <= 9; count++ {
				l := spared(sample())
				behind := l[:cap(l)]
				was := show(behind, x)
				pack.Fit(l, x, demand, count)
				pack.Room(l, x, demand, count)
				if now := show(behind, x); now != was {
					t.Fatalf("was\n%snow\n%s", was, now)
				}
				for at := range behind {
					if rest := behind[at].Labels[len(behind[at].Labels):cap(behind[at].Labels)]; len(rest) < 2 || rest[0].Key != "a" || rest[1].Value != "d" {
						t.Fatalf("behind the labels stands %q", rest)
					}
				}
			}
		}
	}
}

// What Fit tells is memory of its own: whoever writes into it turns nothing else.
func TestAnswersAreNew(t *testing.T) {
	l := sample()
	first, _ := pack.Fit(l, nil, vec.Vec{1}, 5)
	second, _ := pack.Fit(l, nil, vec.Vec{1}, 5)
	want := slices.Clone(second)
	was := show(l, nil)
	for at := range first[:cap(first)] {
		first[:cap(first)][at] = "spoilt"
	}
	if third, _ := pack.Fit(l, nil, vec.Vec{1}, 5); !slices.Equal(second, want) || !slices.Equal(third, want) || show(l, nil) != was {
		t.Errorf("turned: %q, %q, %q", second, third, show(l, nil))
	}
}

// What is told hangs on the arguments alone: not on what was asked ahead, nor on who asks at the same time.
func TestToldAgain(t *testing.T) {
	l := sample()
	var group sync.WaitGroup
	for worker := range 8 {
		group.Go(func() {
			for round := range 200 {
				x := selectors()[(worker+round)%len(selectors())]
				demand, count := vec.Vec{uint64(round % 4), uint64(worker % 3)}, (worker*round)%10
				got, ok := pack.Fit(l, x, demand, count)
				want, wantOK := fitByHand(sample(), x, demand, count)
				if !slices.Equal(got, want) || ok != wantOK || pack.Room(l, x, demand, count) != roomByHand(sample(), x, demand, count) {
					t.Errorf("Fit of %v, %d = %q, %v, want %q, %v", demand, count, got, ok, want, wantOK)
				}
			}
		})
	}
	group.Wait()
}

// Many slots, labels and terms: both calls come to their end soon.
func TestMany(t *testing.T) {
	begin := time.Now()
	l := slices.Repeat(plain(vec.Vec{3}, vec.Vec{4}, vec.Vec{2}), 300000)
	if got := pack.Room(l, nil, vec.Vec{2}, math.MaxInt); got != 4*300000 {
		t.Errorf("Room = %d", got)
	}
	got, ok := pack.Fit(l, where("!none"), vec.Vec{2}, 8)
	if !slices.Equal(got, slices.Repeat([]string{"c"}, 8)) || !ok {
		t.Errorf("Fit = %q, %v", got, ok)
	}
	wide := []pool.Slot{{Node: "a", Free: most, Labels: slices.Repeat(labels("a=b"), 1000000)}}
	if got := pack.Room(wide, slices.Repeat(where("a=b"), 1000000), vec.Vec{1}, 5); got != 5 {
		t.Errorf("Room = %d", got)
	}
	if got, ok := pack.Fit(wide, where("!b,!c,!d,a"), vec.Vec{1}, 8); len(got) != 8 || !ok {
		t.Errorf("Fit = %q, %v", got, ok)
	}
	if spent := time.Since(begin); spent > 20*time.Second {
		t.Errorf("it took %v", spent)
	}
}

// FuzzCalls holds both calls against the reckonings by hand.
func FuzzCalls(f *testing.F) {
	f.Add(uint64(4), uint64(3), uint64(2), uint64(1), "zone", "x", uint8(7), 2)
	f.Add(uint64(math.MaxUint64), uint64(1), uint64(1<<63), uint64(0), "zone", "", uint8(200), 8)
	f.Add(uint64(0), uint64(math.MaxUint64), uint64(1), uint64(0), "", "y", uint8(33), math.MaxInt)
	f.Add(uint64(9), uint64(9), uint64(0), uint64(0), "none", "\xff", uint8(0), math.MinInt)
	f.Fuzz(func(t *testing.T, a, b, c, d uint64, key, value string, shape uint8, count int) {
		l := append(sample(), pool.Slot{Node: value, Free: vec.Vec{a, b, a, b}, Labels: []label.Pair{{Key: key, Value: value}}}, pool.Slot{Node: key, Free: vec.Vec{b, a, a, b}})
		l = l[int(shape%16)%(len(l)+1):]
		x := []sel.Term{{Key: key, Not: shape&16 > 0, Values: []string{value, "x"}}, {Key: value, Not: shape&32 > 0}}[:int(shape>>6)%3]
		for _, demand := range []vec.Vec{{c, d, c, d}, {c & 7, d & 7}, {}, {a, c, d, b}} {
			wantBoth(t, l, x, demand, count)
			wantBoth(t, l, x, demand, count%12)
		}
	})
}
