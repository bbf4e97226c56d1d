package evict_test

import (
	"fmt"
	"math"
	"math/rand"
	"slices"
	"strings"
	"sync"
	"testing"
	"time"

	"demesne/api"
	"demesne/evict"
	"demesne/label"
	"demesne/pool"
	"demesne/queue"
	"demesne/quota"
	"demesne/sel"
	"demesne/spec"
	"demesne/state"
	"demesne/vec"
)

// plan is a job, and the nodes where it runs; it waits, if there are none.
type plan struct {
	x  spec.Spec
	at string
}

// job tells what so many copies ask, of that priority.
func job(path string, demand vec.Vec, count, prio int) spec.Spec {
	return spec.Spec{Path: path, Demand: demand, Count: count, Prio: prio, Ticks: 9}
}

// one tells a job of one copy, of so much of one kind.
func one(n uint64, prio int) spec.Spec { return job("p", vec.Vec{n}, 1, prio) }

// with tells x with that selector.
func with(x spec.Spec, shown string) spec.Spec {
	l, ok := sel.Parse(shown)
	if !ok {
		panic("no selector: " + shown)
	}
	x.Sel = l
	return x
}

// node tells a node of that name, with these labels.
func node(name string, cap vec.Vec, shown string) pool.Node {
	l, ok := label.Parse(shown)
	if !ok {
		panic("no labels: " + shown)
	}
	return pool.Node{Name: name, Cap: cap, Labels: l, Up: true}
}

// plain tells nodes a, b, c .. without labels, of so much of one kind.
func plain(caps ...uint64) (l []pool.Node) {
	for at, n := range caps {
		l = append(l, node(string(rune('a'+at)), vec.Vec{n}, "-"))
	}
	return l
}

// wide tells limits that are never reached, of the paths p, q and q/r.
func wide() []quota.Entry {
	most := vec.Vec{1 << 40, 1 << 40, 1 << 40, 1 << 40}
	return []quota.Entry{{Limit: most}, {Path: "p", Limit: most}, {Path: "q", Limit: most}, {Path: "q/r", Limit: most}}
}

// built tells a right state of these limits, nodes and jobs, of IDs 1, 2, 3 ..
func built(tree []quota.Entry, nodes []pool.Node, plans ...plan) state.State {
	s := state.New()
	s.Tree, s.Pool.Nodes = tree, nodes
	for _, c := range plans {
		next, id, errno := state.Submit(s, c.x)
		if at := strings.Fields(c.at); errno == api.OK && len(at) > 0 {
			next, errno = state.Begin(next, id, at)
		}
		if errno != api.OK {
			panic(fmt.Sprintf("job %d: error %d", id, errno))
		}
		s = next
	}
	return s
}

// sample tells a right state of jobs of all sorts: 1, 2, 4, 5, 7 run, 3, 6, 8, 9 wait; node d is down.
func sample() state.State {
	tree := []quota.Entry{{Limit: vec.Vec{40, 60, 9, 9}}, {Path: "p", Limit: vec.Vec{12, 20, 9, 9}}, {Path: "q", Limit: vec.Vec{20, 40, 9, 9}}, {Path: "q/r", Limit: vec.Vec{10, 20, 9, 9}}}
	nodes := []pool.Node{
		node("a", vec.Vec{10, 10, 5}, "disk=ssd,zone=x"), node("b", vec.Vec{8, 20, 5}, "zone=y"), node("c", vec.Vec{6, 6, 5}, "-"), node("d", vec.Vec{50, 50, 50}, "zone=x"),
	}
	nodes[3].Up = false
	return built(tree, nodes,
		plan{job("q/r", vec.Vec{2, 1}, 3, 2), "a b a"},
		plan{job("p", vec.Vec{3, 2}, 2, 0), "b c"},
		plan{with(job("q", vec.Vec{3, 3}, 2, 5), "zone"), ""},
		plan{with(job("p", vec.Vec{1, 1, 1}, 1, 2), "!zone"), "c"},
		plan{job("q", vec.Vec{4, 4}, 1, 1), "a"},
		plan{with(job("q/r", vec.Vec{5, 0, 0}, 1, 9), "zone=x"), ""},
		plan{job("q/r", vec.Vec{1, 2}, 2, 5), "b b"},
		plan{job("p", vec.Vec{1, 1}, 4, 0), ""},
		plan{job("p", vec.Vec{7, 7}, 1, 7), ""},
	)
}

// turned tells the sample with something turned.
func turned(turn func(s *state.State)) state.State {
	s := sample()
	turn(&s)
	return s
}

// told tells what was told of victims and nodes.
func told(l []uint64, nodes []string, ok bool) string {
	if !ok && len(l)+len(nodes) == 0 {
		return "no"
	}
	return fmt.Sprintf("%d on %s, %v", l, strings.Join(nodes, " "), ok)
}

// wantTold asks for these victims and nodes.
func wantTold(t *testing.T, what string, s state.State, id uint64, want string) {
	t.Helper()
	wantAll(t, s, id)
	if got := told(evict.Victims(s, id)); got != want {
		t.Errorf("%s: Victims(.., %d) = %s, want %s", what, id, got, want)
	}
}

// wantNodes asks for these nodes of Fits; false, if there are none.
func wantNodes(t *testing.T, what string, s state.State, id uint64, want string) {
	t.Helper()
	wantAll(t, s, id)
	got, ok := evict.Fits(s, id)
	if strings.Join(got, " ") != want || ok != (want != "") {
		t.Errorf("%s: Fits(.., %d) = %q, %v, want %q", what, id, got, ok, want)
	}
}

// The chapter's example, and the first of the whole: who has the greater priority needs the other's node.
func TestExample(t *testing.T) {
	if got := told(evict.Victims(state.New(), 1)); got != "no" {
		t.Errorf("Victims = %s", got)
	}
	s := built(wide(), plain(4), plan{one(4, 1), "a"}, plan{one(4, 5), ""})
	wantTold(t, "priorities 1 and 5", s, 2, "[1] on a, true")
}

// The sample is what it should be.
func TestSample(t *testing.T) {
	s := sample()
	if !state.Right(s) || len(s.Queue) != 4 {
		t.Errorf("the sample is\n%s", show(s))
	}
	for id := range uint64(12) {
		wantAll(t, s, id)
	}
	// Of a 2 and 4 are left, of b 1 and 13, of c 2 and 3; of p 5 and 15, of q/r 2 and 13.
	wantTold(t, "the nodes of 5", s, 3, "[5] on a a, true")
	wantTold(t, "the limit of 1", s, 6, "[1] on a, true")
	wantTold(t, "room as it is", s, 8, "[] on b c c a, true")
	wantTold(t, "the limit of 2, the nodes of 5 and 1", s, 9, "[2 5 1] on a, true")
}

// P16.1: who waits, and has room and limits for all copies, is told the nodes that Fit tells, in that order.
func TestFits(t *testing.T) {
	for _, c := range []struct {
		caps  []uint64
		n     uint64
		count int
		want  string
	}{
		{[]uint64{4, 3}, 2, 2, "b a"}, {[]uint64{4, 3}, 2, 3, "b a a"}, {[]uint64{4, 3}, 2, 4, ""}, {[]uint64{4, 3}, 4, 1, "a"}, {[]uint64{4, 3}, 3, 1, "b"}, {[]uint64{4, 3}, 5, 1, ""},
		{[]uint64{4, 3}, 0, 8, "b b b b b b b b"}, {[]uint64{0}, 0, 1, "a"}, {nil, 0, 1, ""}, {[]uint64{7, 7, 7}, 3, 6, "a a b b c c"}, {[]uint64{7, 7, 7}, 3, 7, ""}, {[]uint64{9}, 1, 8, "a a a a a a a a"},
	} {
		s := built(wide(), plain(c.caps...), plan{job("p", vec.Vec{c.n}, c.count, 3), ""})
		wantNodes(t, fmt.Sprint(c), s, 1, c.want)
	}
	for id, want := range map[uint64]string{3: "", 6: "", 8: "b c c a", 9: ""} {
		wantNodes(t, "the sample", sample(), id, want)
	}
}

// P16.1: of one who is not there, or runs, nothing is told, whatever room there is.
func TestFitsOfNone(t *testing.T) {
	for _, s := range []state.State{sample(), built(wide(), plain(90), plan{one(1, 1), "a"}), state.New(), {}} {
		for _, id := range []uint64{0, 1, 2, 4, 5, 7, 10, 11, 1<<32 + 8, 1<<63 + 8, math.MaxUint64 - 1, math.MaxUint64} {
			wantNodes(t, "none", s, id, "")
			if wantAll(t, s, id); evict.Could(s, id) {
				t.Errorf("Could(.., %d) says yes", id)
			}
		}
	}
}

// P16.1: one thing that is wanting is enough that it does not fit: of the nodes, of the selector, of a limit, of the total.
func TestFitsNeedsAll(t *testing.T) {
	for what, turn := range map[string]func(s *state.State){
		"no room for the last":    func(s *state.State) { s.Pool.Nodes[1].Cap[0], s.Pool.Nodes[2].Cap[0] = 7, 5 },
		"less room than stands":   func(s *state.State) { s.Pool.Nodes[0].Cap[2], s.Pool.Nodes[0].Cap[0] = 0, 7 },
		"a and b down":            func(s *state.State) { s.Pool.Nodes[0].Up, s.Pool.Nodes[1].Up = false, false },
		"no nodes":                func(s *state.State) { s.Pool.Nodes = nil },
		"one more stands on a":    func(s *state.State) { s.Pool.Places = append(s.Pool.Places, pool.Place{Node: "a", V: vec.Vec{2}}) },
		"selector":                func(s *state.State) { *s = *selected(s, "zone=y") },
		"selector of none":        func(s *state.State) { *s = *selected(s, "zone=z") },
		"limit of the root":       func(s *state.State) { s.Tree[0].Limit[0] = 22 },
		"limit of its path":       func(s *state.State) { s.Tree[1].Limit[1] = 8 },
		"used of the root":        func(s *state.State) { s.Tree[0].Used[1] = 57 },
		"used of its path":        func(s *state.State) { s.Tree[1].Used[0] = 9 },
		"used past 64 bits":       func(s *state.State) { s.Tree[1].Limit[0], s.Tree[1].Used[0] = math.MaxUint64, math.MaxUint64-3 },
		"no entry of its path":    func(s *state.State) { s.Tree = append(s.Tree[:1], s.Tree[2:]...) },
		"no root":                 func(s *state.State) { s.Tree = s.Tree[1:] },
		"no tree":                 func(s *state.State) { s.Tree = nil },
		"another path":            func(s *state.State) { s.Jobs[7].X.Path = "x" },
		"no path":                 func(s *state.State) { s.Jobs[7].X.Path = "P" },
		"a path of too many":      func(s *state.State) { s.Jobs[7].X.Path = "p/p/p/p" },
		"a demand of more":        func(s *state.State) { s.Jobs[7].X.Demand[0] = 2 },
		"a demand of its kind":    func(s *state.State) { s.Jobs[7].X.Demand[3] = 1 },
		"a total of no 64 bits":   func(s *state.State) { s.Jobs[7].X.Demand[0] = 1 << 62; hugeNodes(s) },
		"nine copies":             func(s *state.State) { s.Jobs[7].X.Count, s.Jobs[7].X.Demand = 9, vec.Vec{} },
		"as many as an int holds": func(s *state.State) { s.Jobs[7].X.Count, s.Jobs[7].X.Demand = math.MaxInt, vec.Vec{} },
		"six copies":              func(s *state.State) { s.Jobs[7].X.Count, s.Tree[1].Limit[0] = 6, 90 },
		"it runs":                 func(s *state.State) { s.Jobs[7].Runs = true },
		"it is not there":         func(s *state.State) { s.Jobs[7].ID = 80 },
		"one of its ID runs":      func(s *state.State) { s.Jobs[0].ID = 8 },
	} {
		t.Run(what, func(t *testing.T) { wantNodes(t, what, turned(turn), 8, "") })
	}
}

// selected tells s with job 8 of that selector.
func selected(s *state.State, shown string) *state.State {
	s.Jobs[7].X = with(s.Jobs[7].X, shown)
	return s
}

// hugeNodes makes all nodes and limits as great as may be.
func hugeNodes(s *state.State) {
	most := vec.Vec{math.MaxUint64, math.MaxUint64, math.MaxUint64, math.MaxUint64}
	for at := range s.Pool.Nodes {
		s.Pool.Nodes[at].Cap = most
	}
	for at := range s.Tree {
		s.Tree[at].Limit = most
	}
}

// P16.1: what is just enough is enough; what has nothing to do with it is not asked about.
func TestFitsJust(t *testing.T) {
	for what, turn := range map[string]func(s *state.State){
		"just limits":          func(s *state.State) { s.Tree[0].Limit, s.Tree[1].Limit = vec.Vec{23, 20, 1}, vec.Vec{11, 9, 1} },
		"the last amounts":     func(s *state.State) { s.Tree[1].Limit[0], s.Tree[1].Used[0] = math.MaxUint64, math.MaxUint64-4 },
		"no limit of another":  func(s *state.State) { s.Tree = s.Tree[:2] },
		"another used beyond":  func(s *state.State) { s.Tree[2].Used[0] = 99 },
		"selector":             func(s *state.State) { *s = *selected(s, "!old") },
		"it is in no queue":    func(s *state.State) { s.Queue = nil },
		"all is in the queue":  func(s *state.State) { s.Queue = make([]queue.Entry, 99) },
		"rounds are left":      func(s *state.State) { s.Jobs[7].Left = 5 },
		"no ticks":             func(s *state.State) { s.Jobs[7].X.Ticks = 0 },
		"no priority":          func(s *state.State) { s.Jobs[7].X.Prio = -1 },
		"a priority of none":   func(s *state.State) { s.Jobs[7].X.Prio = math.MaxInt },
		"the second of its ID": func(s *state.State) { s.Jobs[8] = state.Job{ID: 8, Runs: true} },
		"notes, and no next":   func(s *state.State) { s.Next, s.Events.L = 0, make([]state.Note, 99) },
		"a selector not right": func(s *state.State) { s.Jobs[7].X.Sel = []sel.Term{{Key: "?", Not: true}} },
		"a place of no node":   func(s *state.State) { s.Pool.Places = append(s.Pool.Places, pool.Place{Node: "x", V: vec.Vec{99}}) },
		"a place on who is down": func(s *state.State) {
			s.Pool.Places = append(s.Pool.Places, pool.Place{Job: 8, Node: "d", V: vec.Vec{99}})
		},
	} {
		t.Run(what, func(t *testing.T) { wantNodes(t, what, turned(turn), 8, "b c c a") })
	}
	wantNodes(t, "just room", turned(func(s *state.State) {
		s.Pool.Nodes[0].Cap, s.Pool.Nodes[1].Cap, s.Pool.Nodes[2].Cap = vec.Vec{9, 8}, vec.Vec{8, 8}, vec.Vec{6, 5, 1}
	}), 8, "b a c c")
}

// P16.1: of no copies, or less, no nodes are told, and yet it fits, where the total may be; numbers are of 64 bits.
func TestFitsOfCounts(t *testing.T) {
	for _, c := range []struct {
		n      uint64
		count  int
		limit  uint64
		ok     bool
		copies int
	}{
		{1, 0, 0, true, 0}, {math.MaxUint64, 0, 0, true, 0}, {0, -1, 0, true, 0}, {0, math.MinInt, 0, true, 0}, {1, -1, math.MaxUint64, true, 0}, {1, -1, math.MaxUint64 - 1, false, 0}, {2, -1, math.MaxUint64, false, 0},
		{1, math.MinInt, 1 << 63, true, 0}, {1, math.MinInt, 1<<63 - 1, false, 0}, {2, math.MinInt, math.MaxUint64, false, 0}, {1, 8, 8, true, 8}, {1, 8, 7, false, 0}, {0, 9, 9, false, 0}, {0, math.MaxInt, 9, false, 0},
	} {
		s := built(wide(), plain(99), plan{one(1, 1), ""})
		s.Tree[0].Limit, s.Tree[1].Limit = vec.Vec{c.limit}, vec.Vec{c.limit}
		s.Jobs[0].X.Demand, s.Jobs[0].X.Count = vec.Vec{c.n}, c.count
		nodes, ok := evict.Fits(s, 1)
		if ok != c.ok || len(nodes) != c.copies || evict.Could(s, 1) != c.ok {
			t.Errorf("Fits of %v = %q, %v", c, nodes, ok)
		}
		wantAll(t, s, 1)
	}
}

// P16.1: at the root's own path, too, it fits, as Charge says; each kind has its limit.
func TestFitsOfPaths(t *testing.T) {
	for kind := range 4 {
		for _, path := range []string{"", "p", "q", "q/r"} {
			for _, limited := range []string{"", "p", "q", "q/r"} {
				s := built(wide(), plain(9), plan{one(0, 1), ""})
				s.Pool.Nodes[0].Cap = vec.Vec{9, 9, 9, 9}
				s.Jobs[0].X.Path, s.Jobs[0].X.Count = path, 2
				s.Jobs[0].X.Demand[kind] = 3
				at := slices.IndexFunc(s.Tree, func(e quota.Entry) bool { return e.Path == limited })
				for limit, fits := range map[uint64]bool{5: false, 6: true, 0: false} {
					s.Tree[at].Limit[kind] = limit
					above := limited == "" || path == limited || strings.HasPrefix(path, limited+"/")
					if _, ok := evict.Fits(s, 1); ok != (fits || !above) || evict.Could(s, 1) != ok {
						t.Errorf("limit %d of kind %d at %q: Fits of %q = %v", limit, kind, limited, path, ok)
					}
					wantAll(t, s, 1)
				}
			}
		}
	}
}

// P16.1: Could asks of nodes and limits as if nothing ran: what stands, and what is used, is as nothing.
func TestCould(t *testing.T) {
	for id, want := range map[uint64]bool{1: false, 2: false, 3: true, 4: false, 5: false, 6: true, 7: false, 8: true, 9: true} {
		if got := evict.Could(sample(), id); got != want {
			t.Errorf("Could(.., %d) = %v", id, got)
		}
	}
	for what, turn := range map[string]func(s *state.State){
		"all room, all limits":     func(s *state.State) { s.Jobs[8].X.Demand = vec.Vec{10, 10, 5} },
		"used beyond the limits":   func(s *state.State) { s.Tree[0].Used, s.Tree[1].Used = vec.Vec{99, 99}, vec.Vec{99, 99} },
		"used past 64 bits":        func(s *state.State) { s.Tree[1].Used[0] = math.MaxUint64 },
		"more stands than may":     func(s *state.State) { s.Pool.Places[0].V = vec.Vec{99, 99, 99, 99} },
		"all that stands is its":   func(s *state.State) { ownAll(s, 9) },
		"what stands is higher":    func(s *state.State) { raiseAll(s) },
		"the limit is just enough": func(s *state.State) { s.Tree[1].Limit = vec.Vec{7, 7} },
		"nobody runs":              func(s *state.State) { s.Jobs = s.Jobs[8:] },
	} {
		s := turned(turn)
		if wantAll(t, s, 9); !evict.Could(s, 9) {
			t.Errorf("%s: Could says no", what)
		}
	}
}

// ownAll makes all that stands stand for that job.
func ownAll(s *state.State, id uint64) {
	for at := range s.Pool.Places {
		s.Pool.Places[at].Job = id
	}
}

// raiseAll gives all jobs but the last one the highest priority.
func raiseAll(s *state.State) {
	for at := range s.Jobs[:len(s.Jobs)-1] {
		s.Jobs[at].X.Prio = api.MaxPrio
	}
}

// P16.1: what it would lack, if nothing ran, it lacks: nodes, limits, a total.
func TestCouldNot(t *testing.T) {
	for what, turn := range map[string]func(s *state.State){
		"it runs":                 func(s *state.State) { s.Jobs[8].Runs = true },
		"it is not there":         func(s *state.State) { s.Jobs[8].ID = 90 },
		"one of its ID runs":      func(s *state.State) { s.Jobs[1].ID = 9 },
		"no node of so much":      func(s *state.State) { s.Jobs[8].X.Demand[0] = 11 },
		"nodes of so much down":   func(s *state.State) { s.Pool.Nodes[0].Up, s.Pool.Nodes[1].Up = false, false },
		"no node of its selector": func(s *state.State) { s.Jobs[8].X = with(s.Jobs[8].X, "zone=z") },
		"too small a node of it":  func(s *state.State) { s.Jobs[8].X = with(s.Jobs[8].X, "!zone") },
		"two copies, and a limit": func(s *state.State) { s.Jobs[8].X.Count = 2 },
		"the limit of the root":   func(s *state.State) { s.Tree[0].Limit[1] = 6 },
		"the limit of its path":   func(s *state.State) { s.Tree[1].Limit[0] = 6 },
		"no entry of its path":    func(s *state.State) { s.Jobs[8].X.Path = "p/x" },
		"no path":                 func(s *state.State) { s.Jobs[8].X.Path = "p/" },
		"a total of no 64 bits":   func(s *state.State) { s.Jobs[8].X.Demand[1] = 1 << 63; s.Jobs[8].X.Count = 2; hugeNodes(s) },
		"nine copies":             func(s *state.State) { s.Jobs[8].X.Count, s.Jobs[8].X.Demand = 9, vec.Vec{} },
		"no nodes":                func(s *state.State) { s.Pool.Nodes = nil },
	} {
		s := turned(turn)
		if wantAll(t, s, 9); evict.Could(s, 9) {
			t.Errorf("%s: Could says yes", what)
		}
	}
}

// P16.1: who could run, could begin where all that runs is stopped; of right states this is all that Could says.
func TestCouldIsFitsWithoutAll(t *testing.T) {
	chance := &trial{Rand: rand.New(rand.NewSource(16)), s: sample()}
	for range 500 {
		chance.step()
		bare := chance.s
		for _, j := range chance.s.Jobs {
			if next, errno := state.Stop(bare, j.ID, state.Yields); errno == api.OK {
				bare = next
			}
		}
		for _, j := range chance.s.Jobs {
			if _, fits := evict.Fits(bare, j.ID); !j.Runs && fits != evict.Could(chance.s, j.ID) {
				t.Fatalf("Could(.., %d) says %v of\n%s", j.ID, !fits, show(chance.s))
			}
		}
	}
}

// wantLower asks for these IDs of Lower.
func wantLower(t *testing.T, s state.State, id uint64, want ...uint64) {
	t.Helper()
	wantVictims(t, s, id)
	if got := evict.Lower(s, id); !slices.Equal(got, want) {
		t.Errorf("Lower(.., %d) = %d, want %d", id, got, want)
	}
}

// P16.2: who runs, and is of less priority: the least ahead, and of one priority who came last ahead.
func TestLower(t *testing.T) {
	for id, want := range map[uint64][]uint64{1: {2, 5}, 2: nil, 3: {2, 5, 4, 1}, 4: {2, 5}, 5: {2}, 6: {2, 5, 4, 1, 7}, 7: {2, 5, 4, 1}, 8: nil, 9: {2, 5, 4, 1, 7}} {
		wantLower(t, sample(), id, want...)
	}
	var plans []plan
	for at := range 30 {
		plans = append(plans, plan{one(0, at*7%10), "a"})
	}
	s := built(wide(), plain(0), append(plans, plan{one(0, 4), ""})...)
	wantLower(t, s, 31, 21, 11, 1, 24, 14, 4, 27, 17, 7, 30, 20, 10)
	wantLower(t, s, 1)
	wantLower(t, s, 4, 21, 11, 1)
	if got := evict.Lower(s, 18); len(got) != 27 || got[26] != 5 {
		t.Errorf("Lower = %d", got)
	}
}

// P16.2: of one who is not there nothing is told, though jobs of less priority than none run.
func TestLowerOfNone(t *testing.T) {
	below := turned(func(s *state.State) { s.Jobs[0].X.Prio, s.Jobs[1].X.Prio = -1, math.MinInt })
	for _, s := range []state.State{sample(), below, state.New(), {}} {
		for _, id := range []uint64{0, 10, 11, 1<<32 + 6, 1<<63 + 6, math.MaxUint64} {
			wantLower(t, s, id)
			wantTold(t, "none", s, id, "no")
		}
	}
	wantLower(t, below, 8, 2, 1)
	wantLower(t, below, 1, 2)
	wantLower(t, below, 2)
}

// P16.2: priorities and IDs may be any that their bits hold.
func TestLowerOfEdges(t *testing.T) {
	s := state.State{}
	prios := []int{0, math.MinInt, math.MaxInt, -1, 1, math.MinInt + 1, math.MaxInt - 1}
	ids := []uint64{0, math.MaxUint64, 1 << 63, 1<<63 - 1, 1, math.MaxUint32, 1 << 32}
	for _, prio := range prios {
		for _, id := range ids {
			s.Jobs = append(s.Jobs, state.Job{ID: id, X: spec.Spec{Prio: prio}, Runs: true})
		}
	}
	s.Jobs = append(s.Jobs, state.Job{ID: 5, X: spec.Spec{Prio: 0}}, state.Job{ID: 6, X: spec.Spec{Prio: math.MaxInt}}, state.Job{ID: 7, X: spec.Spec{Prio: math.MinInt}})
	falling := []uint64{math.MaxUint64, 1 << 63, 1<<63 - 1, 1 << 32, math.MaxUint32, 1, 0}
	wantLower(t, s, 5, slices.Repeat(falling, 3)...)
	wantLower(t, s, 6, slices.Repeat(falling, 6)...)
	wantLower(t, s, 7)
	wantLower(t, s, 1<<63, slices.Repeat(falling, 3)...)
}

// P16.2: of two, whatever their priorities and IDs are, and whoever stands first.
func TestLowerOfTwo(t *testing.T) {
	prios := []int{math.MinInt, math.MinInt + 1, -1, 0, 1, math.MaxInt - 1, math.MaxInt}
	ids := []uint64{0, 1, 1<<63 - 1, 1 << 63, math.MaxUint64}
	two := func(a, b state.Job) {
		s := state.State{Jobs: []state.Job{a, b, {ID: 5, X: spec.Spec{Prio: math.MaxInt}}}}
		wantVictims(t, s, 5)
		if a.X.Prio < b.X.Prio && b.X.Prio < math.MaxInt || a.X.Prio == b.X.Prio && b.X.Prio < math.MaxInt && a.ID > b.ID {
			wantLower(t, s, 5, a.ID, b.ID)
			slices.Reverse(s.Jobs)
			wantLower(t, s, 5, a.ID, b.ID)
		}
	}
	for _, prio := range prios {
		for _, id := range ids {
			for _, other := range prios {
				for _, otherID := range ids {
					two(state.Job{ID: id, X: spec.Spec{Prio: prio}, Runs: true}, state.Job{ID: otherID, X: spec.Spec{Prio: other}, Runs: true})
				}
			}
		}
	}
}

// P16.2: of wrong states all that run are told, each as often as it stands there; who asks is the first of that ID.
func TestLowerOfTwins(t *testing.T) {
	run := func(id uint64, prio int) state.Job { return state.Job{ID: id, X: one(1, prio), Runs: true} }
	wait := func(id uint64, prio int) state.Job { return state.Job{ID: id, X: one(1, prio)} }
	for _, c := range []struct {
		jobs []state.Job
		want []uint64
	}{
		{[]state.Job{wait(5, 9), run(2, 1), run(2, 1)}, []uint64{2, 2}},
		{[]state.Job{wait(5, 9), run(2, 1), run(3, 1), run(2, 1)}, []uint64{3, 2, 2}},
		{[]state.Job{wait(5, 9), run(2, 3), run(3, 2), run(2, 1)}, []uint64{2, 3, 2}},
		{[]state.Job{wait(5, 9), wait(2, 1), run(2, 1)}, []uint64{2}},
		{[]state.Job{wait(5, 9), run(5, 1), run(5, 9), run(5, 10)}, []uint64{5}},
		{[]state.Job{wait(5, 1), wait(5, 9), run(2, 1), run(3, 0)}, []uint64{3}},
		{[]state.Job{run(5, 4), run(5, 2), run(2, 3)}, []uint64{5, 2}},
	} {
		wantLower(t, state.State{Jobs: c.jobs}, 5, c.want...)
	}
}

// P16.3: who is lower is stopped one by one till it fits; then who is not needed is kept, the first one first.
func TestVictims(t *testing.T) {
	small := func(sizes ...uint64) (l []plan) {
		for at, n := range sizes {
			l = append(l, plan{one(n, at/2), "a"})
		}
		return l
	}
	for _, c := range []struct {
		sizes []uint64
		n     uint64
		want  string
	}{
		// Of sizes by IDs, two of each priority: 2, 1, 4, 3, 6, 5 yield in this order.
		{[]uint64{3, 3, 4}, 1, "[2] on a, true"}, {[]uint64{3, 3, 4}, 3, "[2] on a, true"}, {[]uint64{3, 3, 4}, 4, "[2 1] on a, true"}, {[]uint64{3, 3, 4}, 6, "[2 1] on a, true"},
		{[]uint64{3, 3, 4}, 7, "[1 3] on a, true"}, {[]uint64{3, 3, 4}, 8, "[2 1 3] on a, true"}, {[]uint64{3, 3, 4}, 10, "[2 1 3] on a, true"}, {[]uint64{3, 3, 4}, 11, "no"},
		{[]uint64{1, 1, 5, 1}, 5, "[3] on a, true"}, {[]uint64{1, 1, 5, 1}, 6, "[4 3] on a, true"}, {[]uint64{1, 1, 5, 1}, 7, "[1 4 3] on a, true"}, {[]uint64{1, 1, 5, 1}, 8, "[2 1 4 3] on a, true"},
		{[]uint64{1, 1, 5, 1}, 3, "[2 1 4] on a, true"}, {[]uint64{1, 1, 5, 1}, 4, "[3] on a, true"}, {[]uint64{2, 1, 5, 1}, 4, "[2 1 4] on a, true"}, {[]uint64{2, 5, 1}, 5, "[2] on a, true"},
		{[]uint64{5, 2}, 5, "[1] on a, true"}, {[]uint64{5, 2}, 6, "[2 1] on a, true"}, {[]uint64{4, 4, 4, 4, 4, 4}, 12, "[2 1 4] on a, true"}, {[]uint64{1, 2, 4, 8}, 9, "[1 4] on a, true"},
		{[]uint64{1, 2, 4, 8}, 11, "[2 1 4] on a, true"}, {[]uint64{1, 2, 4, 8}, 13, "[1 4 3] on a, true"}, {[]uint64{8, 4, 2, 1, 0, 0}, 15, "[2 1 4 3] on a, true"}, {[]uint64{0, 0, 0, 1}, 1, "[4] on a, true"},
	} {
		var sum uint64
		for _, n := range c.sizes {
			sum += n
		}
		s := built(wide(), plain(sum), append(small(c.sizes...), plan{one(c.n, 9), ""})...)
		wantTold(t, fmt.Sprint(c), s, uint64(len(c.sizes)+1), c.want)
	}
}

// P16.3: a gang's copies each have their node; whose node is not needed, or is not one of these, is kept.
func TestVictimsOfGangs(t *testing.T) {
	s := built(wide(), []pool.Node{node("a", vec.Vec{4}, "zone=x"), node("b", vec.Vec{4}, "zone=y"), node("c", vec.Vec{4}, "-")},
		plan{job("p", vec.Vec{4}, 1, 1), "c"}, plan{job("p", vec.Vec{2}, 3, 2), "a a b"}, plan{one(2, 3), "b"},
		plan{job("p", vec.Vec{2}, 2, 9), ""}, plan{job("p", vec.Vec{3}, 2, 9), ""}, plan{job("p", vec.Vec{3}, 3, 9), ""}, plan{job("p", vec.Vec{1}, 8, 9), ""}, plan{job("p", vec.Vec{2}, 6, 9), ""}, plan{job("p", vec.Vec{2}, 7, 9), ""},
		plan{with(job("p", vec.Vec{2}, 2, 9), "zone"), ""}, plan{with(job("p", vec.Vec{2}, 3, 9), "zone=y"), ""}, plan{with(job("p", vec.Vec{2}, 2, 9), "zone=y"), ""}, plan{with(job("p", vec.Vec{2}, 1, 3), "zone=y"), ""},
		plan{with(job("p", vec.Vec{2}, 2, 3), "zone=y"), ""}, plan{with(job("p", vec.Vec{2}, 1, 2), "zone=y"), ""}, plan{job("p", vec.Vec{2}, 5, 3), ""}, plan{job("p", vec.Vec{2}, 6, 3), ""},
	)
	for id, want := range map[uint64]string{
		4: "[1] on c c, true", 5: "[1 2] on a c, true", 6: "[1 2 3] on a b c, true", 7: "[1 2] on b b a a a a c c, true", 8: "[1 2 3] on a a b b c c, true", 9: "no",
		10: "[2] on b a, true", 11: "no", 12: "[2 3] on b b, true", 13: "[2] on b, true", 14: "no", 15: "no", 16: "[1 2] on b a a c c, true", 17: "no",
	} {
		wantTold(t, "gangs", s, id, want)
	}
	down := s
	down.Pool, _, _ = pool.Fail(s.Pool, "c")
	for id, want := range map[uint64]string{4: "[2] on b a, true", 5: "[2 3] on a b, true", 6: "no", 8: "no", 13: "[2] on b, true"} {
		wantTold(t, "node c down", down, id, want)
	}
}

// P16.3: who uses a limit yields for it, too; who runs beside it is kept.
func TestVictimsOfLimits(t *testing.T) {
	tree := wide()
	tree[0].Limit, tree[1].Limit, tree[2].Limit, tree[3].Limit = vec.Vec{20}, vec.Vec{6}, vec.Vec{14}, vec.Vec{8}
	at := func(path string, n uint64, prio int) spec.Spec { return job(path, vec.Vec{n}, 1, prio) }
	s := built(tree, plain(90), plan{at("p", 6, 1), "a"}, plan{at("q", 6, 2), "a"}, plan{at("q/r", 5, 3), "a"}, plan{at("q/r", 3, 4), "a"},
		plan{at("p", 1, 9), ""}, plan{at("p", 6, 9), ""}, plan{at("p", 7, 9), ""}, plan{at("q", 1, 9), ""}, plan{at("q", 6, 9), ""}, plan{at("q", 7, 9), ""}, plan{at("q/r", 1, 9), ""},
		plan{at("q/r", 4, 9), ""}, plan{at("q/r", 8, 9), ""}, plan{at("q/r", 9, 9), ""}, plan{at("q/r", 3, 4), ""}, plan{at("q", 11, 4), ""}, plan{at("q", 12, 4), ""}, plan{at("q/r", 0, 0), ""},
	)
	for id, want := range map[uint64]string{
		5: "[1] on a, true", 6: "[1] on a, true", 7: "no", 8: "[2] on a, true", 9: "[2] on a, true", 10: "[2 3] on a, true", 11: "[3] on a, true", 12: "[3] on a, true", 13: "[3 4] on a, true", 14: "no",
		15: "[3] on a, true", 16: "[2 3] on a, true", 17: "no", 18: "[] on a, true",
	} {
		wantTold(t, "limits", s, id, want)
	}
}

// P16.3: where it fits as it is nobody yields; nobody yields to one of no higher priority.
func TestVictimsOfNobody(t *testing.T) {
	s := built(wide(), plain(10, 4), plan{one(6, 1), "a"}, plan{one(4, 5), "b"}, plan{one(4, 9), ""}, plan{one(4, 0), ""}, plan{one(5, 1), ""}, plan{one(5, 2), ""}, plan{one(9, 5), ""}, plan{job("p", vec.Vec{4}, 3, 5), ""}, plan{job("p", vec.Vec{4}, 3, 6), ""})
	for id, want := range map[uint64]string{1: "no", 2: "no", 3: "[] on a, true", 4: "[] on a, true", 5: "no", 6: "[1] on a, true", 7: "[1] on a, true", 8: "no", 9: "[1 2] on b a a, true"} {
		wantTold(t, "nobody", s, id, want)
	}
	if got := told(evict.Victims(built(wide(), plain(1), plan{one(1, 0), ""}), 1)); got != "[] on a, true" {
		t.Errorf("Victims = %s", got)
	}
}

// P16.3: who runs has no victims, though it would wait, and fit, if a lower one of its ID were stopped.
func TestVictimsOfOneWhoRuns(t *testing.T) {
	s := built(wide(), plain(10), plan{one(6, 5), "a"}, plan{one(4, 1), "a"})
	s.Jobs[1].ID = 1
	wantLower(t, s, 1, 1)
	wantTold(t, "it runs", s, 1, "no")
	for _, id := range []uint64{1, 2, 4, 5, 7} {
		wantTold(t, "the sample", sample(), id, "no")
	}
	// Its twin yields to one who waits, but is not stopped: the first of that ID waits already.
	slices.Reverse(s.Jobs)
	s.Jobs[0] = state.Job{ID: 1, X: one(4, 9)}
	s.Pool.Places = s.Pool.Places[:1]
	wantLower(t, s, 1, 1)
	wantTold(t, "it waits", s, 1, "[] on a, true")
	s.Jobs[0].X.Demand[0] = 5
	wantTold(t, "it waits", s, 1, "no")
}

// twins tells a wrong state: jobs of these IDs and priorities run, each of two of one kind, and job 9 waits.
func twins(n uint64, jobs ...state.Job) state.State {
	s := state.State{Pool: pool.Pool{Nodes: plain(uint64(2 * len(jobs)))}, Tree: wide()}
	for _, j := range jobs {
		s.Jobs = append(s.Jobs, j)
		s.Pool.Places = append(s.Pool.Places, pool.Place{Job: j.ID, Node: "a", V: vec.Vec{2}})
		for at := range s.Tree[:2] {
			s.Tree[at].Used[0] += 2
		}
	}
	s.Jobs = append(s.Jobs, state.Job{ID: 9, X: one(n, 7)})
	return s
}

// P16.3: an ID that stands there twice counts twice; it is stopped once, and the first of that ID it is that stops.
func TestVictimsOfTwins(t *testing.T) {
	run := func(id uint64, prio int) state.Job { return state.Job{ID: id, X: one(2, prio), Runs: true} }
	wait := func(id uint64, prio int) state.Job { return state.Job{ID: id, X: one(2, prio)} }
	for _, c := range []struct {
		n    uint64
		jobs []state.Job
		want string
	}{
		{2, []state.Job{run(1, 0), run(1, 0), run(2, 1)}, "[1] on a, true"},
		{4, []state.Job{run(1, 0), run(1, 0), run(2, 1)}, "[1] on a, true"},
		{6, []state.Job{run(1, 0), run(1, 0), run(2, 1)}, "[1 2] on a, true"},
		{8, []state.Job{run(1, 0), run(1, 0), run(2, 1)}, "no"},
		{2, []state.Job{run(1, 2), run(2, 1), run(1, 0)}, "[1] on a, true"},
		{6, []state.Job{run(1, 2), run(2, 1), run(1, 0)}, "[1 2] on a, true"},
		{8, []state.Job{run(1, 2), run(2, 1), run(1, 0), run(3, 3)}, "[2 1 3] on a, true"},
		{2, []state.Job{run(1, 2), run(2, 1), run(1, 0), run(3, 3)}, "[1] on a, true"},
		{4, []state.Job{wait(1, 0), run(1, 0), run(2, 1)}, "no"},
		{2, []state.Job{wait(1, 0), run(1, 0), run(2, 1)}, "[2] on a, true"},
		{2, []state.Job{wait(1, 9), run(2, 1), run(1, 0)}, "[2] on a, true"},
		{4, []state.Job{run(1, 9), run(1, 0), run(2, 1)}, "[1] on a, true"},
		{2, []state.Job{run(1, 9), run(2, 8), run(2, 7)}, "no"},
		{2, []state.Job{run(9, 0), run(1, 9)}, "no"},
	} {
		s := twins(c.n, c.jobs...)
		wantTold(t, fmt.Sprint(c), s, 9, c.want)
	}
}

// P16.3: where a Refund tells an error, just as much is free as Stop frees, and in the order in which they are stopped.
func TestVictimsOfWrongUse(t *testing.T) {
	// Job 4 asks for 1 of what 3, 2, 1 use, and for the node that job 0 has, so that all are stopped. Where less is
	// used than they ask, it may fit with one of those left that are told: the others are then refunded.
	build := func(limit, inUse uint64, totals ...uint64) state.State {
		s := state.State{Pool: pool.Pool{Nodes: plain(0)}, Tree: wide()}
		s.Pool.Nodes[0].Cap[1] = 5
		s.Pool.Places = []pool.Place{{Job: 0, Node: "a", V: vec.Vec{0, 5}}}
		for at := range s.Tree[:2] {
			s.Tree[at].Limit[0], s.Tree[at].Used = limit, vec.Vec{inUse, 5}
		}
		for at, n := range totals {
			s.Jobs = append(s.Jobs, state.Job{ID: uint64(len(totals) - at), X: one(n, 0), Runs: true})
		}
		s.Jobs = append(s.Jobs, state.Job{X: job("p", vec.Vec{0, 5}, 1, 1), Runs: true}, state.Job{ID: 4, X: job("p", vec.Vec{1, 5}, 1, 9)})
		s.Pool.Nodes[0].Cap[0] = 1
		return s
	}
	for _, c := range []struct {
		limit, inUse uint64
		totals       []uint64
		want         string
	}{
		{4, 10, []uint64{1, 6, 9}, "[3 1 0] on a, true"}, {4, 10, []uint64{9, 6, 1}, "[2 1 0] on a, true"}, {4, 10, []uint64{6, 1, 9}, "[1 0] on a, true"},
		{4, 5, []uint64{3, 4}, "[1 0] on a, true"}, {2, 5, []uint64{3, 4}, "no"}, {2, 5, []uint64{4, 3}, "[2 0] on a, true"}, {1, 5, []uint64{4, 1}, "[2 1 0] on a, true"},
		{4, 3, []uint64{9, 9}, "[0] on a, true"}, {3, 3, []uint64{9, 9}, "no"}, {3, 3, []uint64{9, 1, 9}, "[2 0] on a, true"},
	} {
		s := build(c.limit, c.inUse, c.totals...)
		wantTold(t, fmt.Sprint(c), s, 4, c.want)
	}
}

// P16.3: who is stopped waits, and so has no place: what Stop tells of the queue and of notes turns nothing.
func TestVictimsOfWrongQueues(t *testing.T) {
	for what, turn := range map[string]func(s *state.State){
		"no queue":             func(s *state.State) { s.Queue = nil },
		"a full queue":         func(s *state.State) { s.Queue = make([]queue.Entry, 32) },
		"who runs is there":    func(s *state.State) { s.Queue = append(s.Queue, queue.Entry{ID: 5}, queue.Entry{ID: 2}) },
		"notes":                func(s *state.State) { s.Events.L = make([]state.Note, 99) },
		"nothing left":         func(s *state.State) { s.Jobs[1].Left, s.Jobs[4].Left = 0, -1 },
		"no next, no round":    func(s *state.State) { s.Next, s.Round = 0, math.MaxUint64 },
		"places of none":       func(s *state.State) { s.Pool.Places = append(s.Pool.Places, pool.Place{Job: 77, Node: "d"}) },
		"one who waits stands": func(s *state.State) { s.Pool.Places = append(s.Pool.Places, pool.Place{Job: 9, Node: "d"}) },
	} {
		t.Run(what, func(t *testing.T) {
			wantTold(t, what, turned(turn), 3, "[5] on a a, true")
			wantTold(t, what, turned(turn), 9, "[2 5 1] on a, true")
		})
	}
}

// eachList hands to do all lists of at most so many of the items.
func eachList[Item any](items []Item, most int, do func(l []Item)) {
	var grow func(l []Item)
	grow = func(l []Item) {
		do(l)
		if len(l) == most {
			return
		}
		for _, item := range items {
			grow(append(l[:len(l):len(l)], item))
		}
	}
	grow(nil)
}

// P16.1 to P16.4: all lists of up to three of some jobs that run or wait, and some jobs behind them that wait.
func TestAllSmall(t *testing.T) {
	var items []plan
	for _, prio := range []int{0, 1} {
		for _, at := range []string{"", "a", "b"} {
			items = append(items, plan{job("p", vec.Vec{1}, 1, prio), at}, plan{job("q", vec.Vec{2}, 1, prio), at})
		}
	}
	asked := []plan{{job("p", vec.Vec{3}, 1, 2), ""}, {job("q", vec.Vec{2}, 2, 1), ""}, {job("p", vec.Vec{1}, 3, 2), ""}, {job("q", vec.Vec{1}, 2, 2), ""}}
	some, none := 0, 0
	eachList(items, 3, func(l []plan) {
		s, ok := tryBuilt(append(slices.Clone(l), asked...))
		if !ok {
			return
		}
		for id := range uint64(len(s.Jobs) + 2) {
			yield, free := wantAll(t, s, id)
			if yield {
				some++
			}
			if free {
				none++
			}
		}
	})
	if some < 500 || none < 500 {
		t.Errorf("%d have victims, %d need none", some, none)
	}
}

// tryBuilt tells a right state of small nodes and limits, and these jobs; false, if there is no room for one of them.
func tryBuilt(plans []plan) (s state.State, ok bool) {
	defer func() { ok = recover() == nil }()
	tree := wide()
	tree[0].Limit, tree[1].Limit, tree[2].Limit = vec.Vec{5}, vec.Vec{3}, vec.Vec{4}
	return built(tree, plain(4, 3), plans...), true
}

// P16.1 to P16.3: all lists of up to four jobs of three IDs, also of one ID, whatever stands and is used.
func TestAllSmallTwins(t *testing.T) {
	var items []state.Job
	for _, id := range []uint64{1, 2} {
		for _, prio := range []int{0, 1} {
			items = append(items, state.Job{ID: id, X: one(1, prio)}, state.Job{ID: id, X: one(1, prio), Runs: true})
		}
	}
	places := []pool.Place{{Job: 1, Node: "a", V: vec.Vec{1}}, {Job: 2, Node: "a", V: vec.Vec{2}}}
	some := 0
	eachList(items, 4, func(l []state.Job) {
		for inUse := range uint64(4) {
			s := state.State{Pool: pool.Pool{Nodes: plain(3), Places: places}, Tree: wide(), Jobs: append(slices.Clone(l), state.Job{ID: 3, X: one(2, 2)})}
			for at := range s.Tree[:2] {
				s.Tree[at].Limit[0], s.Tree[at].Used[0] = 3, inUse
			}
			for id := range uint64(4) {
				if yield, _ := wantAll(t, s, id); yield {
					some++
				}
			}
		}
	})
	if some < 500 {
		t.Errorf("%d have victims", some)
	}
}

// trial plays what comes about by chance.
type trial struct {
	*rand.Rand
	s state.State
}

// spec tells a job by chance.
func (c *trial) spec() spec.Spec {
	x := job([]string{"p", "p", "q", "q/r", "q/r"}[c.Intn(5)], vec.Vec{uint64(c.Intn(5)), uint64(c.Intn(4))}, 1+c.Intn(4), c.Intn(10))
	x.Demand[2] = uint64(max(c.Intn(8)-6, 0))
	x.Ticks = 1 + c.Intn(9)
	if c.Intn(3) == 0 {
		x = with(x, []string{"zone", "!zone", "zone=x", "zone!=x", "zone=x|y", "disk", "!disk,zone", "zone=z", "disk=ssd,zone=x"}[c.Intn(9)])
	}
	return x
}

// id tells one that is there, most of the time.
func (c *trial) id() uint64 {
	if len(c.s.Jobs) == 0 || c.Intn(10) == 0 {
		return uint64(c.Intn(int(min(c.s.Next, 1000)) + 2))
	}
	return c.s.Jobs[c.Intn(len(c.s.Jobs))].ID
}

// step does one thing more by chance; what is right stays so.
func (c *trial) step() {
	id := c.id()
	switch c.Intn(10) {
	case 0, 1:
		if len(c.s.Jobs) < 9 {
			c.s, _, _ = state.Submit(c.s, c.spec())
		}
	case 2, 3, 4, 5:
		c.begin(id)
	case 6:
		c.s, _ = state.Stop(c.s, id, state.Yields)
	case 7:
		c.s, _ = state.End(c.s, id, state.Ends)
	case 8:
		c.s.Pool, _, _ = pool.Fail(c.s.Pool, string(rune('a'+c.Intn(5))))
	case 9:
		c.s.Pool, _ = pool.Mend(c.s.Pool, string(rune('a'+c.Intn(4))))
	}
}

// begin lets the job of that ID run where its victims were, or where it is led by chance.
func (c *trial) begin(id uint64) {
	l, nodes, ok := evict.Victims(c.s, id)
	if !ok || c.Intn(2) == 0 {
		l, nodes = nil, nil
		if j, found := state.Find(c.s, id); found {
			for range j.X.Count {
				nodes = append(nodes, string(rune('a'+c.Intn(4))))
			}
		}
	}
	for _, victim := range l {
		c.s, _ = state.Stop(c.s, victim, state.Yields)
	}
	c.s, _ = state.Begin(c.s, id, nodes)
}

// P16.1 to P16.4: many things come to pass; of each job all calls tell what they should.
func TestLongRun(t *testing.T) {
	c := &trial{Rand: rand.New(rand.NewSource(5)), s: sample()}
	some, none := 0, 0
	for range 12000 {
		if c.step(); !state.Right(c.s) {
			t.Fatalf("not right:\n%s", show(c.s))
		}
		yield, free := wantAll(t, c.s, c.id())
		if yield {
			some++
		}
		if free {
			none++
		}
	}
	if some < 200 || none < 200 {
		t.Errorf("%d had victims, %d needed none", some, none)
	}
}

// spoil turns something of s by chance.
func (c *trial) spoil(s *state.State) {
	id := uint64(c.Intn(11))
	number := c.Intn(14) - 3
	at := func(count int) int { return c.Intn(max(count, 1)) }
	switch k := c.Intn(16); {
	case k == 0 && len(s.Jobs) > 0:
		s.Jobs[at(len(s.Jobs))].ID = id
	case k == 1 && len(s.Jobs) > 0:
		j := &s.Jobs[at(len(s.Jobs))]
		j.Runs = !j.Runs
	case k == 2 && len(s.Jobs) > 0:
		s.Jobs[at(len(s.Jobs))].X = c.spec()
	case k == 3 && len(s.Jobs) > 0:
		s.Jobs[at(len(s.Jobs))].X.Prio = number
	case k == 4 && len(s.Jobs) > 0:
		s.Jobs[at(len(s.Jobs))].X.Count = number
	case k == 5 && len(s.Jobs) > 0:
		s.Jobs = append(s.Jobs, s.Jobs[at(len(s.Jobs))])
	case k == 6 && len(s.Jobs) > 0:
		s.Jobs[at(len(s.Jobs))].X.Path = []string{"", "P", "x", "q/r/s", "p"}[c.Intn(5)]
	case k == 7 && len(s.Pool.Places) > 0:
		s.Pool.Places[at(len(s.Pool.Places))].Job = id
	case k == 8 && len(s.Pool.Places) > 0:
		s.Pool.Places[at(len(s.Pool.Places))].V = vec.Vec{uint64(max(number, 0)), 1}
	case k == 9 && len(s.Pool.Places) > 0:
		s.Pool.Places = s.Pool.Places[1:]
	case k == 10:
		s.Pool.Places = append(s.Pool.Places, pool.Place{Job: id, Node: "b", V: vec.Vec{uint64(max(number, 0))}})
	case k == 11 && len(s.Tree) > 0:
		s.Tree[at(len(s.Tree))].Used[at(2)] = uint64(max(number, 0))
	case k == 12 && len(s.Tree) > 0:
		s.Tree[at(len(s.Tree))].Limit[at(2)] = uint64(max(number, 0)) * 2
	case k == 13 && len(s.Tree) > 0:
		i := at(len(s.Tree))
		s.Tree = append(s.Tree[:i], s.Tree[i+1:]...)
	case k == 14 && len(s.Pool.Nodes) > 0:
		s.Pool.Nodes[at(len(s.Pool.Nodes))].Name = string(rune('a' + c.Intn(5)))
	case k == 15 && len(s.Jobs) > 1:
		i, k := at(len(s.Jobs)), at(len(s.Jobs))
		s.Jobs[i], s.Jobs[k] = s.Jobs[k], s.Jobs[i]
	}
}

// P16.1 to P16.3: of what is spoiled by chance, too, each call tells what the chapter says.
func TestWrongStates(t *testing.T) {
	c := &trial{Rand: rand.New(rand.NewSource(6))}
	some, none := 0, 0
	for range 8000 {
		c.s = sample()
		for range 1 + c.Intn(5) {
			c.spoil(&c.s)
		}
		yield, free := wantAll(t, c.s, c.id())
		if yield {
			some++
		}
		if free {
			none++
		}
	}
	if some < 500 || none < 500 {
		t.Errorf("%d had victims, %d needed none", some, none)
	}
}

// P16.3: as many as may be run, and yield.
func TestVictimsOfMany(t *testing.T) {
	var plans []plan
	for at := range api.MaxQueue - 1 {
		plans = append(plans, plan{job("p", vec.Vec{1}, api.MaxGang, at%9), strings.TrimSpace(strings.Repeat("a ", api.MaxGang))})
	}
	for n, want := range map[uint64]int{1: 1, 8: 1, 9: 2, 16: 2, 17: 3, 240: 30, 241: 31, 248: 31} {
		s := built(wide(), plain(8*31), append(plans, plan{one(n, 9), ""})...)
		l, nodes, ok := evict.Victims(s, 32)
		if lower := evict.Lower(s, 32); !ok || !slices.Equal(l, lower[:want]) || !slices.Equal(nodes, []string{"a"}) {
			t.Errorf("Victims for %d = %s", n, told(l, nodes, ok))
		}
		wantAll(t, s, 32)
	}
	wantTold(t, "too much", built(wide(), plain(8*31), append(plans, plan{one(249, 9), ""})...), 32, "no")
}

// spare tells l with room behind it, in which what stands must stay.
func spare[Item any](l []Item, what Item) []Item {
	return append(slices.Clone(l), slices.Repeat([]Item{what}, 9)...)[:len(l)]
}

// spared tells s with room behind each of its lists.
func spared(s state.State) state.State {
	s.Pool.Nodes = spare(s.Pool.Nodes, pool.Node{Name: "w"})
	for at, n := range s.Pool.Nodes {
		s.Pool.Nodes[at].Labels = spare(n.Labels, label.Pair{Key: "w"})
	}
	s.Pool.Places = spare(s.Pool.Places, pool.Place{Job: 77})
	s.Tree = spare(s.Tree, quota.Entry{Path: "w"})
	s.Jobs = spare(s.Jobs, state.Job{ID: 77})
	for at, j := range s.Jobs {
		s.Jobs[at].X.Sel = spare(j.X.Sel, sel.Term{Key: "w"})
		for i, term := range s.Jobs[at].X.Sel {
			s.Jobs[at].X.Sel[i].Values = spare(term.Values, "w")
		}
	}
	s.Queue = spare(s.Queue, queue.Entry{ID: 77})
	s.Events.L = spare(s.Events.L, state.Note{ID: 77})
	s.Audit.L = spare(s.Audit.L, state.Note{ID: 77})
	return s
}

// reach tells s with all that stands behind its lists, too.
func reach(s state.State) state.State {
	s.Pool.Nodes = slices.Clone(s.Pool.Nodes[:cap(s.Pool.Nodes)])
	for at, n := range s.Pool.Nodes {
		s.Pool.Nodes[at].Labels = n.Labels[:cap(n.Labels)]
	}
	s.Pool.Places = s.Pool.Places[:cap(s.Pool.Places)]
	s.Tree = s.Tree[:cap(s.Tree)]
	s.Jobs = slices.Clone(s.Jobs[:cap(s.Jobs)])
	for at, j := range s.Jobs {
		s.Jobs[at].X.Sel = slices.Clone(j.X.Sel[:cap(j.X.Sel)])
		for i, term := range s.Jobs[at].X.Sel {
			s.Jobs[at].X.Sel[i].Values = term.Values[:cap(term.Values)]
		}
	}
	s.Queue = s.Queue[:cap(s.Queue)]
	s.Events.L = s.Events.L[:cap(s.Events.L)]
	s.Audit.L = s.Audit.L[:cap(s.Audit.L)]
	return s
}

// states are some of all sorts.
func states() []state.State {
	return []state.State{
		sample(), state.New(), {}, built(wide(), plain(4), plan{one(4, 1), "a"}, plan{one(4, 5), ""}),
		turned(func(s *state.State) { s.Jobs[3].ID = 2; s.Tree = s.Tree[:3] }), turned(func(s *state.State) { s.Pool.Nodes[0].Cap = vec.Vec{1} }), turned(func(s *state.State) { s.Events.L = make([]state.Note, 32) }),
	}
}

// answers tells all that the calls tell, of each ID that may be there.
func answers(s state.State) string {
	var text strings.Builder
	for id := range uint64(12) {
		nodes, ok := evict.Fits(s, id)
		fmt.Fprintf(&text, "%q %v %v %d %s\n", nodes, ok, evict.Could(s, id), evict.Lower(s, id), told(evict.Victims(s, id)))
	}
	return text.String()
}

// Nothing that is handed in is written into, nor what stands behind it in its array.
func TestArgumentsStay(t *testing.T) {
	for _, s := range states() {
		s := spared(s)
		was := show(reach(s))
		answers(s)
		if now := show(reach(s)); now != was {
			t.Fatalf("was\n%snow\n%s", was, now)
		}
	}
}

// What is told is memory of its own: whoever writes into it turns nothing else.
func TestAnswersAreNew(t *testing.T) {
	for _, s := range states() {
		s := spared(s)
		was, want := show(reach(s)), answers(s)
		for id := range uint64(12) {
			nodes, _ := evict.Fits(s, id)
			lower := evict.Lower(s, id)
			l, victimNodes, _ := evict.Victims(s, id)
			keptLower, keptNodes := slices.Clone(lower), slices.Clone(nodes)
			clear(l[:cap(l)])
			clear(victimNodes[:cap(victimNodes)])
			if !slices.Equal(lower, keptLower) || !slices.Equal(nodes, keptNodes) {
				t.Fatalf("answers share memory: %d, %q", lower, nodes)
			}
			clear(lower[:cap(lower)])
			clear(nodes[:cap(nodes)])
		}
		if show(reach(s)) != was || answers(s) != want {
			t.Fatalf("was\n%snow\n%s", was, show(reach(s)))
		}
	}
}

// What is told hangs on the arguments alone: not on what was asked ahead, nor on who asks at the same time.
func TestToldAgain(t *testing.T) {
	all := states()
	var want []string
	for _, s := range all {
		want = append(want, answers(s))
	}
	var group sync.WaitGroup
	for worker := range 8 {
		group.Go(func() {
			for round := range 60 {
				at := (worker*3 + round) % len(all)
				if got := answers(all[at]); got != want[at] {
					t.Errorf("told\n%snow\n%s", want[at], got)
				}
			}
		})
	}
	group.Wait()
}

// Many of everything: each call comes to its end soon.
func TestMany(t *testing.T) {
	begin := time.Now()
	const count = 100000
	s := state.State{Next: 1, Tree: wide()}
	for at := range uint64(count) {
		s.Jobs = append(s.Jobs, state.Job{ID: at, X: one(1, 3), Runs: at%2 == 0})
		s.Queue = append(s.Queue, queue.Entry{ID: at})
		s.Tree = append(s.Tree, quota.Entry{Path: "p"})
		s.Pool.Places = append(s.Pool.Places, pool.Place{Job: at, Node: "a"})
		s.Pool.Nodes = append(s.Pool.Nodes, plain(5)...)
		s.Events.L = append(s.Events.L, state.Note{ID: at})
	}
	s.Audit = s.Events
	s.Jobs[7].X.Prio = 9
	if nodes, ok := evict.Fits(s, 7); len(nodes) != 1 || !ok || !evict.Could(s, 7) || len(evict.Lower(s, 7)) != count/2 {
		t.Errorf("Fits = %q, %v", nodes, ok)
	}
	if got := told(evict.Victims(s, 7)); got != "[] on a, true" {
		t.Errorf("Victims = %s", got)
	}
	s.Jobs[7].X.Prio, s.Jobs[7].X.Demand, s.Jobs[8].X.Prio = 3, vec.Vec{6}, 2
	if got := told(evict.Victims(s, 7)); got != "no" || len(evict.Lower(s, 7)) != 1 {
		t.Errorf("Victims = %s", got)
	}
	if spent := time.Since(begin); spent > 30*time.Second {
		t.Errorf("it took %v", spent)
	}
}

// FuzzCalls holds all calls against the reckonings by hand.
func FuzzCalls(f *testing.F) {
	for seed := range int64(8) {
		f.Add(seed, uint64(seed), int(seed)-1, seed*5)
	}
	f.Add(int64(9), uint64(math.MaxUint64), math.MinInt, int64(-1))
	f.Add(int64(10), uint64(1<<63), math.MaxInt, int64(math.MaxInt64))
	f.Fuzz(func(t *testing.T, seed int64, id uint64, prio int, amount int64) {
		c := &trial{Rand: rand.New(rand.NewSource(seed)), s: sample()}
		for range c.Intn(9) {
			c.step()
		}
		wantAll(t, c.s, id)
		wantAll(t, c.s, c.id())
		c.s.Jobs = append(c.s.Jobs, state.Job{ID: id, X: job("p", vec.Vec{uint64(amount), uint64(amount) % 7}, 1+c.Intn(9), prio), Runs: c.Intn(3) == 0})
		for range c.Intn(4) {
			c.spoil(&c.s)
		}
		wantAll(t, c.s, id)
		wantAll(t, c.s, c.id())
	})
}
