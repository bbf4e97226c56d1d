package state_test

import (
	"math"
	"math/rand"
	"slices"
	"strings"
	"sync"
	"testing"
	"time"

	"demesne/api"
	"demesne/label"
	"demesne/pool"
	"demesne/queue"
	"demesne/quota"
	"demesne/sel"
	"demesne/spec"
	"demesne/state"
	"demesne/vec"
	"demesne/wire"
)

// job tells what is asked of so many copies.
func job(path string, demand vec.Vec, count, prio, ticks int) spec.Spec {
	return spec.Spec{Path: path, Demand: demand, Count: count, Prio: prio, Ticks: ticks}
}

// where tells a selector.
func where() []sel.Term {
	return []sel.Term{{Key: "zone", Values: []string{"x", "y"}}, {Key: "old", Not: true}}
}

// sample tells a right state: jobs 2, 5 and 9 run, 6 and 3 wait; node n3 is down.
func sample() state.State {
	two := job("a/b", vec.Vec{2, 1}, 3, 5, 9)
	two.Sel = where()
	return state.State{
		Round: 70, Next: 11,
		Pool: pool.Pool{
			Nodes: []pool.Node{
				{Name: "n1", Cap: vec.Vec{9, 9}, Labels: []label.Pair{{Key: "zone", Value: "x"}}, Up: true},
				{Name: "n2", Cap: vec.Vec{8, 20}, Labels: []label.Pair{{Key: "zone", Value: "y"}}, Up: true},
				{Name: "n3", Cap: vec.Vec{}},
			},
			Places: []pool.Place{
				{Job: 9, Node: "n3"}, {Job: 2, Node: "n1", V: vec.Vec{2, 1}}, {Job: 2, Node: "n2", V: vec.Vec{2, 1}}, {Job: 2, Node: "n1", V: vec.Vec{2, 1}},
				{Job: 5, Node: "n2", V: vec.Vec{3, 3}}, {Job: 5, Node: "n1", V: vec.Vec{3, 3}}, {Job: 9, Node: "n3"},
			},
		},
		Tree: []quota.Entry{
			{Path: "", Limit: vec.Vec{30, 40}, Used: vec.Vec{12, 9}},
			{Path: "a", Limit: vec.Vec{12, 40}, Used: vec.Vec{6, 3}},
			{Path: "a/b", Limit: vec.Vec{9, 9}, Used: vec.Vec{6, 3}},
			{Path: "c", Limit: vec.Vec{20, 20}, Used: vec.Vec{6, 6}},
		},
		Jobs: []state.Job{
			{ID: 2, X: two, Runs: true, Left: 4},
			{ID: 3, X: job("a", vec.Vec{1}, 1, 5, 1)},
			{ID: 5, X: job("c", vec.Vec{3, 3}, 2, 0, 100), Runs: true, Left: 100},
			{ID: 6, X: job("a/b", vec.Vec{1, 1}, 2, 9, 100)},
			{ID: 9, X: job("c", vec.Vec{}, 2, 9, 3), Runs: true, Left: 1},
		},
		Queue:  []queue.Entry{{ID: 6, Prio: 9}, {ID: 3, Prio: 5}},
		Events: state.Stream{First: 4, L: []state.Note{{Round: 68, ID: 9, Kind: 1}, {Round: 70, ID: 5, Kind: 2}}},
		Audit:  state.Stream{First: 300, L: []state.Note{{Round: 69, ID: 9, Kind: -1}}},
	}
}

// turned tells the sample with something turned.
func turned(turn func(s *state.State)) state.State {
	s := sample()
	turn(&s)
	return s
}

// full tells a right state of so many jobs that wait, of IDs 1, 2, 3 ..
func full(t testing.TB, count int) state.State {
	t.Helper()
	s := turned(func(s *state.State) {
		*s = state.State{Next: 1, Pool: s.Pool, Tree: s.Tree}
		s.Pool.Places = nil
		for at := range s.Tree {
			s.Tree[at].Used = vec.Vec{}
		}
	})
	for at := range count {
		next, _, errno := state.Submit(s, job("a", vec.Vec{1}, 1+at%4, at%10, 1+at))
		if errno != api.OK {
			t.Fatalf("Submit = %d", errno)
		}
		s = next
	}
	return s
}

// The chapter's example.
func TestExample(t *testing.T) {
	got, id, errno := state.Submit(state.New(), job("team", vec.Vec{1}, 1, 1, 1))
	wantState(t, "Submit", got, errno, state.New(), api.ErrNone)
	if id != 0 {
		t.Errorf("the ID %d", id)
	}
}

// The sample is what it should be.
func TestSample(t *testing.T) {
	wantForms(t, sample())
	if !state.Right(sample()) {
		t.Error("the sample is not right")
	}
}

// P15.1: at first there is the root of the limits, and the next ID is 1.
func TestNew(t *testing.T) {
	got := state.New()
	want := state.State{Next: 1, Tree: []quota.Entry{{}}}
	if show(got) != show(want) || !state.Right(got) || !state.Same(got, want) {
		t.Errorf("New = %s", show(got))
	}
	if form := state.Put(got); form != "\x00\x01\x00\x00\x01\x00\x00\x00\x00\x00\x00\x00\x00\x00\x00\x00\x00\x00\x00" {
		t.Errorf("Put = %q", form)
	}
	got.Tree[0].Path = "x"
	if show(state.New()) != show(want) {
		t.Error("what was told once is told again")
	}
	wantForms(t, state.New())
}

// P15.1: the first of that ID is found.
func TestFind(t *testing.T) {
	s := turned(func(s *state.State) {
		s.Jobs = append(s.Jobs, state.Job{ID: 3, Left: 7}, state.Job{ID: 0, Left: 8}, state.Job{ID: math.MaxUint64, Left: 9}, state.Job{ID: 0, Left: 10})
	})
	for id, left := range map[uint64]int{2: 4, 3: 0, 5: 100, 6: 0, 9: 1, 0: 8, math.MaxUint64: 9} {
		if j, ok := state.Find(s, id); !ok || j.ID != id || j.Left != left {
			t.Errorf("Find(%d) = %v, %v", id, j, ok)
		}
		wantFind(t, s, id)
	}
	for _, id := range []uint64{1, 4, 7, 8, 10, 11, 1<<32 + 2, 1<<63 + 2, math.MaxUint64 - 1} {
		if j, ok := state.Find(s, id); ok || showJob(j) != showJob(state.Job{}) {
			t.Errorf("Find(%d) = %v, %v", id, j, ok)
		}
		wantFind(t, s, id)
	}
	if j, ok := state.Find(state.State{}, 0); ok || j.ID != 0 {
		t.Errorf("Find = %v, %v", j, ok)
	}
}

// notes tells so many, of IDs from one on.
func notes(first uint64, count int) (l []state.Note) {
	for at := range count {
		l = append(l, state.Note{Round: 5, ID: first + uint64(at), Kind: at%6 + 1})
	}
	return l
}

// P15.1: one note more stands behind the others; behind MaxNotes the first one goes, and First is one more.
func TestTell(t *testing.T) {
	var x state.Stream
	for at := range uint64(100) {
		x = wantTell(t, x, state.Note{Round: at / 3, ID: at, Kind: int(at)})
		if first := max(int(at)+1-api.MaxNotes, 0); x.First != uint64(first) || len(x.L) != int(at)+1-first || x.L[0].ID != uint64(first) || x.L[len(x.L)-1].ID != at {
			t.Fatalf("behind %d: %s", at, showStream(x))
		}
	}
	for _, first := range []uint64{0, 1, 1 << 32, math.MaxInt64, math.MaxUint64 - 1, math.MaxUint64} {
		for _, count := range []int{0, 1, 31, 32, 33, 34, 64, 1000} {
			x := state.Stream{First: first, L: notes(1, count)}
			got := wantTell(t, x, state.Note{Round: math.MaxUint64, ID: math.MaxUint64, Kind: math.MinInt})
			if gone := count >= 32; gone != (got.First == first+1) || gone != (len(got.L) == count) {
				t.Errorf("of %d: %d, First %d", count, len(got.L), got.First)
			}
		}
	}
}

// P15.1: told are notes from a number on, MaxTell at most, and the number behind them.
func TestFrom(t *testing.T) {
	x := state.Stream{First: 100, L: notes(100, 20)}
	for _, c := range []struct {
		from, first, next uint64
		count             int
	}{
		{0, 100, 108, 8}, {99, 100, 108, 8}, {100, 100, 108, 8}, {101, 101, 109, 8}, {111, 111, 119, 8}, {112, 112, 120, 8}, {113, 113, 120, 7},
		{119, 119, 120, 1}, {120, 0, 120, 0}, {121, 0, 121, 0}, {1 << 63, 0, 1 << 63, 0}, {math.MaxUint64, 0, math.MaxUint64, 0},
	} {
		l, next := wantFrom(t, x, c.from)
		if len(l) != c.count || next != c.next || c.count > 0 && l[0].ID != c.first {
			t.Errorf("From(%d) = %v, %d", c.from, l, next)
		}
	}
	for _, first := range []uint64{0, 7, math.MaxUint64} {
		for _, from := range []uint64{0, 6, 7, 8, math.MaxUint64} {
			if l, next := wantFrom(t, state.Stream{First: first}, from); len(l) != 0 || next != max(first, from) {
				t.Errorf("From(%d, %d) = %v, %d", first, from, l, next)
			}
		}
	}
}

// P15.1: who goes on from where they were told to is told all, once.
func TestFromOneByOne(t *testing.T) {
	for count := range 70 {
		x := state.Stream{First: 9, L: notes(9, count)}
		var all []state.Note
		for from := uint64(0); ; {
			l, next := wantFrom(t, x, from)
			if len(l) == 0 {
				break
			}
			all = append(all, l...)
			from = next
		}
		if !slices.Equal(all, x.L) {
			t.Errorf("of %d: %v", count, all)
		}
	}
}

// P15.1: numbers are of 64 bits: behind the greatest one comes 0.
func TestFromPastTheEnd(t *testing.T) {
	for back := range uint64(12) {
		for count := range 14 {
			x := state.Stream{First: -back, L: notes(0, count)}
			for _, from := range []uint64{0, 1, 2, 3, 5, 8, math.MaxUint64 / 2, math.MaxUint64 - 3, math.MaxUint64 - 1, math.MaxUint64} {
				wantFrom(t, x, from)
			}
		}
	}
	l, next := state.From(state.Stream{First: math.MaxUint64, L: notes(1, 3)}, 1)
	if len(l) != 2 || l[0].ID != 1 || l[1].ID != 3 || next != 2 {
		t.Errorf("From = %v, %d", l, next)
	}
	if l, next := state.From(state.Stream{First: math.MaxUint64, L: notes(1, 1)}, 1); len(l) != 1 || next != 0 {
		t.Errorf("From = %v, %d", l, next)
	}
}

// P15.2: who is submitted waits, behind the other jobs, where their turn is; an event tells so.
func TestSubmit(t *testing.T) {
	x := job("a/b", vec.Vec{1, 2, 3, 4}, 8, 5, 100)
	x.Sel = where()
	got, id, errno := wantSubmit(t, sample(), x)
	want := turned(func(s *state.State) {
		s.Next = 12
		s.Jobs = append(s.Jobs, state.Job{ID: 11, X: x})
		s.Queue = append(s.Queue, queue.Entry{ID: 11, Prio: 5})
		s.Events.L = append(s.Events.L, state.Note{Round: 70, ID: 11, Kind: state.Waits})
	})
	wantState(t, "Submit", got, errno, want, api.OK)
	if id != 11 {
		t.Errorf("the ID %d", id)
	}
	x.Prio = 8
	if got, _, _ = wantSubmit(t, got, x); !slices.Equal(got.Queue, []queue.Entry{{ID: 6, Prio: 9}, {ID: 12, Prio: 8}, {ID: 3, Prio: 5}, {ID: 11, Prio: 5}}) {
		t.Errorf("the queue %v", got.Queue)
	}
	for _, x := range []spec.Spec{job("a", vec.Vec{}, 1, 0, 1), job("a/b", vec.Vec{math.MaxUint64}, 1, 9, 100), job("c", vec.Vec{math.MaxUint64 / 8}, 8, 3, 1)} {
		if _, id, errno := wantSubmit(t, sample(), x); id != 11 || errno != api.OK {
			t.Errorf("Submit = %d, %d", id, errno)
		}
	}
}

// wantRefused asks for that error of Submit, and that nothing else is told.
func wantRefused(t *testing.T, s state.State, x spec.Spec, want api.Errno) {
	t.Helper()
	was := own(s)
	got, id, errno := wantSubmit(t, s, x)
	wantState(t, "Submit of "+showSpec(x), got, errno, was, want)
	if id != 0 || show(s) != show(was) {
		t.Errorf("the ID %d", id)
	}
}

// P15.2: what may not be is refused, as Check says, ahead of all other errors.
func TestSubmitOfWrong(t *testing.T) {
	wrongSel := job("c", vec.Vec{1}, 1, 1, 1)
	wrongSel.Sel = []sel.Term{{Key: "Zone"}}
	for _, s := range []state.State{sample(), state.New(), {}, full(t, 32), turned(func(s *state.State) { s.Next = math.MaxUint64 }), turned(func(s *state.State) { s.Tree = nil })} {
		for _, c := range []struct {
			x    spec.Spec
			want api.Errno
		}{
			{spec.Spec{}, api.ErrName}, {job("", vec.Vec{1}, 1, 1, 1), api.ErrName}, {job("a/", vec.Vec{1}, 9, 1, 1), api.ErrName}, {job("a/b/c/d", vec.Vec{1}, 1, 1, 1), api.ErrName}, {job("A", vec.Vec{1}, 1, 1, 1), api.ErrName},
			{job("a", vec.Vec{1}, 0, 1, 1), api.ErrArg}, {job("a", vec.Vec{1}, 9, 1, 1), api.ErrArg}, {job("a", vec.Vec{1}, -1, 1, 1), api.ErrArg}, {job("a", vec.Vec{1}, 1, -1, 1), api.ErrArg},
			{job("a", vec.Vec{1}, 1, 10, 1), api.ErrArg}, {job("a", vec.Vec{1}, 1, 1, 0), api.ErrArg}, {job("a", vec.Vec{1}, 1, 1, 101), api.ErrArg}, {job("x", vec.Vec{1}, math.MinInt, 1, 1), api.ErrArg},
			{wrongSel, api.ErrForm}, {job("a", vec.Vec{1 << 63}, 2, 1, 1), api.ErrOver}, {job("x", vec.Vec{0, 0, 0, math.MaxUint64}, 8, 1, 1), api.ErrOver},
		} {
			wantRefused(t, s, c.x, c.want)
		}
	}
}

// P15.2: all entries above its Path must be there, the root too; that is told ahead of ErrFull.
func TestSubmitWithoutLimits(t *testing.T) {
	without := func(path string) state.State {
		return turned(func(s *state.State) {
			s.Tree = slices.DeleteFunc(s.Tree, func(e quota.Entry) bool { return e.Path == path })
		})
	}
	for _, path := range []string{"x", "b", "a/c", "a/b/c", "c/b", "aa", "a-b", "a/bb"} {
		wantRefused(t, sample(), job(path, vec.Vec{1}, 1, 1, 1), api.ErrNone)
	}
	for _, c := range []struct {
		gone, path string
		want       api.Errno
	}{
		{"", "a", api.ErrNone}, {"", "a/b", api.ErrNone}, {"", "c", api.ErrNone}, {"a", "a", api.ErrNone}, {"a", "a/b", api.ErrNone}, {"a", "c", api.OK},
		{"a/b", "a/b", api.ErrNone}, {"a/b", "a", api.OK}, {"c", "c", api.ErrNone}, {"c", "a/b", api.OK},
	} {
		if _, _, errno := wantSubmit(t, without(c.gone), job(c.path, vec.Vec{1}, 1, 1, 1)); errno != c.want {
			t.Errorf("without %q at %q: %d", c.gone, c.path, errno)
		}
	}
	crowded := full(t, 32)
	crowded.Next = math.MaxUint64
	wantRefused(t, crowded, job("x", vec.Vec{1}, 1, 1, 1), api.ErrNone)
}

// P15.2: there are MaxQueue jobs at most, whether they run or wait, and no ID of 2^64 - 1.
func TestSubmitToFull(t *testing.T) {
	x := job("a", vec.Vec{1}, 1, 1, 1)
	wantRefused(t, full(t, 32), x, api.ErrFull)
	if got, id, errno := wantSubmit(t, full(t, 31), x); errno != api.OK || id != 32 || len(got.Jobs) != 32 {
		t.Errorf("Submit = %d, %d", id, errno)
	}
	began, errno := wantBegin(t, full(t, 32), 1, "n1")
	if errno != api.OK {
		t.Fatalf("Begin = %d", errno)
	}
	wantRefused(t, began, x, api.ErrFull)
	for _, count := range []int{33, 34, 100} {
		wantRefused(t, turned(func(s *state.State) { s.Jobs = make([]state.Job, count) }), x, api.ErrFull)
	}
	for next, want := range map[uint64]api.Errno{0: api.OK, 1: api.OK, 1 << 63: api.OK, math.MaxUint64 - 1: api.OK, math.MaxUint64: api.ErrFull, math.MaxUint32: api.OK, math.MaxInt64: api.OK} {
		got, id, errno := wantSubmit(t, turned(func(s *state.State) { s.Next = next }), x)
		if errno != want || errno == api.OK && (id != next || got.Next != next+1) {
			t.Errorf("Submit of Next %d = %d, %d", next, id, errno)
		}
	}
	last, _, _ := wantSubmit(t, turned(func(s *state.State) { s.Next = math.MaxUint64 - 1 }), x)
	wantRefused(t, last, x, api.ErrFull)
}

// P15.2: what Push tells is told, behind all else.
func TestSubmitToWrongQueue(t *testing.T) {
	x := job("a", vec.Vec{1}, 1, 1, 1)
	wantRefused(t, turned(func(s *state.State) { s.Queue = append(s.Queue, queue.Entry{ID: 11, Prio: -3}) }), x, api.ErrTwice)
	wantRefused(t, turned(func(s *state.State) { s.Next = 6 }), x, api.ErrTwice)
	for _, count := range []int{32, 33, 100} {
		wantRefused(t, turned(func(s *state.State) { s.Queue = make([]queue.Entry, count) }), x, api.ErrFull)
	}
	wantRefused(t, turned(func(s *state.State) { s.Queue = make([]queue.Entry, 32); s.Next = 0 }), x, api.ErrTwice)
	if got, _, errno := wantSubmit(t, turned(func(s *state.State) { s.Queue = make([]queue.Entry, 31) }), x); errno != api.OK || got.Queue[0].ID != 11 {
		t.Errorf("Submit = %d", errno)
	}
}

// P15.3: who begins has its limits and its room, is out of the queue, and has all its rounds left.
func TestBegin(t *testing.T) {
	got, errno := wantBegin(t, sample(), 6, "n2", "n1")
	want := turned(func(s *state.State) {
		s.Jobs[3].Runs, s.Jobs[3].Left = true, 100
		s.Queue = s.Queue[1:]
		s.Pool.Places = append(s.Pool.Places, pool.Place{Job: 6, Node: "n2", V: vec.Vec{1, 1}}, pool.Place{Job: 6, Node: "n1", V: vec.Vec{1, 1}})
		s.Tree[0].Used, s.Tree[1].Used, s.Tree[2].Used = vec.Vec{14, 11}, vec.Vec{8, 5}, vec.Vec{8, 5}
		s.Events.L = append(s.Events.L, state.Note{Round: 70, ID: 6, Kind: state.Begins})
	})
	wantState(t, "Begin", got, errno, want, api.OK)
	if got, errno = wantBegin(t, got, 3, "n2"); errno != api.OK || len(got.Queue) != 0 || got.Jobs[1].Left != 1 || !got.Jobs[1].Runs || !state.Right(got) {
		t.Errorf("Begin = %d: %s", errno, show(got))
	}
	for _, nodes := range [][]string{{"n1", "n1"}, {"n2", "n2"}, {"n1", "n2"}} {
		if _, errno := wantBegin(t, sample(), 6, nodes...); errno != api.OK {
			t.Errorf("Begin on %q = %d", nodes, errno)
		}
	}
}

// wantNotBegun asks for that error of Begin, and that nothing is turned.
func wantNotBegun(t *testing.T, s state.State, want api.Errno, id uint64, nodes ...string) {
	t.Helper()
	was := own(s)
	got, errno := wantBegin(t, s, id, nodes...)
	wantState(t, "Begin", got, errno, was, want)
	if show(s) != show(was) {
		t.Errorf("it wrote into what it was handed: %s", show(s))
	}
}

// P15.3: who is not there, runs already, or has not as many nodes as copies, does not begin; in this order.
func TestBeginOfWrong(t *testing.T) {
	for _, id := range []uint64{0, 1, 4, 7, 10, 11, 1<<32 + 6, math.MaxUint64} {
		wantNotBegun(t, sample(), api.ErrNone, id)
		wantNotBegun(t, sample(), api.ErrNone, id, "n1", "n1")
	}
	for _, id := range []uint64{2, 5, 9} {
		wantNotBegun(t, sample(), api.ErrState, id)
		wantNotBegun(t, sample(), api.ErrState, id, "n1", "n1")
		wantNotBegun(t, sample(), api.ErrState, id, "x")
	}
	for _, nodes := range [][]string{nil, {}, {"n1"}, {"x"}, {"n1", "n1", "n1"}, {"n1", "n2", "x", "n3"}} {
		wantNotBegun(t, sample(), api.ErrArg, 6, nodes...)
	}
	for _, count := range []int{-1, 0, 1, 3, 8, math.MinInt, math.MaxInt} {
		wantNotBegun(t, turned(func(s *state.State) { s.Jobs[3].X.Count = count }), api.ErrArg, 6, "n1", "n1")
	}
	// Who runs is told ahead of how many nodes there are, and that ahead of what the total is.
	over := turned(func(s *state.State) { s.Jobs[3].X.Demand, s.Jobs[3].X.Path = vec.Vec{1, 1 << 63}, "x" })
	wantNotBegun(t, over, api.ErrArg, 6, "n1")
	wantNotBegun(t, over, api.ErrOver, 6, "n1", "n1")
	wantNotBegun(t, over, api.ErrOver, 6, "n1", "x")
}

// P15.3: what Charge tells, one kind of error each, is told ahead of what Lay tells.
func TestBeginBeyondLimits(t *testing.T) {
	six := func(turn func(s *state.State, j *state.Job)) state.State {
		return turned(func(s *state.State) { turn(s, &s.Jobs[3]) })
	}
	for _, nodes := range [][]string{{"n1", "n1"}, {"x", "n1"}, {"n3", "n1"}} {
		wantNotBegun(t, six(func(_ *state.State, j *state.Job) { j.X.Path = "A" }), api.ErrName, 6, nodes...)
		wantNotBegun(t, six(func(_ *state.State, j *state.Job) { j.X.Path = "a/b/c/d" }), api.ErrName, 6, nodes...)
		wantNotBegun(t, six(func(_ *state.State, j *state.Job) { j.X.Path = "x" }), api.ErrNone, 6, nodes...)
		wantNotBegun(t, six(func(_ *state.State, j *state.Job) { j.X.Path = "a/c" }), api.ErrNone, 6, nodes...)
		wantNotBegun(t, six(func(s *state.State, _ *state.Job) { s.Tree[1].Used = vec.Vec{0, math.MaxUint64 - 1} }), api.ErrOver, 6, nodes...)
		wantNotBegun(t, six(func(s *state.State, _ *state.Job) { s.Tree[0].Limit[0] = 13 }), api.ErrQuota, 6, nodes...)
		wantNotBegun(t, six(func(s *state.State, _ *state.Job) { s.Tree[1].Limit[0] = 7 }), api.ErrQuota, 6, nodes...)
		wantNotBegun(t, six(func(s *state.State, _ *state.Job) { s.Tree[2].Limit[1] = 4 }), api.ErrQuota, 6, nodes...)
		wantNotBegun(t, six(func(_ *state.State, j *state.Job) { j.X.Demand = vec.Vec{0, 0, 0, 1} }), api.ErrQuota, 6, nodes...)
		wantNotBegun(t, six(func(_ *state.State, j *state.Job) { j.X.Demand = vec.Vec{2} }), api.ErrQuota, 6, nodes...)
	}
	if _, errno := wantBegin(t, six(func(s *state.State, _ *state.Job) {
		s.Tree[0].Limit, s.Tree[1].Limit, s.Tree[2].Limit, s.Tree[3].Limit = vec.Vec{14, 11}, vec.Vec{8, 5}, vec.Vec{8, 5}, vec.Vec{}
	}), 6, "n1", "n1"); errno != api.OK {
		t.Errorf("Begin = %d", errno)
	}
}

// P15.3: what Lay tells, of each node in turn, is told last; then nothing is charged.
func TestBeginWithoutRoom(t *testing.T) {
	for _, c := range []struct {
		nodes []string
		want  api.Errno
	}{
		{[]string{"x", "n1"}, api.ErrNone}, {[]string{"n1", "x"}, api.ErrNone}, {[]string{"n1", ""}, api.ErrNone}, {[]string{"n3", "n1"}, api.ErrDown}, {[]string{"n1", "n3"}, api.ErrDown}, {[]string{"n3", "x"}, api.ErrDown}, {[]string{"x", "n3"}, api.ErrNone},
	} {
		wantNotBegun(t, sample(), c.want, 6, c.nodes...)
	}
	narrow := turned(func(s *state.State) { s.Pool.Nodes[0].Cap = vec.Vec{8, 9} })
	wantNotBegun(t, narrow, api.ErrRoom, 6, "n1", "n1")
	if _, errno := wantBegin(t, narrow, 6, "n1", "n2"); errno != api.OK {
		t.Errorf("Begin = %d", errno)
	}
	wantNotBegun(t, turned(func(s *state.State) { s.Pool.Places[1].V = vec.Vec{10} }), api.ErrRoom, 6, "n2", "n1")
}

// P15.3: of wrong states, too, it is the first job of that ID, whether it waits in the queue or not.
func TestBeginOfWrongStates(t *testing.T) {
	out := turned(func(s *state.State) { s.Queue = nil })
	if got, errno := wantBegin(t, out, 6, "n1", "n1"); errno != api.OK || len(got.Queue) != 0 || !got.Jobs[3].Runs {
		t.Errorf("Begin = %d", errno)
	}
	twice := turned(func(s *state.State) {
		s.Queue = []queue.Entry{{ID: 3, Prio: 1}, {ID: 6, Prio: -1}, {ID: 6, Prio: 99}}
		s.Jobs = append(s.Jobs, state.Job{ID: 6, X: job("c", vec.Vec{1}, 1, 1, 1)})
	})
	got, errno := wantBegin(t, twice, 6, "n1", "n1")
	if errno != api.OK || !slices.Equal(got.Queue, []queue.Entry{{ID: 3, Prio: 1}, {ID: 6, Prio: 99}}) || !got.Jobs[3].Runs || got.Jobs[5].Runs {
		t.Errorf("Begin = %d: %s", errno, show(got))
	}
	wantNotBegun(t, got, api.ErrState, 6, "n1")
	none := turned(func(s *state.State) { s.Jobs[3].X = job("a", vec.Vec{5}, 0, -7, -9) })
	if got, errno := wantBegin(t, none, 6); errno != api.OK || got.Jobs[3].Left != -9 || !got.Jobs[3].Runs {
		t.Errorf("Begin of no copies = %d: %s", errno, show(got))
	}
	// A job of no node, of a count that only 64 bits make one, has more copies than nodes.
	wantNotBegun(t, turned(func(s *state.State) { s.Jobs[3].X = job("a", vec.Vec{}, math.MinInt, 0, 1) }), api.ErrArg, 6)
}

// P15.4: who is stopped is freed, and waits where they stood; an event of that kind tells so.
func TestStop(t *testing.T) {
	for _, kind := range []int{state.Yields, state.Loses, state.Waits, 0, -1, 77, math.MaxInt, math.MinInt} {
		got, errno := wantStop(t, sample(), 2, kind)
		want := turned(func(s *state.State) {
			s.Jobs[0].Runs, s.Jobs[0].Left = false, 0
			s.Queue = []queue.Entry{{ID: 6, Prio: 9}, {ID: 2, Prio: 5}, {ID: 3, Prio: 5}}
			s.Pool.Places = []pool.Place{s.Pool.Places[0], s.Pool.Places[4], s.Pool.Places[5], s.Pool.Places[6]}
			s.Tree[0].Used, s.Tree[1].Used, s.Tree[2].Used = vec.Vec{6, 6}, vec.Vec{}, vec.Vec{}
			s.Events.L = append(s.Events.L, state.Note{Round: 70, ID: 2, Kind: kind})
		})
		wantState(t, "Stop", got, errno, want, api.OK)
	}
	s := sample()
	for _, id := range []uint64{9, 5, 2} {
		next, errno := wantStop(t, s, id, state.Yields)
		if errno != api.OK || !state.Right(next) {
			t.Errorf("Stop(%d) = %d: %s", id, errno, show(next))
		}
		s = next
	}
	if len(s.Pool.Places) != 0 || s.Tree[0].Used != (vec.Vec{}) || s.Tree[3].Used != (vec.Vec{}) || !slices.Equal(s.Queue, []queue.Entry{{ID: 6, Prio: 9}, {ID: 9, Prio: 9}, {ID: 2, Prio: 5}, {ID: 3, Prio: 5}, {ID: 5}}) {
		t.Errorf("all stopped: %s", show(s))
	}
}

// P15.4: who is not there, or does not run, is not stopped.
func TestStopOfWrong(t *testing.T) {
	for _, id := range []uint64{0, 1, 4, 7, 8, 10, 11, 1<<32 + 2, math.MaxUint64} {
		got, errno := wantStop(t, sample(), id, state.Yields)
		wantState(t, "Stop", got, errno, sample(), api.ErrNone)
	}
	for _, id := range []uint64{3, 6} {
		got, errno := wantStop(t, sample(), id, state.Yields)
		wantState(t, "Stop", got, errno, sample(), api.ErrState)
	}
	stopped, _ := wantStop(t, sample(), 2, state.Loses)
	got, errno := wantStop(t, stopped, 2, state.Loses)
	wantState(t, "Stop", got, errno, stopped, api.ErrState)
}

// P15.3, P15.4: where Refund tells an error nothing is refunded, and where Push does nobody is pushed; all else is done.
func TestStopOfWrongStates(t *testing.T) {
	for what, turn := range map[string]func(s *state.State){
		"more than is used":      func(s *state.State) { s.Tree[1].Used[0] = 5 },
		"less at the root":       func(s *state.State) { s.Tree[0].Used[1] = 2 },
		"no such entry":          func(s *state.State) { s.Tree = s.Tree[:2] },
		"no such path":           func(s *state.State) { s.Jobs[0].X.Path = "A" },
		"a total of no 64 bits":  func(s *state.State) { s.Jobs[0].X.Demand[1] = 1 << 63 },
		"a count below 0":        func(s *state.State) { s.Jobs[0].X.Count = -1 },
		"who waits already":      func(s *state.State) { s.Queue = append(s.Queue, queue.Entry{ID: 2, Prio: -1}) },
		"no such priority":       func(s *state.State) { s.Jobs[0].X.Prio = 10 },
		"a priority below 0":     func(s *state.State) { s.Jobs[0].X.Prio = -1 },
		"a full queue":           func(s *state.State) { s.Queue = make([]queue.Entry, 32) },
		"no places":              func(s *state.State) { s.Pool.Places = nil },
		"places of other jobs":   func(s *state.State) { s.Pool.Places[4].Job = 2 },
		"16 entries":             func(s *state.State) { moreEntries(s, 12) },
		"16 nodes":               func(s *state.State) { moreNodes(s, 13) },
		"no nodes":               func(s *state.State) { s.Pool.Nodes = nil },
		"two of one ID":          func(s *state.State) { s.Jobs[2].ID = 2 },
		"the second of one runs": func(s *state.State) { s.Jobs = append([]state.Job{{ID: 2}}, s.Jobs...) },
		"notes without number":   func(s *state.State) { s.Events.L = notes(1, 50) },
		"nothing left":           func(s *state.State) { s.Jobs[0].Left = 0 },
		"no tree":                func(s *state.State) { s.Tree = nil },
		"no demand":              func(s *state.State) { s.Jobs[0].X.Demand = vec.Vec{} },
	} {
		t.Run(what, func(t *testing.T) {
			s := turned(turn)
			wantStop(t, s, 2, state.Yields)
			wantEnd(t, s, 2, state.Ends)
			wantEnd(t, s, 3, state.Ends)
			wantBegin(t, s, 3, "n2")
		})
	}
}

// P15.4: who ends is gone from the jobs, and freed, or out of the queue; an event of that kind tells so.
func TestEnd(t *testing.T) {
	for _, kind := range []int{state.Ends, state.Cancels, 0, -1, math.MaxInt, math.MinInt} {
		got, errno := wantEnd(t, sample(), 5, kind)
		want := turned(func(s *state.State) {
			s.Jobs = append(s.Jobs[:2], s.Jobs[3:]...)
			s.Pool.Places = append(s.Pool.Places[:4], s.Pool.Places[6])
			s.Tree[0].Used, s.Tree[3].Used = vec.Vec{6, 3}, vec.Vec{}
			s.Events.L = append(s.Events.L, state.Note{Round: 70, ID: 5, Kind: kind})
		})
		wantState(t, "End", got, errno, want, api.OK)
		got, errno = wantEnd(t, sample(), 6, kind)
		want = turned(func(s *state.State) {
			s.Jobs = append(s.Jobs[:3], s.Jobs[4:]...)
			s.Queue = s.Queue[1:]
			s.Events.L = append(s.Events.L, state.Note{Round: 70, ID: 6, Kind: kind})
		})
		wantState(t, "End", got, errno, want, api.OK)
	}
	s := sample()
	for _, id := range []uint64{6, 2, 9, 3, 5} {
		next, errno := wantEnd(t, s, id, state.Cancels)
		if errno != api.OK || !state.Right(next) {
			t.Errorf("End(%d) = %d: %s", id, errno, show(next))
		}
		s = next
	}
	if len(s.Jobs)+len(s.Queue)+len(s.Pool.Places) != 0 || s.Next != 11 || len(s.Events.L) != 7 || s.Tree[0].Used != (vec.Vec{}) {
		t.Errorf("all ended: %s", show(s))
	}
	for _, id := range []uint64{0, 1, 4, 6, 7, 10, 11, 1<<32 + 2, math.MaxUint64} {
		for _, was := range []state.State{s, state.New(), {}} {
			got, errno := wantEnd(t, was, id, state.Ends)
			wantState(t, "End", got, errno, was, api.ErrNone)
		}
	}
}

// P15.4: of wrong states, too, just the first of that ID is gone, and who runs stays in the queue.
func TestEndOfWrongStates(t *testing.T) {
	s := turned(func(s *state.State) {
		s.Jobs = append(s.Jobs, state.Job{ID: 6, Left: 5}, state.Job{ID: 2, Left: 6})
		s.Queue = append(s.Queue, queue.Entry{ID: 2, Prio: 4}, queue.Entry{ID: 6, Prio: 3})
	})
	got, errno := wantEnd(t, s, 2, state.Ends)
	if errno != api.OK || len(got.Jobs) != 6 || got.Jobs[5].Left != 6 || len(got.Queue) != 4 {
		t.Errorf("End = %d: %s", errno, show(got))
	}
	got, errno = wantEnd(t, s, 6, state.Ends)
	if errno != api.OK || len(got.Jobs) != 6 || got.Jobs[4].Left != 5 || !slices.Equal(got.Queue, []queue.Entry{{ID: 3, Prio: 5}, {ID: 2, Prio: 4}, {ID: 6, Prio: 3}}) {
		t.Errorf("End = %d: %s", errno, show(got))
	}
}

// wrongTurns make of the sample what is not right, each in one way.
func wrongTurns() map[string]func(s *state.State) {
	return map[string]func(s *state.State){
		"next 0":                      func(s *state.State) { s.Next = 0 },
		"next is an ID":               func(s *state.State) { s.Next = 9 },
		"next below IDs":              func(s *state.State) { s.Next = 3 },
		"nodes in no order":           func(s *state.State) { s.Pool.Nodes[0], s.Pool.Nodes[1] = s.Pool.Nodes[1], s.Pool.Nodes[0] },
		"no name of a node":           func(s *state.State) { s.Pool.Nodes[2].Name = "" },
		"no room":                     func(s *state.State) { s.Pool.Nodes[0].Cap = vec.Vec{6, 9} },
		"no node":                     func(s *state.State) { s.Pool.Nodes = s.Pool.Nodes[:2] },
		"labels":                      func(s *state.State) { s.Pool.Nodes[1].Labels[0].Key = "Zone" },
		"a place elsewhere":           func(s *state.State) { s.Pool.Places[0].Node = "n4" },
		"a place of who waits":        func(s *state.State) { s.Pool.Places[0].Job = 3 },
		"one place more":              func(s *state.State) { s.Pool.Places = append(s.Pool.Places, pool.Place{Job: 9, Node: "n3"}) },
		"one place more of who waits": func(s *state.State) { s.Pool.Places = append(s.Pool.Places, pool.Place{Job: 6, Node: "n3"}) },
		"one place more of none":      func(s *state.State) { s.Pool.Places = append(s.Pool.Places, pool.Place{Job: 4, Node: "n3"}) },
		"one place more of job 0":     func(s *state.State) { s.Pool.Places = append(s.Pool.Places, pool.Place{Node: "n3"}) },
		"one place less":              func(s *state.State) { s.Pool.Places = s.Pool.Places[1:] },
		"the last place less":         func(s *state.State) { s.Pool.Places = s.Pool.Places[:6] },
		"no places":                   func(s *state.State) { s.Pool.Places = nil },
		"a place of another one":      func(s *state.State) { s.Pool.Places[4].Job = 2 },
		"a place of less":             func(s *state.State) { s.Pool.Places[1].V = vec.Vec{2} },
		"a place of nothing":          func(s *state.State) { s.Pool.Places[5].V = vec.Vec{} },
		"a place of more":             func(s *state.State) { s.Pool.Places[2].V = vec.Vec{2, 2} },
		"no tree":                     func(s *state.State) { s.Tree = nil },
		"no root":                     func(s *state.State) { s.Tree = s.Tree[1:] },
		"no entry of who runs":        func(s *state.State) { s.Tree = s.Tree[:3] },
		"entries in no order":         func(s *state.State) { s.Tree[1], s.Tree[3] = s.Tree[3], s.Tree[1] },
		"the root behind":             func(s *state.State) { s.Tree[0], s.Tree[3] = s.Tree[3], s.Tree[0] },
		"one entry twice":             func(s *state.State) { s.Tree = append(s.Tree, quota.Entry{Path: "c"}) },
		"an entry of no path":         func(s *state.State) { s.Tree = append(s.Tree, quota.Entry{Path: "d/"}) },
		"an entry with none above":    func(s *state.State) { s.Tree = append(s.Tree, quota.Entry{Path: "d/e"}) },
		"17 entries":                  func(s *state.State) { moreEntries(s, 13) },
		"17 nodes":                    func(s *state.State) { moreNodes(s, 14) },
		"used beyond a limit":         func(s *state.State) { s.Tree[2].Limit = vec.Vec{5, 9} },
		"used more at the root":       func(s *state.State) { s.Tree[0].Used[0]++ },
		"used more of another kind":   func(s *state.State) { s.Tree[0].Limit[3], s.Tree[0].Used[3] = 1, 1 },
		"used more above":             func(s *state.State) { s.Tree[1].Used[1]++ },
		"used more":                   func(s *state.State) { s.Tree[3].Used[0]++; s.Tree[0].Used[0]++ },
		"used less":                   func(s *state.State) { s.Tree[2].Used[0]-- },
		"used nowhere":                func(s *state.State) { s.Tree[0].Used = vec.Vec{} },
		"used less everywhere":        func(s *state.State) { s.Tree[0].Used[0], s.Tree[1].Used[0], s.Tree[2].Used[0] = 11, 5, 5 },
		"ID 0":                        func(s *state.State) { s.Jobs[1].ID, s.Queue[1].ID = 0, 0 },
		"the first ID 0": func(s *state.State) {
			s.Jobs = s.Jobs[1:2]
			s.Jobs[0].ID, s.Queue = 0, []queue.Entry{{Prio: 5}}
			freeAll(s)
		},
		"one ID twice":                 func(s *state.State) { s.Jobs[3].ID, s.Queue[0].ID = 5, 5 },
		"two who wait of one ID":       func(s *state.State) { s.Jobs[1].ID, s.Queue[1].ID = 6, 6 },
		"jobs in no order":             func(s *state.State) { s.Jobs[0], s.Jobs[1] = s.Jobs[1], s.Jobs[0] },
		"the last jobs in no order":    func(s *state.State) { s.Jobs[3], s.Jobs[4] = s.Jobs[4], s.Jobs[3] },
		"a job less":                   func(s *state.State) { s.Jobs = s.Jobs[1:] },
		"the last job less":            func(s *state.State) { s.Jobs = s.Jobs[:4] },
		"one who waits less":           func(s *state.State) { s.Jobs = append(s.Jobs[:1], s.Jobs[2:]...) },
		"one who waits more":           func(s *state.State) { s.Jobs = append(s.Jobs, state.Job{ID: 10, X: s.Jobs[1].X}) },
		"no path":                      func(s *state.State) { s.Jobs[1].X.Path = "A" },
		"the root's path":              func(s *state.State) { s.Jobs[1].X.Path = "" },
		"no entry of who waits":        func(s *state.State) { s.Jobs[1].X.Path = "a/c" },
		"another path of who runs":     func(s *state.State) { s.Jobs[0].X.Path = "a" },
		"another demand of who runs":   func(s *state.State) { s.Jobs[4].X.Demand = vec.Vec{0, 0, 0, 1} },
		"one copy more of who runs":    func(s *state.State) { s.Jobs[4].X.Count = 3 },
		"one copy less of who runs":    func(s *state.State) { s.Jobs[4].X.Count = 1 },
		"count 0":                      func(s *state.State) { s.Jobs[1].X.Count = 0 },
		"count 9":                      func(s *state.State) { s.Jobs[1].X.Count = 9 },
		"priority 10":                  func(s *state.State) { s.Jobs[4].X.Prio = 10 },
		"priority 10 of who waits":     func(s *state.State) { s.Jobs[3].X.Prio, s.Queue[0].Prio = 10, 10 },
		"another priority of who is":   func(s *state.State) { s.Jobs[3].X.Prio = 8 },
		"another priority in queue":    func(s *state.State) { s.Queue[0].Prio = 8 },
		"ticks 0":                      func(s *state.State) { s.Jobs[1].X.Ticks = 0 },
		"ticks 101":                    func(s *state.State) { s.Jobs[2].X.Ticks = 101 },
		"selector":                     func(s *state.State) { s.Jobs[0].X.Sel[0].Values[1] = "x" },
		"a total of no 64 bits":        func(s *state.State) { s.Jobs[3].X.Demand = vec.Vec{0, 1 << 63} },
		"left 0 of who runs":           func(s *state.State) { s.Jobs[4].Left = 0 },
		"left below 0":                 func(s *state.State) { s.Jobs[4].Left = -1 },
		"left beyond ticks":            func(s *state.State) { s.Jobs[0].Left = 10 },
		"left 101":                     func(s *state.State) { s.Jobs[2].Left = 101 },
		"left of who waits":            func(s *state.State) { s.Jobs[1].Left = 1 },
		"left below 0 of who waits":    func(s *state.State) { s.Jobs[1].Left = -1 },
		"runs without places":          func(s *state.State) { s.Jobs[1].Runs, s.Jobs[1].Left = true, 1 },
		"runs, and waits":              func(s *state.State) { s.Jobs[3].Runs, s.Jobs[3].Left = true, 1 },
		"waits, and stands":            func(s *state.State) { s.Jobs[4].Runs, s.Jobs[4].Left = false, 0 },
		"a queue of none":              func(s *state.State) { s.Queue = nil },
		"one in the queue less":        func(s *state.State) { s.Queue = s.Queue[:1] },
		"the first in the queue less":  func(s *state.State) { s.Queue = s.Queue[1:] },
		"one in the queue more":        func(s *state.State) { s.Queue = append(s.Queue, queue.Entry{ID: 7}) },
		"who runs in the queue":        func(s *state.State) { s.Queue = append(s.Queue, queue.Entry{ID: 5}) },
		"who is not in the queue":      func(s *state.State) { s.Queue[1].ID = 4 },
		"one twice in the queue":       func(s *state.State) { s.Queue = append(s.Queue, s.Queue[1]) },
		"one for the other in a queue": func(s *state.State) { s.Queue[1] = s.Queue[0] },
		"a queue in no order":          func(s *state.State) { s.Queue[0], s.Queue[1] = s.Queue[1], s.Queue[0] },
		"33 events":                    func(s *state.State) { s.Events.L = notes(0, 33) },
		"33 audits":                    func(s *state.State) { s.Audit.L = notes(0, 33) },
	}
}

// moreEntries lays down so many limits more.
func moreEntries(s *state.State, count int) {
	for at := range count {
		s.Tree = append(s.Tree, quota.Entry{Path: "d" + string(rune('a'+at))})
	}
}

// moreNodes makes so many nodes more.
func moreNodes(s *state.State, count int) {
	for at := range count {
		s.Pool.Nodes = append(s.Pool.Nodes, pool.Node{Name: "o" + string(rune('a'+at))})
	}
}

// freeAll takes away all that stands and is used.
func freeAll(s *state.State) {
	s.Pool.Places = nil
	for at := range s.Tree {
		s.Tree[at].Used = vec.Vec{}
	}
}

// P15.5: what is not right in any one way is not right; nor is its form one of a right state.
func TestRightOfWrong(t *testing.T) {
	for what, turn := range wrongTurns() {
		t.Run(what, func(t *testing.T) {
			s := turned(turn)
			wantForms(t, s)
			if state.Right(s) {
				t.Errorf("Right says yes of\n%s", show(s))
			}
			if got, ok := state.Get(state.Put(s)); ok && show(got) == show(s) {
				t.Errorf("Get tells\n%s", show(got))
			}
			if state.Same(s, sample()) || state.Same(sample(), s) {
				t.Errorf("Same says yes of\n%s", show(s))
			}
		})
	}
}

// P15.5: what is turned within what may be is right.
func TestRightOfRight(t *testing.T) {
	for what, turn := range map[string]func(s *state.State){
		"round":                  func(s *state.State) { s.Round = 0 },
		"the last round":         func(s *state.State) { s.Round = math.MaxUint64 },
		"next":                   func(s *state.State) { s.Next = 10 },
		"the last next":          func(s *state.State) { s.Next = math.MaxUint64 },
		"the last ID":            func(s *state.State) { s.Next = math.MaxUint64; lastWaits(s, math.MaxUint64-1) },
		"another node":           func(s *state.State) { s.Pool.Places[0].Node = "n1" },
		"another order of place": func(s *state.State) { slices.Reverse(s.Pool.Places) },
		"down":                   func(s *state.State) { s.Pool.Nodes[0].Up = false },
		"up":                     func(s *state.State) { s.Pool.Nodes[2].Up = true },
		"no labels":              func(s *state.State) { s.Pool.Nodes[0].Labels = nil },
		"just room":              func(s *state.State) { s.Pool.Nodes[0].Cap, s.Pool.Nodes[1].Cap = vec.Vec{7, 5}, vec.Vec{5, 4} },
		"just limits":            func(s *state.State) { s.Tree[0].Limit, s.Tree[2].Limit = vec.Vec{12, 9}, vec.Vec{6, 3} },
		"another selector":       func(s *state.State) { s.Jobs[0].X.Sel = nil },
		"priorities":             func(s *state.State) { s.Jobs[0].X.Prio, s.Jobs[2].X.Prio = 0, 9 },
		"ticks":                  func(s *state.State) { s.Jobs[0].X.Ticks, s.Jobs[4].X.Ticks = 4, 1 },
		"left 1":                 func(s *state.State) { s.Jobs[0].Left, s.Jobs[2].Left = 1, 1 },
		"left ticks":             func(s *state.State) { s.Jobs[0].Left = 9 },
		"more than may be":       func(s *state.State) { s.Jobs[3].X.Demand = vec.Vec{math.MaxUint64 / 2, math.MaxUint64 / 2, 3, 4} },
		"no notes":               func(s *state.State) { s.Events, s.Audit = state.Stream{}, state.Stream{} },
		"32 notes":               func(s *state.State) { s.Events.L, s.Audit.L = notes(0, 32), notes(math.MaxUint64, 32) },
		"first":                  func(s *state.State) { s.Events.First, s.Audit.First = math.MaxUint64, 0 },
		"kinds":                  func(s *state.State) { s.Events.L[0].Kind, s.Audit.L[0].Kind = math.MinInt, math.MaxInt },
		"rounds to come":         func(s *state.State) { s.Events.L[0] = state.Note{Round: math.MaxUint64, ID: math.MaxUint64} },
		"lists of nothing":       func(s *state.State) { s.Jobs[1].X.Sel = []sel.Term{}; s.Pool.Nodes[2].Labels = []label.Pair{} },
		"no jobs":                func(s *state.State) { s.Jobs, s.Queue = []state.Job{}, []queue.Entry{}; freeAll(s) },
		"another entry":          func(s *state.State) { s.Tree = append(s.Tree, quota.Entry{Path: "d"}) },
		"no nodes":               func(s *state.State) { *s = state.State{Next: 1, Tree: s.Tree}; freeAll(s) },
	} {
		t.Run(what, func(t *testing.T) {
			s := turned(turn)
			wantForms(t, s)
			if !state.Right(s) {
				t.Errorf("Right says no of\n%s", show(s))
			}
		})
	}
}

// lastWaits takes the jobs but the last away, who then waits, of that ID.
func lastWaits(s *state.State, id uint64) {
	freeAll(s)
	s.Jobs = s.Jobs[4:]
	s.Jobs[0] = state.Job{ID: id, X: s.Jobs[0].X}
	s.Queue = []queue.Entry{{ID: id, Prio: 9}}
}

// P15.5: sums are of whole numbers: what has run over 64 bits, twice even, is not what is used.
func TestRightOfWholeNumbers(t *testing.T) {
	const most = math.MaxUint64
	build := func(demands ...uint64) state.State {
		s := state.State{Next: 100, Tree: []quota.Entry{{Limit: vec.Vec{most}}, {Path: "a", Limit: vec.Vec{most}}}}
		var sum uint64
		for at, n := range demands {
			id, name := uint64(at+1), string(rune('a'+at))
			s.Pool.Nodes = append(s.Pool.Nodes, pool.Node{Name: name, Cap: vec.Vec{most}})
			s.Pool.Places = append(s.Pool.Places, pool.Place{Job: id, Node: name, V: vec.Vec{n}})
			s.Jobs = append(s.Jobs, state.Job{ID: id, X: job("a", vec.Vec{n}, 1, 0, 1), Runs: true, Left: 1})
			sum += n
		}
		s.Tree[0].Used, s.Tree[1].Used = vec.Vec{sum}, vec.Vec{sum}
		return s
	}
	for _, c := range []struct {
		demands []uint64
		want    bool
	}{
		{[]uint64{most}, true}, {[]uint64{most - 1, 1}, true}, {[]uint64{1 << 63, 1<<63 - 1}, true}, {[]uint64{0, most, 0}, true},
		{[]uint64{1 << 63, 1 << 63}, false}, {[]uint64{most, 1}, false}, {[]uint64{most, most}, false}, {[]uint64{1, most}, false},
		{[]uint64{1 << 63, 1 << 63, 1 << 63, 1 << 63}, false}, {[]uint64{1 << 63, 1 << 63, 5}, false},
	} {
		s := build(c.demands...)
		wantForms(t, s)
		if got := state.Right(s); got != c.want {
			t.Errorf("Right of %d = %v", c.demands, got)
		}
	}
}

// P15.5: there are MaxQueue jobs at most, and as many may wait, or run.
func TestRightOfMany(t *testing.T) {
	waiting := full(t, 32)
	wantForms(t, waiting)
	running := waiting
	running.Tree[1].Limit, running.Tree[0].Limit = vec.Vec{999}, vec.Vec{999}
	running.Pool.Nodes[0].Cap = vec.Vec{999}
	for _, j := range waiting.Jobs {
		next, errno := wantBegin(t, running, j.ID, slices.Repeat([]string{"n1"}, j.X.Count)...)
		if errno != api.OK || !state.Right(next) {
			t.Fatalf("Begin = %d", errno)
		}
		running = next
	}
	wantForms(t, running)
	for _, s := range []state.State{waiting, running} {
		if !state.Right(s) {
			t.Errorf("Right says no of\n%s", show(s))
		}
		more := own(s)
		more.Jobs = append(more.Jobs, state.Job{ID: 33, X: job("a", vec.Vec{}, 1, 0, 1)})
		more.Next = 34
		wantForms(t, more)
		more.Queue = append(more.Queue, queue.Entry{ID: 33})
		if wantForms(t, more); state.Right(more) {
			t.Error("Right says yes of 33 jobs")
		}
		last := &more.Jobs[32]
		more.Queue = s.Queue
		last.Runs, last.Left = true, 1
		more.Pool.Places = append(more.Pool.Places, pool.Place{Job: 33, Node: "n1"})
		if wantForms(t, more); state.Right(more) {
			t.Error("Right says yes of 33 jobs")
		}
	}
}

// P15.6: each field is held against the other state's, one by one.
func TestSame(t *testing.T) {
	turns := []func(s *state.State){
		func(s *state.State) { s.Round++ }, func(s *state.State) { s.Next++ },
		func(s *state.State) { s.Pool.Nodes[0].Up = false }, func(s *state.State) { s.Pool.Nodes[1].Cap[3]++ }, func(s *state.State) { s.Pool.Nodes[0].Labels[0].Value = "z" }, func(s *state.State) { s.Pool.Nodes[2].Name = "n4" }, func(s *state.State) { s.Pool.Nodes = s.Pool.Nodes[:2] },
		func(s *state.State) { s.Pool.Places[0].Job++ }, func(s *state.State) { s.Pool.Places[6].V[3]++ }, func(s *state.State) { s.Pool.Places[3].Node = "n2" }, func(s *state.State) { s.Pool.Places = s.Pool.Places[:6] },
		func(s *state.State) { s.Tree[0].Limit[3]++ }, func(s *state.State) { s.Tree[3].Used[3]++ }, func(s *state.State) { s.Tree[3].Path = "d" }, func(s *state.State) { s.Tree = s.Tree[:3] },
		func(s *state.State) { s.Jobs[4].ID++ }, func(s *state.State) { s.Jobs[0].Runs = false }, func(s *state.State) { s.Jobs[1].Runs = true }, func(s *state.State) { s.Jobs[2].Left-- }, func(s *state.State) { s.Jobs = s.Jobs[:4] }, func(s *state.State) { s.Jobs = append(s.Jobs, state.Job{}) },
		func(s *state.State) { s.Jobs[0].X.Path = "a" }, func(s *state.State) { s.Jobs[0].X.Demand[3]++ }, func(s *state.State) { s.Jobs[0].X.Count++ }, func(s *state.State) { s.Jobs[0].X.Prio++ }, func(s *state.State) { s.Jobs[0].X.Ticks++ },
		func(s *state.State) { s.Jobs[0].X.Sel[0].Values[1] = "z" }, func(s *state.State) { s.Jobs[0].X.Sel[1].Not = false }, func(s *state.State) { s.Jobs[0].X.Sel[1].Key = "new" }, func(s *state.State) { s.Jobs[0].X.Sel = nil },
		func(s *state.State) { s.Queue[1].Prio++ }, func(s *state.State) { s.Queue[0].ID++ }, func(s *state.State) { s.Queue = s.Queue[:1] }, func(s *state.State) { s.Queue = append(s.Queue, queue.Entry{}) },
		func(s *state.State) { s.Events.First++ }, func(s *state.State) { s.Events.L[1].Round++ }, func(s *state.State) { s.Events.L[0].ID++ }, func(s *state.State) { s.Events.L[1].Kind++ }, func(s *state.State) { s.Events.L = s.Events.L[:1] },
		func(s *state.State) { s.Audit.First++ }, func(s *state.State) { s.Audit.L[0].Round++ }, func(s *state.State) { s.Audit.L[0].ID++ }, func(s *state.State) { s.Audit.L[0].Kind++ }, func(s *state.State) { s.Audit.L = nil },
	}
	for i, a := range turns {
		for k, b := range turns {
			one, other := turned(a), turned(b)
			if got := state.Same(one, other); got != (i == k) {
				t.Errorf("Same of turns %d and %d = %v", i, k, got)
			}
		}
		if state.Same(turned(a), sample()) || state.Same(sample(), turned(a)) {
			t.Errorf("Same of turn %d and the sample", i)
		}
	}
	if !state.Same(sample(), sample()) || !state.Same(state.State{}, state.State{}) || state.Same(state.State{}, state.New()) {
		t.Error("Same of what is the same")
	}
	nothing := state.State{Pool: pool.Pool{Nodes: []pool.Node{}, Places: []pool.Place{}}, Tree: []quota.Entry{}, Jobs: []state.Job{}, Queue: []queue.Entry{}, Events: state.Stream{L: []state.Note{}}, Audit: state.Stream{L: []state.Note{}}}
	if !state.Same(nothing, state.State{}) || !state.Same(state.State{}, nothing) || state.Put(nothing) != state.Put(state.State{}) {
		t.Error("Same of lists of nothing")
	}
}

// P15.6: the form of a state, byte by byte.
func TestPut(t *testing.T) {
	s := state.State{Round: 300, Next: 4,
		Pool: pool.Pool{Nodes: []pool.Node{{Name: "n", Cap: vec.Vec{1, 2, 3, 4}, Up: true}}, Places: []pool.Place{{Job: 2, Node: "n", V: vec.Vec{1}}}},
		Tree: []quota.Entry{{Limit: vec.Vec{9}, Used: vec.Vec{1}}, {Path: "a", Limit: vec.Vec{9}, Used: vec.Vec{1}}},
		Jobs: []state.Job{{ID: 2, X: job("a", vec.Vec{1}, 1, 5, 9), Runs: true, Left: 7}, {ID: 3, X: job("a", vec.Vec{}, 1, 0, 1)}}, Queue: []queue.Entry{{ID: 3}},
		Events: state.Stream{First: 5, L: []state.Note{{Round: 6, ID: 7, Kind: 8}, {Round: 128, Kind: -1}}}, Audit: state.Stream{L: []state.Note{{Kind: math.MinInt}}},
	}
	form := strings.Join([]string{
		"\xac\x02\x04", "\x01\x01n\x01\x02\x03\x04\x00\x01", "\x01\x02\x01n\x01\x00\x00\x00", "\x02\x00\x09\x00\x00\x00\x01\x00\x00\x00", "\x01a\x09\x00\x00\x00\x01\x00\x00\x00",
		"\x02", "\x02\x01a\x01\x00\x00\x00\x01\x05\x09\x00\x07", "\x03\x01a\x00\x00\x00\x00\x01\x00\x01\x00\x00",
		"\x05\x02\x06\x07\x08\x80\x01\x00\xff\xff\xff\xff\xff\xff\xff\xff\xff\x01", "\x00\x01\x00\x00\x80\x80\x80\x80\x80\x80\x80\x80\x80\x01",
	}, "")
	if got := state.Put(s); got != form {
		t.Errorf("Put = %q, want %q", got, form)
	}
	got, ok := state.Get(form)
	if !ok || show(got) != show(s) {
		t.Errorf("Get = %v, %s", ok, show(got))
	}
	// What may not be is put as nothing where its form would stand; numbers are cut to 64 bits.
	wrong := turned(func(s *state.State) {
		s.Jobs[0].X.Path, s.Jobs[1].Left, s.Jobs[3].Left = "A", -1, math.MinInt
		s.Queue = nil
	})
	if got := state.Put(wrong); got != putByHand(wrong) {
		t.Errorf("Put = %q", got)
	}
}

// P15.6: what is cut off, or has more behind it, is the form of no state.
func TestGetOfPieces(t *testing.T) {
	for _, s := range []state.State{sample(), state.New(), full(t, 9)} {
		form := state.Put(s)
		for at := range len(form) {
			if got, ok := wantGet(t, form[:at]); ok || show(got) != show(state.State{}) {
				t.Errorf("Get of %d bytes = %v, %s", at, ok, show(got))
			}
		}
		for _, more := range []string{"\x00", "\x01", "\x80", "\xff", " ", form} {
			if _, ok := wantGet(t, form+more); ok {
				t.Errorf("Get of %q more says yes", more)
			}
			wantGet(t, more+form)
		}
	}
	for _, text := range []string{"", "\x00", "\x80", strings.Repeat("\x00", 19), strings.Repeat("\x01", 19), strings.Repeat("\xff", 1000)} {
		if _, ok := wantGet(t, text); ok {
			t.Errorf("Get(%q) says yes", text)
		}
	}
}

// P15.6: with any byte another one, gone, or twice it is the form of that other state, or of none.
func TestGetOfTurnedBytes(t *testing.T) {
	for _, s := range []state.State{sample(), state.New()} {
		form := state.Put(s)
		for at := range len(form) {
			for _, b := range []byte{0, 1, 2, 3, 4, 5, 6, 9, 10, 11, 100, 101, 127, 128, 129, 255, form[at] + 1, form[at] - 1, form[at] ^ 128, 'a', 'b', 'c', '/'} {
				wantGet(t, form[:at]+string([]byte{b})+form[at+1:])
				wantGet(t, form[:at]+string([]byte{b})+form[at:])
			}
			wantGet(t, form[:at]+form[at+1:])
			wantGet(t, form[:at]+form[at:at+1]+form[at:])
			// A number with a digit 0 more is another form of the same, and so none.
			if form[at] < 128 {
				wantGet(t, form[:at]+string([]byte{form[at] | 128, 0})+form[at+1:])
			}
		}
	}
}

// P15.6: counts and numbers past their limits, up to all 64 bits, are refused; nothing is read on.
func TestGetOfLimits(t *testing.T) {
	base := state.Put(state.New())
	jobs, streams := base[:14], base[15:]
	huge := []uint64{33, 34, 100, 1 << 31, 1 << 32, 1<<32 + 1, math.MaxInt64, 1 << 63, 1<<63 + 1, math.MaxUint64 - 1, math.MaxUint64}
	for _, n := range huge {
		behind := strings.Repeat("\x00", 400)
		for _, text := range []string{jobs + wire.Put(n) + behind, jobs + wire.Put(n) + streams, jobs + "\x00\x00" + wire.Put(n) + behind, jobs + "\x00\x00\x00\x00" + wire.Put(n) + behind} {
			if _, ok := wantGet(t, text); ok {
				t.Errorf("Get(%q) says yes", text)
			}
		}
	}
	for count := range 40 {
		list := strings.Repeat("\x05\x06\x07", count)
		for _, text := range []string{jobs + "\x00\x09" + wire.Put(uint64(count)) + list + "\x00\x00", jobs + "\x00\x00\x00\x09" + wire.Put(uint64(count)) + list} {
			if got, ok := wantGet(t, text); ok != (count <= 32) || ok && len(got.Events.L)+len(got.Audit.L) != count {
				t.Errorf("Get of %d notes = %v", count, ok)
			}
		}
	}
	s := sample()
	for _, left := range append(huge, 101, 102, 0, 1, 2, 3, 4, 9, 1<<32+4) {
		for at := range s.Jobs {
			turned := own(s)
			turned.Jobs[at].Left = int(left)
			got, ok := wantGet(t, state.Put(turned))
			if want := s.Jobs[at].Runs && left >= 1 && left <= uint64(s.Jobs[at].X.Ticks) || !s.Jobs[at].Runs && left == 0; ok != want || ok && got.Jobs[at].Left != int(left) {
				t.Errorf("Get of Left %d of job %d = %v", left, s.Jobs[at].ID, ok)
			}
		}
	}
}

// P15.6: the queue is not put, and told as the jobs tell it.
func TestGetOfQueue(t *testing.T) {
	s := full(t, 32)
	form := state.Put(s)
	if other := turned(func(o *state.State) { *o = own(s); o.Queue = nil }); state.Put(other) != form {
		t.Error("the queue is put")
	}
	got, ok := wantGet(t, form)
	if !ok || !slices.Equal(got.Queue, s.Queue) || len(got.Queue) != 32 || got.Queue[0] != (queue.Entry{ID: 10, Prio: 9}) || got.Queue[31] != (queue.Entry{ID: 31}) {
		t.Errorf("the queue %v", got.Queue)
	}
}

// trial plays what comes about by chance.
type trial struct {
	*rand.Rand
	s state.State
}

// spec tells a job by chance, which may be wrong.
func (c *trial) spec() spec.Spec {
	paths := []string{"a", "a", "a/b", "a/b", "c", "c", "d", "a/b/c", "A", ""}
	x := job(paths[c.Intn(len(paths)-c.Intn(2)*4)], vec.Vec{uint64(c.Intn(4)), uint64(c.Intn(3))}, 1+c.Intn(3), c.Intn(10), 1+c.Intn(9))
	if c.Intn(3) == 0 {
		x.Sel = where()[:1+c.Intn(2)]
	}
	switch c.Intn(60) {
	case 0:
		x.Count = c.Intn(12) - 2
	case 1:
		x.Prio = c.Intn(14) - 2
	case 2:
		x.Ticks = c.Intn(110) - 5
	case 3:
		x.Demand[c.Intn(4)] = 1 << (60 + c.Intn(4))
	}
	return x
}

// id tells one that is there, most of the time.
func (c *trial) id() uint64 {
	if len(c.s.Jobs) == 0 || c.Intn(10) == 0 {
		return uint64(c.Intn(int(min(c.s.Next, 1000)) + 2))
	}
	return c.s.Jobs[c.Intn(len(c.s.Jobs))].ID
}

// nodes tells as many as the job has copies, most of the time.
func (c *trial) nodes(id uint64) (l []string) {
	count := c.Intn(4)
	if j, ok := state.Find(c.s, id); ok && c.Intn(10) > 0 {
		count = min(max(j.X.Count, 0), 9)
	}
	for range count {
		l = append(l, []string{"n1", "n2", "n1", "n2", "n1", "n2", "n3", "x"}[c.Intn(8-c.Intn(2)*2)])
	}
	return l
}

// step does one thing more, and tells what is then.
func (c *trial) step(id uint64, x spec.Spec, nodes []string, kind int) (next state.State) {
	next = c.s
	switch c.Intn(9) {
	case 0, 1:
		next, _, _ = state.Submit(c.s, x)
	case 2, 3, 4:
		next, _ = state.Begin(c.s, id, nodes)
	case 5:
		next, _ = state.Stop(c.s, id, kind)
	case 6:
		next, _ = state.End(c.s, id, kind)
	case 7:
		next.Audit = state.Tell(c.s.Audit, state.Note{Round: c.s.Round, ID: id, Kind: kind})
		next.Round++
	case 8:
		next.Pool, _, _ = pool.Fail(c.s.Pool, "n2")
		if c.Intn(2) == 0 {
			next.Pool, _ = pool.Mend(c.s.Pool, "n2")
		}
	}
	return next
}

// P15.2 to P15.7: many things come to pass; the state is right at all times, and just as it should be.
func TestLongRun(t *testing.T) {
	c := &trial{Rand: rand.New(rand.NewSource(5)), s: full(t, 0)}
	ran, most := 0, 0
	for range 3000 {
		id, x, kind := c.id(), c.spec(), c.Intn(8)-1
		nodes := c.nodes(id)
		wantAll(t, c.s, id, x, nodes, kind)
		c.s = c.step(id, x, nodes, kind)
		if !state.Right(c.s) {
			t.Fatalf("not right:\n%s", show(c.s))
		}
		for _, j := range c.s.Jobs {
			if j.Runs {
				ran++
			}
		}
		most = max(most, len(c.s.Jobs))
	}
	if ran < 3000 || most < 20 {
		t.Errorf("%d ran, at most %d jobs", ran, most)
	}
}

// spoil turns something of s by chance.
func (c *trial) spoil(s *state.State) {
	id := []uint64{0, 1, 2, 3, 5, 6, 9, 10, 11, math.MaxUint64}[c.Intn(10)]
	number := c.Intn(12) - 2
	at := func(count int) int { return c.Intn(max(count, 1)) }
	switch k := c.Intn(20); {
	case k == 0:
		s.Next = id
	case k == 1 && len(s.Jobs) > 0:
		s.Jobs[at(len(s.Jobs))].ID = id
	case k == 2 && len(s.Jobs) > 0:
		s.Jobs[at(len(s.Jobs))].Left = number
	case k == 3 && len(s.Jobs) > 0:
		j := &s.Jobs[at(len(s.Jobs))]
		j.Runs = !j.Runs
	case k == 4 && len(s.Jobs) > 0:
		s.Jobs[at(len(s.Jobs))].X = c.spec()
	case k == 5 && len(s.Jobs) > 0:
		i := at(len(s.Jobs))
		s.Jobs = append(s.Jobs[:i], s.Jobs[i+1:]...)
	case k == 6 && len(s.Jobs) > 0:
		i := at(len(s.Jobs))
		s.Jobs = append(s.Jobs, s.Jobs[i])
	case k == 7 && len(s.Queue) > 0:
		s.Queue[at(len(s.Queue))].ID = id
	case k == 8 && len(s.Queue) > 0:
		s.Queue[at(len(s.Queue))].Prio = number
	case k == 9:
		s.Queue = append(s.Queue, queue.Entry{ID: id, Prio: number})
	case k == 10 && len(s.Queue) > 0:
		s.Queue = s.Queue[1:]
	case k == 11 && len(s.Pool.Places) > 0:
		s.Pool.Places[at(len(s.Pool.Places))].Job = id
	case k == 12 && len(s.Pool.Places) > 0:
		s.Pool.Places[at(len(s.Pool.Places))].V = vec.Vec{uint64(max(number, 0)), 1}
	case k == 13 && len(s.Pool.Places) > 0:
		s.Pool.Places = s.Pool.Places[1:]
	case k == 14:
		s.Pool.Places = append(s.Pool.Places, pool.Place{Job: id, Node: "n2"})
	case k == 15 && len(s.Tree) > 0:
		s.Tree[at(len(s.Tree))].Used[at(4)] = uint64(max(number, 0))
	case k == 16 && len(s.Tree) > 0:
		s.Tree[at(len(s.Tree))].Limit[at(4)] = uint64(max(number, 0))
	case k == 17 && len(s.Tree) > 0:
		i := at(len(s.Tree))
		s.Tree = append(s.Tree[:i], s.Tree[i+1:]...)
	case k == 18 && len(s.Pool.Nodes) > 0:
		i := at(len(s.Pool.Nodes))
		s.Pool.Nodes = append(s.Pool.Nodes[:i], s.Pool.Nodes[i+1:]...)
	case k == 19:
		s.Events.L, s.Events.First = notes(id, 30+at(6)), id-3
	}
}

// P15.2 to P15.6: of what is spoiled by chance, too, each call tells what the chapter says.
func TestWrongStates(t *testing.T) {
	c := &trial{Rand: rand.New(rand.NewSource(6))}
	right, done := 0, 0
	for range 8000 {
		c.s = sample()
		for range 1 + c.Intn(4) {
			c.spoil(&c.s)
		}
		id, x, kind := c.id(), c.spec(), c.Intn(8)-1
		nodes := c.nodes(id)
		wantAll(t, c.s, id, x, nodes, kind)
		if state.Right(c.s) {
			right++
		}
		if _, errno := state.Begin(c.s, id, nodes); errno == api.OK {
			done++
		}
	}
	if right < 100 || right > 10000 || done < 500 {
		t.Errorf("%d are right, %d were begun", right, done)
	}
}

// spare tells l with room behind it, in which what stands must stay.
func spare[Item any](l []Item, what Item) []Item {
	return append(slices.Clone(l), slices.Repeat([]Item{what}, 9)...)[:len(l)]
}

// spared tells s with room behind each of its lists.
func spared(s state.State) state.State {
	s.Pool.Nodes = spare(s.Pool.Nodes, pool.Node{Name: "q"})
	for at, n := range s.Pool.Nodes {
		s.Pool.Nodes[at].Labels = spare(n.Labels, label.Pair{Key: "q"})
	}
	s.Pool.Places = spare(s.Pool.Places, pool.Place{Job: 77})
	s.Tree = spare(s.Tree, quota.Entry{Path: "q"})
	s.Jobs = spare(s.Jobs, state.Job{ID: 77})
	for at, j := range s.Jobs {
		s.Jobs[at].X = sparedSpec(j.X)
	}
	s.Queue = spare(s.Queue, queue.Entry{ID: 77})
	s.Events.L = spare(s.Events.L, state.Note{ID: 77})
	s.Audit.L = spare(s.Audit.L, state.Note{ID: 77})
	return s
}

func sparedSpec(x spec.Spec) spec.Spec {
	x.Sel = spare(x.Sel, sel.Term{Key: "q"})
	for at, term := range x.Sel {
		x.Sel[at].Values = spare(term.Values, "q")
	}
	return x
}

// reach tells s with all that stands behind its lists, too.
func reach(s state.State) state.State {
	s.Pool.Nodes = slices.Clone(s.Pool.Nodes[:cap(s.Pool.Nodes)])
	for at, n := range s.Pool.Nodes {
		s.Pool.Nodes[at].Labels = n.Labels[:cap(n.Labels)]
	}
	s.Pool.Places = s.Pool.Places[:cap(s.Pool.Places)]
	s.Tree = s.Tree[:cap(s.Tree)]
	s.Jobs = slices.Clone(s.Jobs[:cap(s.Jobs)])
	for at, j := range s.Jobs {
		s.Jobs[at].X = reachSpec(j.X)
	}
	s.Queue = s.Queue[:cap(s.Queue)]
	s.Events.L = s.Events.L[:cap(s.Events.L)]
	s.Audit.L = s.Audit.L[:cap(s.Audit.L)]
	return s
}

func reachSpec(x spec.Spec) spec.Spec {
	x.Sel = slices.Clone(x.Sel[:cap(x.Sel)])
	for at, term := range x.Sel {
		x.Sel[at].Values = term.Values[:cap(term.Values)]
	}
	return x
}

// ruin writes into all that can be reached from l, and then over it.
func ruin[Item any](l []Item, into func(Item)) {
	l = l[:cap(l)]
	for at := range l {
		into(l[at])
		clear(l[at : at+1])
	}
}

// ruinState writes into all that can be reached from s.
func ruinState(s state.State) {
	ruin(s.Pool.Nodes, func(n pool.Node) { ruin(n.Labels, func(label.Pair) {}) })
	ruin(s.Pool.Places, func(pool.Place) {})
	ruin(s.Tree, func(quota.Entry) {})
	ruin(s.Jobs, func(j state.Job) { ruinSpec(j.X) })
	ruin(s.Queue, func(queue.Entry) {})
	ruin(s.Events.L, func(state.Note) {})
	ruin(s.Audit.L, func(state.Note) {})
}

func ruinSpec(x spec.Spec) {
	ruin(x.Sel, func(term sel.Term) { ruin(term.Values, func(string) {}) })
}

// question is what each call is asked.
type question struct {
	id    uint64
	x     spec.Spec
	nodes []string
}

// questions ask all calls, with and without each error.
func questions() []question {
	selected := job("a/b", vec.Vec{1}, 1, 5, 1)
	selected.Sel = where()
	return []question{
		{2, selected, []string{"n1"}}, {6, selected, []string{"n1", "n2"}}, {6, spec.Spec{Sel: where()}, []string{"n1", "n3"}}, {6, job("x", vec.Vec{}, 1, 1, 1), []string{"n1"}},
		{3, selected, []string{"n2"}}, {9, selected, nil}, {0, selected, nil}, {5, job("c", vec.Vec{1 << 63}, 2, 1, 1), []string{"x"}}, {3, selected, []string{"x"}}, {77, selected, nil},
	}
}

// ask asks all calls, and tells all that they tell.
func ask(s state.State, q question) (all []state.State, jobs []state.Job, streams []state.Stream, text string) {
	submitted, id, errno := state.Submit(s, q.x)
	began, beganErrno := state.Begin(s, q.id, q.nodes)
	stopped, stoppedErrno := state.Stop(s, q.id, state.Yields)
	ended, endedErrno := state.End(s, q.id, state.Ends)
	form := state.Put(s)
	got, ok := state.Get(form)
	j, found := state.Find(s, q.id)
	told := state.Tell(s.Events, state.Note{ID: 5})
	l, next := state.From(s.Events, q.id)
	for _, n := range []uint64{id, uint64(errno), uint64(beganErrno), uint64(stoppedErrno), uint64(endedErrno), next} {
		text += wire.Put(n)
	}
	for _, yes := range []bool{ok, found, state.Right(s), state.Same(s, submitted), state.Same(s, s)} {
		text += map[bool]string{true: "y", false: "n"}[yes]
	}
	return []state.State{submitted, began, stopped, ended, got}, []state.Job{j}, []state.Stream{told, {L: l}}, text + form
}

// showAll tells all that ask tells.
func showAll(all []state.State, jobs []state.Job, streams []state.Stream, text string) string {
	for _, s := range all {
		text += show(s)
	}
	for _, j := range jobs {
		text += showJob(j)
	}
	for _, x := range streams {
		text += showStream(x)
	}
	return text
}

// states are some of all sorts.
func states(t testing.TB) []state.State {
	return []state.State{sample(), state.New(), {}, full(t, 32), full(t, 3), turned(func(s *state.State) { s.Events.L = notes(3, 32) }), turned(func(s *state.State) { s.Jobs[3].ID = 2; s.Tree = s.Tree[:2] })}
}

// Nothing that is handed in is written into, nor what stands behind it in its array.
func TestArgumentsStay(t *testing.T) {
	for _, s := range states(t) {
		for _, q := range questions() {
			s := spared(s)
			q.x, q.nodes = sparedSpec(q.x), spare(q.nodes, "q")
			was, wasX, wasNodes := show(reach(s)), showSpec(reachSpec(q.x)), slices.Clone(q.nodes[:cap(q.nodes)])
			ask(s, q)
			if show(reach(s)) != was || showSpec(reachSpec(q.x)) != wasX || !slices.Equal(q.nodes[:cap(q.nodes)], wasNodes) {
				t.Fatalf("was\n%snow\n%s", was, show(reach(s)))
			}
		}
	}
}

// What is told is memory of its own, also beside an error: whoever writes into it turns nothing else.
func TestAnswersAreNew(t *testing.T) {
	for _, s := range states(t) {
		for _, q := range questions() {
			s := spared(s)
			q.x, q.nodes = sparedSpec(q.x), spare(q.nodes, "q")
			was, wasX := show(reach(s)), showSpec(reachSpec(q.x))
			want := showAll(ask(s, q))
			all, jobs, streams, _ := ask(s, q)
			left := all
			for at := range all {
				shown := make([]string, 0, len(left))
				for _, other := range left[1:] {
					shown = append(shown, show(other))
				}
				ruinState(all[at])
				left = left[1:]
				for i, other := range left {
					if show(other) != shown[i] {
						t.Fatalf("answers share memory: %s", show(other))
					}
				}
			}
			ruinSpec(jobs[0].X)
			for _, x := range streams {
				ruin(x.L, func(state.Note) {})
			}
			if show(reach(s)) != was || showSpec(reachSpec(q.x)) != wasX || showAll(ask(s, q)) != want {
				t.Fatalf("was\n%snow\n%s", was, show(reach(s)))
			}
		}
	}
}

// No two lists of one answer share memory: with one of them ruined the others are as they were.
func TestListsOfOneAnswer(t *testing.T) {
	twin := spared(sample())
	twin.Jobs[1].X.Sel, twin.Jobs[2].X.Sel = twin.Jobs[0].X.Sel, twin.Jobs[0].X.Sel
	twin.Pool.Nodes[1].Labels = twin.Pool.Nodes[0].Labels
	twin.Audit.L = twin.Events.L
	got, _, _ := state.Submit(twin, twin.Jobs[0].X)
	before := show(got)
	ruinSpec(got.Jobs[1].X)
	ruinSpec(got.Jobs[5].X)
	ruin(got.Pool.Nodes[1].Labels, func(label.Pair) {})
	ruin(got.Audit.L, func(state.Note) {})
	again, _, _ := state.Submit(twin, twin.Jobs[0].X)
	got.Jobs[1].X, got.Jobs[5].X, got.Pool.Nodes[1].Labels, got.Audit.L = again.Jobs[1].X, again.Jobs[5].X, again.Pool.Nodes[1].Labels, again.Audit.L
	if show(got) != before {
		t.Errorf("was\n%snow\n%s", before, show(got))
	}
}

// What is told hangs on the arguments alone: not on what was asked ahead, nor on who asks at the same time.
func TestToldAgain(t *testing.T) {
	all, asked := states(t), questions()
	var want []string
	for _, s := range all {
		for _, q := range asked {
			want = append(want, showAll(ask(s, q)))
		}
	}
	var group sync.WaitGroup
	for worker := range 8 {
		group.Go(func() {
			for round := range 150 {
				at := (worker*31 + round*7) % len(want)
				if got := showAll(ask(all[at/len(asked)], asked[at%len(asked)])); got != want[at] {
					t.Errorf("told\n%snow\n%s", want[at], got)
				}
			}
		})
	}
	group.Wait()
}

// Many of everything: each call comes to its end soon.
func TestMany(t *testing.T) {
	begin := time.Now()
	const count = 100000
	s := state.State{Next: 1}
	for at := range uint64(count) {
		s.Jobs = append(s.Jobs, state.Job{ID: at, X: job("a", vec.Vec{1}, 1, 1, 1), Runs: at%2 == 0})
		s.Queue = append(s.Queue, queue.Entry{ID: at})
		s.Tree = append(s.Tree, quota.Entry{Path: "a"})
		s.Pool.Places = append(s.Pool.Places, pool.Place{Job: at, Node: "n1"})
		s.Pool.Nodes = append(s.Pool.Nodes, pool.Node{Name: "n1"})
		s.Events.L = append(s.Events.L, state.Note{ID: at})
	}
	s.Audit = s.Events
	for _, id := range []uint64{0, 1, count - 1, count - 2, count} {
		ask(s, question{id, job("a", vec.Vec{1}, 1, 1, 1), []string{"n1"}})
	}
	places := turned(func(o *state.State) {
		o.Pool.Places = slices.Repeat([]pool.Place{{Job: 9, Node: "n3"}}, count)
		o.Queue = s.Queue
	})
	ask(places, question{2, job("a", vec.Vec{1}, 1, 1, 1), nil})
	ask(places, question{3, job("a", vec.Vec{1}, 1, 1, 1), slices.Repeat([]string{"n1"}, count)})
	if _, ok := state.Get(state.Put(sample()) + strings.Repeat("\x00", 1<<26)); ok {
		t.Error("Get says yes")
	}
	if spent := time.Since(begin); spent > 30*time.Second {
		t.Errorf("it took %v", spent)
	}
}

// FuzzCalls holds all calls against the reckonings by hand.
func FuzzCalls(f *testing.F) {
	for _, s := range states(f) {
		f.Add(state.Put(s), int64(1), uint64(2), 5)
	}
	f.Add("", int64(2), uint64(6), math.MinInt)
	f.Add("\x00\x01\x00\x00\x01", int64(3), uint64(math.MaxUint64), 0)
	f.Fuzz(func(t *testing.T, text string, seed int64, id uint64, kind int) {
		c := &trial{Rand: rand.New(rand.NewSource(seed))}
		got, ok := wantGet(t, text)
		c.s = sample()
		if ok {
			c.s = got
		}
		for range 4 {
			wantAll(t, c.s, id, c.spec(), c.nodes(id), kind)
			id = c.id()
			if c.s = c.step(id, c.spec(), c.nodes(id), kind); !state.Right(c.s) {
				t.Fatalf("not right:\n%s", show(c.s))
			}
		}
		c.spoil(&c.s)
		wantAll(t, c.s, id, c.spec(), c.nodes(id), kind)
	})
}
