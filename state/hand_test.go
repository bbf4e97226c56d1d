package state_test

import (
	"encoding/binary"
	"fmt"
	"math/big"
	"slices"
	"strings"
	"testing"

	"demesne/api"
	"demesne/pool"
	"demesne/queue"
	"demesne/quota"
	"demesne/sel"
	"demesne/spec"
	"demesne/state"
	"demesne/vec"
)

// What the chapter says of each call, reckoned by hand: step by step, and by whole numbers of no bound. Of the chapters ahead only those calls are asked whose answer the chapter names.

// showSpec tells all fields of x.
func showSpec(x spec.Spec) string {
	text := fmt.Sprintf("%q %v %d %d %d", x.Path, x.Demand, x.Count, x.Prio, x.Ticks)
	for _, term := range x.Sel {
		text += fmt.Sprintf(" %q %v %q", term.Key, term.Not, term.Values)
	}
	return text
}

// showJob tells all fields of j.
func showJob(j state.Job) string {
	return fmt.Sprintf("job %d (%s) %v %d\n", j.ID, showSpec(j.X), j.Runs, j.Left)
}

// showStream tells all fields of x.
func showStream(x state.Stream) string {
	return fmt.Sprintf("stream %d, %d notes %v\n", x.First, len(x.L), x.L)
}

// show tells all fields of s, two states alike just if all are the same.
func show(s state.State) string {
	var text strings.Builder
	fmt.Fprintf(&text, "round %d next %d\n", s.Round, s.Next)
	for _, n := range s.Pool.Nodes {
		fmt.Fprintf(&text, "node %q %v %q %v\n", n.Name, n.Cap, n.Labels, n.Up)
	}
	for _, x := range s.Pool.Places {
		fmt.Fprintf(&text, "place %d %q %v\n", x.Job, x.Node, x.V)
	}
	for _, e := range s.Tree {
		fmt.Fprintf(&text, "entry %q %v %v\n", e.Path, e.Limit, e.Used)
	}
	for _, j := range s.Jobs {
		text.WriteString(showJob(j))
	}
	fmt.Fprintf(&text, "queue %v\n", s.Queue)
	return text.String() + showStream(s.Events) + showStream(s.Audit)
}

// own tells s in memory of its own.
func own(s state.State) state.State {
	s.Pool = pool.Pool{Nodes: slices.Clone(s.Pool.Nodes), Places: slices.Clone(s.Pool.Places)}
	for i, n := range s.Pool.Nodes {
		s.Pool.Nodes[i].Labels = slices.Clone(n.Labels)
	}
	s.Tree = slices.Clone(s.Tree)
	s.Jobs = slices.Clone(s.Jobs)
	for i, j := range s.Jobs {
		s.Jobs[i].X = ownSpec(j.X)
	}
	s.Queue = slices.Clone(s.Queue)
	s.Events.L = slices.Clone(s.Events.L)
	s.Audit.L = slices.Clone(s.Audit.L)
	return s
}

func ownSpec(x spec.Spec) spec.Spec {
	var l []sel.Term
	for _, term := range x.Sel {
		l = append(l, sel.Term{Key: term.Key, Not: term.Not, Values: slices.Clone(term.Values)})
	}
	x.Sel = l
	return x
}

// whole tells u as a whole number.
func whole(u uint64) *big.Int { return new(big.Int).SetUint64(u) }

// totalByHand tells what all copies ask together; nil, if 64 bits don't hold it (or there are fewer than none).
func totalByHand(x spec.Spec) *vec.Vec {
	var told vec.Vec
	for kind, n := range x.Demand {
		product := new(big.Int).Mul(whole(n), whole(uint64(x.Count)))
		if !product.IsUint64() {
			return nil
		}
		told[kind] = product.Uint64()
	}
	return &told
}

// aboveByHand tells the Paths that are to be in the tree, of a right path.
func aboveByHand(path string) []string {
	told := []string{""}
	for i := range path {
		if path[i] == '/' {
			told = append(told, path[:i])
		}
	}
	return append(told, path)
}

// hangsByHand tells whether all of them are in the tree.
func hangsByHand(tree []quota.Entry, path string) bool {
	for _, up := range aboveByHand(path) {
		if !slices.ContainsFunc(tree, func(e quota.Entry) bool { return e.Path == up }) {
			return false
		}
	}
	return true
}

// firstByHand tells the place of the first job of that ID.
func firstByHand(s state.State, id uint64) int {
	for i := range s.Jobs {
		if s.Jobs[i].ID == id {
			return i
		}
	}
	return -1
}

// tellByHand tells what Tell should.
func tellByHand(x state.Stream, n state.Note) (told state.Stream) {
	told.First = x.First
	if len(x.L) < 32 {
		told.L = append(told.L, x.L...)
	} else {
		told.L = append(told.L, x.L[1:]...)
		told.First = x.First + 1
	}
	told.L = append(told.L, n)
	return told
}

// fromByHand tells what From should, of numbers that are cut to 64 bits from whole ones.
func fromByHand(x state.Stream, from uint64) (l []state.Note, next uint64) {
	bound := new(big.Int).Lsh(big.NewInt(1), 64)
	cut := func(n *big.Int) *big.Int { return new(big.Int).Mod(n, bound) }
	told := false
	for place, n := range x.L {
		number := cut(new(big.Int).Add(whole(x.First), big.NewInt(int64(place))))
		if number.Cmp(whole(from)) < 0 || len(l) >= 8 {
			continue
		}
		told = true
		l = append(l, n)
		next = cut(number.Add(number, big.NewInt(1))).Uint64()
	}
	switch {
	case told:
		return l, next
	case from > x.First:
		return nil, from
	}
	return nil, x.First
}

// submitByHand tells what Submit should.
func submitByHand(s state.State, x spec.Spec) (state.State, uint64, api.Errno) {
	told := own(s)
	if e := spec.Check(x); e != 0 {
		return told, 0, e
	}
	if !hangsByHand(s.Tree, x.Path) {
		return told, 0, 7
	}
	if len(s.Jobs) >= 32 || s.Next == 1<<64-1 {
		return told, 0, 9
	}
	q, e := queue.Push(s.Queue, queue.Entry{ID: s.Next, Prio: x.Prio})
	if e != 0 {
		return told, 0, e
	}
	told.Queue = q
	told.Jobs = append(told.Jobs, state.Job{ID: s.Next, X: ownSpec(x)})
	told.Next = s.Next + 1
	told.Events = tellByHand(s.Events, state.Note{Round: s.Round, ID: s.Next, Kind: 1})
	return told, s.Next, 0
}

// beginByHand tells what Begin should.
func beginByHand(s state.State, id uint64, nodes []string) (state.State, api.Errno) {
	told := own(s)
	at := firstByHand(s, id)
	if at < 0 {
		return told, 7
	}
	j := s.Jobs[at]
	total := totalByHand(j.X)
	if j.Runs {
		return told, 15
	}
	if len(nodes) != j.X.Count {
		return told, 1
	}
	if total == nil {
		return told, 5
	}
	tree, e := quota.Charge(s.Tree, j.X.Path, *total)
	if e != 0 {
		return told, e
	}
	p, e := pool.Lay(s.Pool, id, nodes, j.X.Demand)
	if e != 0 {
		return told, e
	}
	told.Tree, told.Pool = tree, p
	told.Jobs[at].Runs = true
	told.Jobs[at].Left = j.X.Ticks
	told.Queue = takenByHand(s.Queue, id)
	told.Events = tellByHand(s.Events, state.Note{Round: s.Round, ID: id, Kind: 2})
	return told, 0
}

// takenByHand tells the queue without the first one of that ID.
func takenByHand(q []queue.Entry, id uint64) (told []queue.Entry) {
	gone := false
	for _, e := range q {
		if e.ID == id && !gone {
			gone = true
			continue
		}
		told = append(told, e)
	}
	return told
}

// freedByHand tells s without what j has.
func freedByHand(s state.State, j state.Job) state.State {
	if total := totalByHand(j.X); total != nil {
		if tree, e := quota.Refund(s.Tree, j.X.Path, *total); e == 0 {
			s.Tree = tree
		}
	}
	var places []pool.Place
	for _, x := range s.Pool.Places {
		if x.Job != j.ID {
			places = append(places, x)
		}
	}
	s.Pool.Places = places
	return s
}

// stopByHand tells what Stop should.
func stopByHand(s state.State, id uint64, kind int) (state.State, api.Errno) {
	told := own(s)
	at := firstByHand(s, id)
	if at < 0 {
		return told, 7
	}
	if !s.Jobs[at].Runs {
		return told, 15
	}
	told = freedByHand(told, s.Jobs[at])
	told.Jobs[at].Runs = false
	told.Jobs[at].Left = 0
	if q, e := queue.Push(s.Queue, queue.Entry{ID: id, Prio: s.Jobs[at].X.Prio}); e == 0 {
		told.Queue = q
	}
	told.Events = tellByHand(s.Events, state.Note{Round: s.Round, ID: id, Kind: kind})
	return told, 0
}

// endByHand tells what End should.
func endByHand(s state.State, id uint64, kind int) (state.State, api.Errno) {
	told := own(s)
	at := firstByHand(s, id)
	if at < 0 {
		return told, 7
	}
	if s.Jobs[at].Runs {
		told = freedByHand(told, s.Jobs[at])
	} else {
		told.Queue = takenByHand(s.Queue, id)
	}
	var jobs []state.Job
	for i, j := range told.Jobs {
		if i != at {
			jobs = append(jobs, j)
		}
	}
	told.Jobs = jobs
	told.Events = tellByHand(s.Events, state.Note{Round: s.Round, ID: id, Kind: kind})
	return told, 0
}

// rightByHand asks all that the chapter asks, one by one.
func rightByHand(s state.State) bool {
	if !pool.Right(s.Pool) || !quota.Right(s.Tree) || !queue.Right(s.Queue) || s.Next == 0 || len(s.Jobs) > 32 || len(s.Events.L) > 32 || len(s.Audit.L) > 32 {
		return false
	}
	for i, j := range s.Jobs {
		if j.ID == 0 || i > 0 && s.Jobs[i-1].ID >= j.ID || s.Next <= j.ID || spec.Check(j.X) != 0 || !hangsByHand(s.Tree, j.X.Path) {
			return false
		}
		if j.Runs && (j.Left <= 0 || j.X.Ticks < j.Left) || !j.Runs && j.Left != 0 {
			return false
		}
	}
	return queueByHand(s) && placesByHand(s) && usedByHand(s)
}

// queueByHand asks of each job, and of each who waits, for one of the others.
func queueByHand(s state.State) bool {
	count := 0
	for _, j := range s.Jobs {
		if j.Runs {
			continue
		}
		count++
		if !slices.Contains(s.Queue, queue.Entry{ID: j.ID, Prio: j.X.Prio}) {
			return false
		}
	}
	return count == len(s.Queue)
}

// placesByHand asks of each job for its places, and whether all are of one.
func placesByHand(s state.State) bool {
	count := 0
	for _, j := range s.Jobs {
		mine := 0
		for _, x := range s.Pool.Places {
			if x.Job == j.ID && x.V == j.X.Demand {
				mine++
			}
		}
		if j.Runs && mine != j.X.Count || !j.Runs && mine != 0 {
			return false
		}
		count += mine
	}
	return count == len(s.Pool.Places)
}

// usedByHand sums up, for each entry of the tree, what runs at its Path, or below.
func usedByHand(s state.State) bool {
	for _, e := range s.Tree {
		for kind, used := range e.Used {
			sum := new(big.Int)
			for _, j := range s.Jobs {
				if j.Runs && (e.Path == "" || j.X.Path == e.Path || strings.HasPrefix(j.X.Path, e.Path+"/")) {
					sum.Add(sum, new(big.Int).Mul(whole(j.X.Demand[kind]), big.NewInt(int64(j.X.Count))))
				}
			}
			if sum.Cmp(whole(used)) != 0 {
				return false
			}
		}
	}
	return true
}

// putByHand tells the form by the library's numbers.
func putByHand(s state.State) string {
	var form []byte
	number := func(all ...uint64) {
		for _, n := range all {
			form = binary.AppendUvarint(form, n)
		}
	}
	number(s.Round, s.Next)
	form = append(form, pool.Put(s.Pool)...)
	form = append(form, quota.Put(s.Tree)...)
	number(uint64(len(s.Jobs)))
	for _, j := range s.Jobs {
		number(j.ID)
		form = append(form, spec.Put(j.X)...)
		number(uint64(j.Left))
	}
	for _, x := range []state.Stream{s.Events, s.Audit} {
		number(x.First, uint64(len(x.L)))
		for _, n := range x.L {
			number(n.Round, n.ID, uint64(n.Kind))
		}
	}
	return string(form)
}

// getByHand reads by the library's numbers, and takes only what putByHand puts just so of what is right.
func getByHand(text string) (state.State, bool) {
	at, ok := 0, true
	number := func() uint64 {
		n, size := binary.Uvarint([]byte(text[at:]))
		at += max(size, 0)
		return n
	}
	moved := func(next int, also bool) {
		ok = ok && also
		at = max(at, next)
	}
	s := state.State{Round: number(), Next: number()}
	p, next, also := pool.Get(text, at)
	moved(next, also)
	tree, next, also := quota.Get(text, at)
	moved(next, also)
	s.Pool, s.Tree = p, tree
	for range min(number(), 33) {
		j := state.Job{ID: number()}
		x, next, also := spec.Get(text, at)
		moved(next, also)
		j.X, j.Left = x, int(number())
		j.Runs = j.Left != 0
		s.Jobs = append(s.Jobs, j)
		if !j.Runs {
			s.Queue = append(s.Queue, queue.Entry{ID: j.ID, Prio: j.X.Prio})
		}
	}
	slices.SortStableFunc(s.Queue, func(a, b queue.Entry) int { return b.Prio - a.Prio })
	for _, x := range []*state.Stream{&s.Events, &s.Audit} {
		x.First = number()
		for range min(number(), 33) {
			x.L = append(x.L, state.Note{Round: number(), ID: number(), Kind: int(number())})
		}
	}
	if ok && rightByHand(s) && putByHand(s) == text {
		return s, true
	}
	return state.State{}, false
}

// wantState holds what a call told against a state and an error.
func wantState(t *testing.T, what string, got state.State, also api.Errno, want state.State, wantAlso api.Errno) {
	t.Helper()
	if also != wantAlso || show(got) != show(want) {
		t.Fatalf("%s told %d and\n%swant %d and\n%s", what, also, show(got), wantAlso, show(want))
	}
}

// wantStays asks that what was right is right yet (P15.7).
func wantStays(t *testing.T, what string, was, is state.State) {
	t.Helper()
	if state.Right(was) && !state.Right(is) {
		t.Fatalf("%s makes of\n%swhat is not right:\n%s", what, show(was), show(is))
	}
}

// wantSubmit holds Submit against submitByHand, and tells what it tells.
func wantSubmit(t *testing.T, s state.State, x spec.Spec) (state.State, uint64, api.Errno) {
	t.Helper()
	want, wantID, wantAlso := submitByHand(s, x)
	got, id, also := state.Submit(s, x)
	what := "Submit of " + showSpec(x)
	wantState(t, what, got, also, want, wantAlso)
	wantStays(t, what, s, got)
	if id != wantID {
		t.Fatalf("%s told the ID %d, want %d", what, id, wantID)
	}
	return got, id, also
}

// wantBegin holds Begin against beginByHand, and tells what it tells.
func wantBegin(t *testing.T, s state.State, id uint64, nodes ...string) (state.State, api.Errno) {
	t.Helper()
	want, wantAlso := beginByHand(s, id, nodes)
	got, also := state.Begin(s, id, nodes)
	what := fmt.Sprintf("Begin(.., %d, %q)", id, nodes)
	wantState(t, what, got, also, want, wantAlso)
	wantStays(t, what, s, got)
	return got, also
}

// wantStop holds Stop against stopByHand, and tells what it tells.
func wantStop(t *testing.T, s state.State, id uint64, kind int) (state.State, api.Errno) {
	t.Helper()
	want, wantAlso := stopByHand(s, id, kind)
	got, also := state.Stop(s, id, kind)
	what := fmt.Sprintf("Stop(.., %d, %d)", id, kind)
	wantState(t, what, got, also, want, wantAlso)
	wantStays(t, what, s, got)
	return got, also
}

// wantEnd holds End against endByHand, and tells what it tells.
func wantEnd(t *testing.T, s state.State, id uint64, kind int) (state.State, api.Errno) {
	t.Helper()
	want, wantAlso := endByHand(s, id, kind)
	got, also := state.End(s, id, kind)
	what := fmt.Sprintf("End(.., %d, %d)", id, kind)
	wantState(t, what, got, also, want, wantAlso)
	wantStays(t, what, s, got)
	return got, also
}

// wantFind holds Find against firstByHand.
func wantFind(t *testing.T, s state.State, id uint64) {
	t.Helper()
	var want state.Job
	at := firstByHand(s, id)
	if at >= 0 {
		want = s.Jobs[at]
	}
	if got, ok := state.Find(s, id); ok != (at >= 0) || showJob(got) != showJob(want) {
		t.Fatalf("Find(.., %d) of\n%s= %v, %s", id, show(s), ok, showJob(got))
	}
}

// wantTell holds Tell against tellByHand, and tells what it tells.
func wantTell(t *testing.T, x state.Stream, n state.Note) state.Stream {
	t.Helper()
	got, want := state.Tell(x, n), tellByHand(x, n)
	if showStream(got) != showStream(want) {
		t.Fatalf("Tell(%s, %v) = %s, want %s", showStream(x), n, showStream(got), showStream(want))
	}
	return got
}

// wantFrom holds From against fromByHand, and tells what it tells.
func wantFrom(t *testing.T, x state.Stream, from uint64) ([]state.Note, uint64) {
	t.Helper()
	l, next := state.From(x, from)
	want, wantNext := fromByHand(x, from)
	if !slices.Equal(l, want) || next != wantNext {
		t.Fatalf("From(%s, %d) = %v, %d, want %v, %d", showStream(x), from, l, next, want, wantNext)
	}
	return l, next
}

// wantForms holds Right, Same, Put and Get of s against the reckonings by hand.
func wantForms(t *testing.T, s state.State) {
	t.Helper()
	if got, want := state.Right(s), rightByHand(s); got != want {
		t.Fatalf("Right = %v, want %v, of\n%s", got, want, show(s))
	}
	if !state.Same(s, own(s)) {
		t.Fatalf("not Same as itself:\n%s", show(s))
	}
	form := state.Put(s)
	if want := putByHand(s); form != want {
		t.Fatalf("Put = %q, want %q, of\n%s", form, want, show(s))
	}
	if got, ok := wantGet(t, form); rightByHand(s) && (!ok || show(got) != show(s)) {
		t.Fatalf("Get of Put = %v,\n%swant\n%s", ok, show(got), show(s))
	}
}

// wantGet holds Get against getByHand, and tells what it tells.
func wantGet(t *testing.T, text string) (state.State, bool) {
	t.Helper()
	want, wantOK := getByHand(text)
	got, ok := state.Get(text)
	if ok != wantOK || show(got) != show(want) {
		t.Fatalf("Get(%q) = %v and\n%swant %v and\n%s", text, ok, show(got), wantOK, show(want))
	}
	return got, ok
}

// wantAll holds all calls with s and one of its jobs, or one of none, against the reckonings by hand.
func wantAll(t *testing.T, s state.State, id uint64, x spec.Spec, nodes []string, kind int) {
	t.Helper()
	wantForms(t, s)
	wantFind(t, s, id)
	wantSubmit(t, s, x)
	wantBegin(t, s, id, nodes...)
	wantStop(t, s, id, kind)
	wantEnd(t, s, id, kind)
	wantFrom(t, s.Events, id)
	wantTell(t, s.Events, state.Note{Round: s.Round, ID: id, Kind: kind})
	wantBack(t, s, id, nodes)
}

// wantBack lets one begin and stop: then all but the events is as it was, if s is right (P15.7).
func wantBack(t *testing.T, s state.State, id uint64, nodes []string) {
	t.Helper()
	began, also := state.Begin(s, id, nodes)
	if also != api.OK || !state.Right(s) {
		return
	}
	back, also := state.Stop(began, id, state.Yields)
	if back.Events = s.Events; also != api.OK || show(back) != show(s) {
		t.Fatalf("job %d began, and stopped:\n%swas\n%s", id, show(back), show(s))
	}
	ended, also := state.End(began, id, state.Ends)
	gone, wantAlso := state.End(s, id, state.Ends)
	if ended.Events = gone.Events; also != api.OK || wantAlso != api.OK || show(ended) != show(gone) {
		t.Fatalf("job %d began, and ended:\n%swant\n%s", id, show(ended), show(gone))
	}
}
