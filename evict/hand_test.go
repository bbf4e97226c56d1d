package evict_test

import (
	"fmt"
	"math/big"
	"slices"
	"strings"
	"testing"

	"demesne/api"
	"demesne/evict"
	"demesne/label"
	"demesne/pack"
	"demesne/pool"
	"demesne/quota"
	"demesne/sel"
	"demesne/spec"
	"demesne/state"
	"demesne/vec"
)

// What the chapter says of each call, reckoned by hand. First as its words say it, of any state, by the calls of the chapters ahead that it names; each try begins with the state that was handed in.

// firstByHand tells the first job of that ID; nil, if there is none.
func firstByHand(s state.State, id uint64) *state.Job {
	for i := range s.Jobs {
		if s.Jobs[i].ID == id {
			return &s.Jobs[i]
		}
	}
	return nil
}

// fitsByHand tells what Fits should.
func fitsByHand(s state.State, id uint64) ([]string, bool) {
	j := firstByHand(s, id)
	if j == nil || j.Runs {
		return nil, false
	}
	nodes, room := pack.Fit(pool.Slots(s.Pool), j.X.Sel, j.X.Demand, j.X.Count)
	total, whole := spec.Total(j.X)
	_, errno := quota.Charge(s.Tree, j.X.Path, total)
	if room && whole && errno == api.OK {
		return nodes, true
	}
	return nil, false
}

// couldByHand tells what Could should.
func couldByHand(s state.State, id uint64) bool {
	j := firstByHand(s, id)
	if j == nil || j.Runs {
		return false
	}
	_, room := pack.Fit(pool.Slots(pool.Pool{Nodes: s.Pool.Nodes}), j.X.Sel, j.X.Demand, j.X.Count)
	total, whole := spec.Total(j.X)
	unused := slices.Clone(s.Tree)
	for i := range unused {
		unused[i].Used = vec.Vec{}
	}
	_, errno := quota.Charge(unused, j.X.Path, total)
	return room && whole && errno == api.OK
}

// lowerByHand tells what Lower should: over and over the one that goes ahead of all others that are left.
func lowerByHand(s state.State, id uint64) (told []uint64) {
	asked := firstByHand(s, id)
	if asked == nil {
		return nil
	}
	gone := make([]bool, len(s.Jobs))
	for {
		best := -1
		for i, j := range s.Jobs {
			if gone[i] || !j.Runs || j.X.Prio >= asked.X.Prio {
				continue
			}
			if best < 0 || j.X.Prio < s.Jobs[best].X.Prio || j.X.Prio == s.Jobs[best].X.Prio && j.ID > s.Jobs[best].ID {
				best = i
			}
		}
		if best < 0 {
			return told
		}
		gone[best] = true
		told = append(told, s.Jobs[best].ID)
	}
}

// stoppedByHand tells s with those stopped that counts says, one by one, in their order.
func stoppedByHand(s state.State, lower []uint64, counts func(at int) bool) state.State {
	for at, id := range lower {
		if !counts(at) {
			continue
		}
		if next, errno := state.Stop(s, id, state.Yields); errno == api.OK {
			s = next
		}
	}
	return s
}

// victimsByHand tells what Victims should.
func victimsByHand(s state.State, id uint64) (l []uint64, nodes []string, ok bool) {
	if j := firstByHand(s, id); j == nil || j.Runs {
		return nil, nil, false
	}
	lower := lowerByHand(s, id)
	bound, found := 0, false
	for n := 0; n <= len(lower) && !found; n++ {
		_, found = fitsByHand(stoppedByHand(s, lower, func(at int) bool { return at < n }), id)
		bound = n
	}
	if !found {
		return nil, nil, false
	}
	kept := map[int]bool{}
	for it := range bound {
		_, kept[it] = fitsByHand(stoppedByHand(s, lower, func(at int) bool { return at < bound && at != it && !kept[at] }), id)
	}
	told := func(at int) bool { return at < bound && !kept[at] }
	for at, victim := range lower {
		if told(at) {
			l = append(l, victim)
		}
	}
	nodes, ok = fitsByHand(stoppedByHand(s, lower, told), id)
	return l, nodes, ok
}

// Then as the document says it of the whole, of right states: by whole numbers without bound, and by all ways to lay the copies. (What is right has its room and its limits: what is free, and used, hangs on those alone that run yet.)

// whole tells u as a whole number.
func whole(u uint64) *big.Int { return new(big.Int).SetUint64(u) }

// matches tells whether these labels are such as the selector asks.
func matches(x []sel.Term, labels []label.Pair) bool {
	for _, term := range x {
		found, among := false, false
		for _, pair := range labels {
			if pair.Key == term.Key {
				found = true
				among = len(term.Values) == 0 || slices.Contains(term.Values, pair.Value)
			}
		}
		if (found && among) == term.Not {
			return false
		}
	}
	return true
}

// used tells how much of a kind is used of that limit by those that run yet.
func used(s state.State, runs map[uint64]bool, path string, kind int) *big.Int {
	sum := new(big.Int)
	for _, j := range s.Jobs {
		if runs[j.ID] && (path == "" || j.X.Path == path || strings.HasPrefix(j.X.Path, path+"/")) {
			sum.Add(sum, new(big.Int).Mul(whole(j.X.Demand[kind]), big.NewInt(int64(j.X.Count))))
		}
	}
	return sum
}

// allowed tells whether the limits let x run beside those that run yet.
func allowed(s state.State, runs map[uint64]bool, x spec.Spec) bool {
	for _, e := range s.Tree {
		if e.Path != "" && x.Path != e.Path && !strings.HasPrefix(x.Path, e.Path+"/") {
			continue
		}
		for kind, limit := range e.Limit {
			sum := new(big.Int).Mul(whole(x.Demand[kind]), big.NewInt(int64(x.Count)))
			if sum.Add(sum, used(s, runs, e.Path, kind)).Cmp(whole(limit)) > 0 {
				return false
			}
		}
	}
	return true
}

// frees tells what is left of each node that x may stand on, beside those that run yet.
func frees(s state.State, runs map[uint64]bool, x spec.Spec) (told []vec.Vec) {
	for _, n := range s.Pool.Nodes {
		if !n.Up || !matches(x.Sel, n.Labels) {
			continue
		}
		left := n.Cap
		for _, place := range s.Pool.Places {
			for kind := range left {
				if place.Node == n.Name && runs[place.Job] {
					left[kind] -= place.V[kind]
				}
			}
		}
		told = append(told, left)
	}
	return told
}

// tryAll tells whether so many copies can stand in these in any way at all.
func tryAll(frees []vec.Vec, demand vec.Vec, count int) bool {
	if count == 0 {
		return true
	}
	for at, free := range frees {
		fits := true
		for kind := range demand {
			fits = fits && demand[kind] <= free[kind]
		}
		if !fits {
			continue
		}
		rest := slices.Clone(frees)
		for kind := range demand {
			rest[at][kind] -= demand[kind]
		}
		if tryAll(rest, demand, count-1) {
			return true
		}
	}
	return false
}

// hasRoom tells whether the job could run beside those that run, but these.
func hasRoom(s state.State, j state.Job, gone ...uint64) bool {
	runs := map[uint64]bool{}
	for _, other := range s.Jobs {
		runs[other.ID] = other.Runs && !slices.Contains(gone, other.ID)
	}
	return allowed(s, runs, j.X) && tryAll(frees(s, runs, j.X), j.X.Demand, j.X.Count)
}

// running tells the IDs of those that run, and of which the question says yes.
func running(s state.State, ask func(j state.Job) bool) (told []uint64) {
	for _, j := range s.Jobs {
		if j.Runs && ask(j) {
			told = append(told, j.ID)
		}
	}
	return told
}

// but tells l without that one.
func but(l []uint64, id uint64) []uint64 {
	return slices.DeleteFunc(slices.Clone(l), func(other uint64) bool { return other == id })
}

// needed tells those of all that must yield that j has room; the first that need not is let off first.
func needed(s state.State, j state.Job, all []uint64) []uint64 {
	for _, id := range slices.Clone(all) {
		if hasRoom(s, j, but(all, id)...) {
			all = but(all, id)
		}
	}
	return all
}

// wantRoom holds the calls against what there is room for, of a job of a right state that waits (P16.4).
func wantRoom(t *testing.T, s state.State, j state.Job) {
	t.Helper()
	everyone := running(s, func(state.Job) bool { return true })
	lower := running(s, func(other state.Job) bool { return other.X.Prio < j.X.Prio })
	_, fits := evict.Fits(s, j.ID)
	l, nodes, ok := evict.Victims(s, j.ID)
	switch {
	case fits != hasRoom(s, j):
		t.Fatalf("job %d of\n%sfits: %v", j.ID, show(s), fits)
	case evict.Could(s, j.ID) != hasRoom(s, j, everyone...):
		t.Fatalf("job %d of\n%scould run: %v", j.ID, show(s), evict.Could(s, j.ID))
	case ok != hasRoom(s, j, lower...):
		t.Fatalf("job %d of\n%shas victims: %v", j.ID, show(s), ok)
	case !ok:
		return
	case fits != (len(l) == 0):
		t.Fatalf("job %d of\n%sfits: %v, with victims %d", j.ID, show(s), fits, l)
	case !slices.Equal(l, needed(s, j, untilRoom(s, j, lowerByHand(s, j.ID)))):
		t.Fatalf("job %d of\n%shas victims %d", j.ID, show(s), l)
	}
	for _, id := range l {
		if !slices.Contains(lower, id) || hasRoom(s, j, but(l, id)...) {
			t.Fatalf("job %d of\n%sdoes not need victim %d of %d", j.ID, show(s), id, l)
		}
	}
	wantBegun(t, s, j.ID, l, nodes)
}

// untilRoom tells the first of these, as many as must be gone that j has room.
func untilRoom(s state.State, j state.Job, lower []uint64) []uint64 {
	for n := range lower {
		if hasRoom(s, j, lower[:n]...) {
			return lower[:n]
		}
	}
	return lower
}

// wantBegun lets the victims yield, and the job of that ID begin on those nodes; what is right stays so.
func wantBegun(t *testing.T, s state.State, id uint64, l []uint64, nodes []string) {
	t.Helper()
	was := show(s)
	for _, victim := range l {
		next, errno := state.Stop(s, victim, state.Yields)
		if errno != api.OK {
			t.Fatalf("victim %d of\n%sis not stopped: %d", victim, was, errno)
		}
		s = next
	}
	next, errno := state.Begin(s, id, nodes)
	if errno != api.OK || !state.Right(next) {
		t.Fatalf("job %d of\n%sdoes not begin on %q, without %d: %d", id, was, nodes, l, errno)
	}
}

// wantFits holds Fits and Could against the reckonings by hand.
func wantFits(t *testing.T, s state.State, id uint64) {
	t.Helper()
	nodes, ok := evict.Fits(s, id)
	want, wantOK := fitsByHand(s, id)
	if !slices.Equal(nodes, want) || ok != wantOK {
		t.Fatalf("Fits(.., %d) = %q, %v, want %q, %v, of\n%s", id, nodes, ok, want, wantOK, show(s))
	}
	if could, wantCould := evict.Could(s, id), couldByHand(s, id); could != wantCould {
		t.Fatalf("Could(.., %d) = %v of\n%s", id, could, show(s))
	}
}

// wantVictims holds Lower and Victims against the reckonings by hand.
func wantVictims(t *testing.T, s state.State, id uint64) {
	t.Helper()
	if lower, want := evict.Lower(s, id), lowerByHand(s, id); !slices.Equal(lower, want) {
		t.Fatalf("Lower(.., %d) = %d, want %d, of\n%s", id, lower, want, show(s))
	}
	l, nodes, ok := evict.Victims(s, id)
	want, wantNodes, wantOK := victimsByHand(s, id)
	if !slices.Equal(l, want) || !slices.Equal(nodes, wantNodes) || ok != wantOK {
		t.Fatalf("Victims(.., %d) = %d, %q, %v, want %d, %q, %v, of\n%s", id, l, nodes, ok, want, wantNodes, wantOK, show(s))
	}
}

// wantAll holds all calls against the reckonings by hand, and tells whether they say that there are victims, or none are needed.
func wantAll(t *testing.T, s state.State, id uint64) (some, none bool) {
	t.Helper()
	wantFits(t, s, id)
	wantVictims(t, s, id)
	if j := firstByHand(s, id); j != nil && !j.Runs && state.Right(s) {
		wantRoom(t, s, *j)
	}
	l, _, ok := evict.Victims(s, id)
	return ok && len(l) > 0, ok && len(l) == 0
}

// show tells all fields of s, two states alike just if all are the same.
func show(s state.State) string {
	var text strings.Builder
	fmt.Fprintf(&text, "round %d next %d\n", s.Round, s.Next)
	for _, n := range s.Pool.Nodes {
		fmt.Fprintf(&text, "node %q %v %q %v\n", n.Name, n.Cap, n.Labels, n.Up)
	}
	for _, x := range s.Pool.Places {
		fmt.Fprintf(&text, "place %d %q %v\n", x.Job, x.Node, x.V)
	}
	for _, e := range s.Tree {
		fmt.Fprintf(&text, "entry %q %v %v\n", e.Path, e.Limit, e.Used)
	}
	for _, j := range s.Jobs {
		fmt.Fprintf(&text, "job %d %q %v %d %d %d %v %d", j.ID, j.X.Path, j.X.Demand, j.X.Count, j.X.Prio, j.X.Ticks, j.Runs, j.Left)
		for _, term := range j.X.Sel {
			fmt.Fprintf(&text, " %q %v %q", term.Key, term.Not, term.Values)
		}
		text.WriteString("\n")
	}
	fmt.Fprintf(&text, "queue %v\nevents %v\naudit %v\n", s.Queue, s.Events, s.Audit)
	return text.String()
}
