package pool_test

import (
	"encoding/binary"
	"fmt"
	"math/big"
	"regexp"
	"slices"
	"strings"
	"testing"

	"demesne/api"
	"demesne/label"
	"demesne/pool"
	"demesne/vec"
)

// What the chapter says of each call, reckoned by hand: slowly, and by whole numbers of no bound.

// nameForm is how a name is written.
var nameForm = regexp.MustCompile(`\A[a-zα-ωа-я][a-z0-9α-ωа-я-]{0,15}\z`)

// show tells all fields of p, two pools alike just if all are the same.
func show(p pool.Pool) string {
	var text strings.Builder
	for _, n := range p.Nodes {
		fmt.Fprintf(&text, "node %q %v %q %v\n", n.Name, n.Cap, n.Labels, n.Up)
	}
	for _, x := range p.Places {
		fmt.Fprintf(&text, "place %d %q %v\n", x.Job, x.Node, x.V)
	}
	return text.String()
}

// showNode tells all fields of n.
func showNode(n pool.Node) string { return show(pool.Pool{Nodes: []pool.Node{n}}) }

// firstByHand tells the place of the first node of that Name.
func firstByHand(p pool.Pool, name string) int {
	for i := range p.Nodes {
		if p.Nodes[i].Name == name {
			return i
		}
	}
	return -1
}

// labelsByHand tells whether labels are right.
func labelsByHand(l []label.Pair) bool {
	if len(l) > 8 {
		return false
	}
	for i, x := range l {
		if !nameForm.MatchString(x.Key) || !nameForm.MatchString(x.Value) || i > 0 && l[i-1].Key >= x.Key {
			return false
		}
	}
	return true
}

// addErrnoByHand tells what Add should say.
func addErrnoByHand(p pool.Pool, n pool.Node) api.Errno {
	switch {
	case !nameForm.MatchString(n.Name):
		return api.ErrName
	case !labelsByHand(n.Labels):
		return api.ErrForm
	case firstByHand(p, n.Name) >= 0:
		return api.ErrTwice
	case len(p.Nodes) >= 16:
		return api.ErrFull
	}
	return api.OK
}

// addByHand tells what Add should tell.
func addByHand(p pool.Pool, n pool.Node) (told pool.Pool, also api.Errno) {
	if also = addErrnoByHand(p, n); also != api.OK {
		return p, also
	}
	n.Up = true
	told.Places = p.Places
	put := false
	for _, other := range p.Nodes {
		if !put && other.Name >= n.Name {
			told.Nodes = append(told.Nodes, n)
			put = true
		}
		told.Nodes = append(told.Nodes, other)
	}
	if !put {
		told.Nodes = append(told.Nodes, n)
	}
	return told, api.OK
}

// freeByHand tells the Cap less the sum of what stands there.
func freeByHand(p pool.Pool, name string) (told vec.Vec, ok bool) {
	at := firstByHand(p, name)
	if at < 0 {
		return vec.Vec{}, false
	}
	for kind := range told {
		left := new(big.Int).SetUint64(p.Nodes[at].Cap[kind])
		for _, x := range p.Places {
			if x.Node == name {
				left.Sub(left, new(big.Int).SetUint64(x.V[kind]))
			}
		}
		if left.Sign() < 0 {
			return vec.Vec{}, false
		}
		told[kind] = left.Uint64()
	}
	return told, true
}

// layByHand lays copy by copy, and asks freeByHand anew for each.
func layByHand(p pool.Pool, job uint64, nodes []string, v vec.Vec) (pool.Pool, api.Errno) {
	told := pool.Pool{Nodes: p.Nodes, Places: append([]pool.Place(nil), p.Places...)}
	for _, name := range nodes {
		at := firstByHand(told, name)
		if at < 0 {
			return p, api.ErrNone
		}
		if !told.Nodes[at].Up {
			return p, api.ErrDown
		}
		free, ok := freeByHand(told, name)
		if !ok || v[0] > free[0] || v[1] > free[1] || v[2] > free[2] || v[3] > free[3] {
			return p, api.ErrRoom
		}
		told.Places = append(told.Places, pool.Place{Job: job, Node: name, V: v})
	}
	return told, api.OK
}

// dropByHand tells p without the places of that job.
func dropByHand(p pool.Pool, job uint64) pool.Pool {
	told := pool.Pool{Nodes: p.Nodes}
	for _, x := range p.Places {
		if x.Job != job {
			told.Places = append(told.Places, x)
		}
	}
	return told
}

// ofByHand tells the nodes of the places of that job.
func ofByHand(p pool.Pool, job uint64) (nodes []string) {
	for _, x := range p.Places {
		if x.Job == job {
			nodes = append(nodes, x.Node)
		}
	}
	return nodes
}

// turnByHand tells what Fail, or Mend, should make of p.
func turnByHand(p pool.Pool, name string, up bool) (pool.Pool, api.Errno) {
	at := firstByHand(p, name)
	switch {
	case at < 0:
		return p, api.ErrNone
	case p.Nodes[at].Up == up:
		return p, api.ErrState
	}
	told := pool.Pool{Nodes: append([]pool.Node(nil), p.Nodes...), Places: p.Places}
	told.Nodes[at].Up = up
	return told, api.OK
}

// jobsByHand tells the jobs that stand on that node, by going over and over for the next greater one.
func jobsByHand(p pool.Pool, name string) (jobs []uint64) {
	for {
		var next *uint64
		for i := range p.Places {
			x := &p.Places[i]
			if x.Node == name && (len(jobs) == 0 || x.Job > jobs[len(jobs)-1]) && (next == nil || x.Job < *next) {
				next = &x.Job
			}
		}
		if next == nil {
			return jobs
		}
		jobs = append(jobs, *next)
	}
}

// slotsByHand tells the slots in text.
func slotsByHand(p pool.Pool) (text string) {
	for _, n := range p.Nodes {
		if free, ok := freeByHand(p, n.Name); n.Up && ok {
			text += fmt.Sprintf("%q %v %q\n", n.Name, free, n.Labels)
		}
	}
	return text
}

// showSlots tells all fields of slots.
func showSlots(l []pool.Slot) (text string) {
	for _, x := range l {
		text += fmt.Sprintf("%q %v %q\n", x.Node, x.Free, x.Labels)
	}
	return text
}

// rightByHand asks of each node, and of each place, what the chapter asks.
func rightByHand(p pool.Pool) bool {
	if len(p.Nodes) > 16 {
		return false
	}
	for i, n := range p.Nodes {
		if _, ok := freeByHand(p, n.Name); !ok || !nameForm.MatchString(n.Name) || !labelsByHand(n.Labels) || i > 0 && p.Nodes[i-1].Name >= n.Name {
			return false
		}
	}
	for _, x := range p.Places {
		if firstByHand(p, x.Node) < 0 {
			return false
		}
	}
	return true
}

// putByHand tells the form by the library's numbers.
func putByHand(p pool.Pool) string {
	var form []byte
	number := func(n uint64) { form = binary.AppendUvarint(form, n) }
	text := func(s string) {
		number(uint64(len(s)))
		form = append(form, s...)
	}
	amount := func(v vec.Vec) {
		for _, n := range v {
			number(n)
		}
	}
	number(uint64(len(p.Nodes)))
	for _, n := range p.Nodes {
		text(n.Name)
		amount(n.Cap)
		if labelsByHand(n.Labels) {
			number(uint64(len(n.Labels)))
			for _, x := range n.Labels {
				text(x.Key)
				text(x.Value)
			}
		}
		if n.Up {
			number(1)
		} else {
			number(0)
		}
	}
	number(uint64(len(p.Places)))
	for _, x := range p.Places {
		number(x.Job)
		text(x.Node)
		amount(x.V)
	}
	return string(form)
}

// getByHand reads by the library's numbers, and takes only what putByHand puts just so of what is right.
func getByHand(s string, at int) (pool.Pool, int, bool) {
	if at < 0 || at >= len(s) {
		return pool.Pool{}, 0, false
	}
	left := []byte(s[at:])
	number := func() uint64 {
		n, size := binary.Uvarint(left)
		left = left[max(size, 0):]
		return n
	}
	text := func() string {
		size := min(number(), uint64(len(left)))
		told := string(left[:size])
		left = left[size:]
		return told
	}
	amount := func() vec.Vec { return vec.Vec{number(), number(), number(), number()} }
	var p pool.Pool
	for range min(number(), 17) {
		n := pool.Node{Name: text(), Cap: amount()}
		for range min(number(), 9) {
			n.Labels = append(n.Labels, label.Pair{Key: text(), Value: text()})
		}
		n.Up = number() == 1
		p.Nodes = append(p.Nodes, n)
	}
	for range min(number(), 257) {
		p.Places = append(p.Places, pool.Place{Job: number(), Node: text(), V: amount()})
	}
	if form := putByHand(p); len(p.Places) <= 256 && rightByHand(p) && strings.HasPrefix(s[at:], form) {
		return p, at + len(form), true
	}
	return pool.Pool{}, 0, false
}

// wantPool holds what a call told against a pool and an error.
func wantPool(t *testing.T, what string, got pool.Pool, also api.Errno, want pool.Pool, wantAlso api.Errno) {
	t.Helper()
	if also != wantAlso || show(got) != show(want) {
		t.Fatalf("%s told %d and\n%swant %d and\n%s", what, also, show(got), wantAlso, show(want))
	}
}

// wantLaid holds Lay against layByHand.
func wantLaid(t *testing.T, p pool.Pool, job uint64, nodes []string, v vec.Vec) {
	t.Helper()
	want, wantAlso := layByHand(p, job, nodes, v)
	got, also := pool.Lay(p, job, nodes, v)
	wantPool(t, fmt.Sprintf("Lay(.., %d, %q, %v)", job, nodes, v), got, also, want, wantAlso)
}

// wantAdded holds Add against addByHand.
func wantAdded(t *testing.T, p pool.Pool, n pool.Node) {
	t.Helper()
	want, wantAlso := addByHand(p, n)
	got, also := pool.Add(p, n)
	wantPool(t, "Add of "+showNode(n), got, also, want, wantAlso)
}

// wantNamed asks each call that is handed a node's name.
func wantNamed(t *testing.T, p pool.Pool, name string) {
	t.Helper()
	var found pool.Node
	at := firstByHand(p, name)
	if at >= 0 {
		found = p.Nodes[at]
	}
	if n, ok := pool.Find(p, name); ok != (at >= 0) || showNode(n) != showNode(found) {
		t.Fatalf("Find(.., %q) of\n%s= %v, %v", name, show(p), n, ok)
	}
	free, room := freeByHand(p, name)
	if v, ok := pool.Free(p, name); v != free || ok != room {
		t.Fatalf("Free(.., %q) of\n%s= %v, %v", name, show(p), v, ok)
	}
	want, wantAlso := turnByHand(p, name, false)
	got, jobs, also := pool.Fail(p, name)
	wantPool(t, "Fail of "+name, got, also, want, wantAlso)
	if wantJobs := jobsByHand(p, name); also == api.OK && !slices.Equal(jobs, wantJobs) || also != api.OK && len(jobs) != 0 {
		t.Fatalf("Fail(.., %q) of\n%stold %d", name, show(p), jobs)
	}
	want, wantAlso = turnByHand(p, name, true)
	got, also = pool.Mend(p, name)
	wantPool(t, "Mend of "+name, got, also, want, wantAlso)
}

// wantJob asks each call that is handed a job alone.
func wantJob(t *testing.T, p pool.Pool, job uint64) {
	t.Helper()
	wantPool(t, fmt.Sprint("Drop of ", job), pool.Drop(p, job), api.OK, dropByHand(p, job), api.OK)
	if got := pool.Of(p, job); !slices.Equal(got, ofByHand(p, job)) {
		t.Fatalf("Of(.., %d) of\n%s= %q", job, show(p), got)
	}
}

// wantWhole asks each call that is handed a pool alone, and for its form, both ways.
func wantWhole(t *testing.T, p pool.Pool) {
	t.Helper()
	wantPool(t, "Bare", pool.Bare(p), api.OK, pool.Pool{Nodes: p.Nodes}, api.OK)
	if got := showSlots(pool.Slots(p)); got != slotsByHand(p) {
		t.Fatalf("Slots of\n%s=\n%s", show(p), got)
	}
	if got := pool.Right(p); got != rightByHand(p) {
		t.Fatalf("Right of\n%s= %v", show(p), got)
	}
	if !pool.Same(p, p) {
		t.Fatalf("not Same as itself:\n%s", show(p))
	}
	form := pool.Put(p)
	if form != putByHand(p) {
		t.Fatalf("Put of\n%s= %q", show(p), form)
	}
	wantGetByHand(t, form, 0)
}

// wantGetByHand holds Get against a reading by hand.
func wantGetByHand(t *testing.T, s string, at int) {
	t.Helper()
	want, wantNext, wantOK := getByHand(s, at)
	if got, next, ok := pool.Get(s, at); next != wantNext || ok != wantOK || show(got) != show(want) {
		t.Fatalf("Get(%q, %d) = %d, %v and\n%swant %d, %v and\n%s", s, at, next, ok, show(got), wantNext, wantOK, show(want))
	}
}
