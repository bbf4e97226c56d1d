package queue_test

import (
	"math"
	"math/rand"
	"slices"
	"sync"
	"testing"
	"time"

	"demesne/api"
	"demesne/queue"
)

// entry tells one of that ID, of that Prio.
func entry(id uint64, prio int) queue.Entry { return queue.Entry{ID: id, Prio: prio} }

// prios are all that a job may have.
func prios() (l []int) {
	for prio := 0; prio <= api.MaxPrio; prio++ {
		l = append(l, prio)
	}
	return l
}

// wrongPrios are none that a job may have; some are right, were they cut to fewer bits.
func wrongPrios() []int {
	return []int{-1, -2, -9, -10, api.MaxPrio + 1, api.MaxPrio + 2, 16, 100, 255, 256, 257, math.MaxInt32, math.MinInt32, 1 << 32, 1<<32 + 5, 1 << 62, -1 << 62, math.MaxInt, math.MinInt, math.MinInt + 5}
}

// idsOfEdges are about the edges of 64 bits.
func idsOfEdges() []uint64 {
	return []uint64{0, 1, 2, 255, 256, math.MaxInt32, math.MaxInt32 + 1, math.MaxUint32, math.MaxUint32 + 1, math.MaxInt64 - 1, math.MaxInt64, math.MaxInt64 + 1, math.MaxInt64 + 2, math.MaxUint64 - 1, math.MaxUint64}
}

// filled tells a right queue of so many, of IDs 2, 4, 6 .., of Prio 9 to 0.
func filled(count int) (q []queue.Entry) {
	for at := range count {
		q = append(q, entry(uint64(2*at+2), 9-at*10/count))
	}
	return q
}

// sample tells a right queue.
func sample() []queue.Entry {
	return []queue.Entry{entry(9, 7), entry(4, 3), entry(5, 3), entry(8, 3), entry(2, 0), entry(math.MaxUint64, 0)}
}

// wantQueue asks for these IDs, in this order.
func wantQueue(t *testing.T, q []queue.Entry, ids ...uint64) {
	t.Helper()
	var got []uint64
	for _, e := range q {
		got = append(got, e.ID)
	}
	if !slices.Equal(got, ids) {
		t.Errorf("there wait %s, want %d", show(q), ids)
	}
}

// The chapter's example.
func TestExample(t *testing.T) {
	got, errno := queue.Push([]queue.Entry{entry(5, 3)}, entry(4, 3))
	if !slices.Equal(got, []queue.Entry{entry(4, 3), entry(5, 3)}) || errno != api.OK {
		t.Errorf("Push = %s, %d", show(got), errno)
	}
}

// P14.1: the greater Prio is ahead; of one Prio the lesser ID; no one is ahead of themselves.
func TestAhead(t *testing.T) {
	for _, c := range []struct {
		a, b queue.Entry
		want bool
	}{
		{entry(9, 2), entry(1, 1), true}, {entry(1, 1), entry(9, 2), false},
		{entry(1, 2), entry(9, 1), true}, {entry(9, 1), entry(1, 2), false},
		{entry(1, 1), entry(2, 1), true}, {entry(2, 1), entry(1, 1), false}, {entry(1, 1), entry(1, 1), false},
		{entry(1, 2), entry(1, 1), true}, {entry(1, 1), entry(1, 2), false},
		{entry(0, 0), entry(0, 0), false}, {entry(0, 0), entry(1, 0), true}, {entry(0, 9), entry(0, 0), true},
		{entry(math.MaxInt64, 0), entry(math.MaxInt64+1, 0), true}, {entry(math.MaxUint64, 0), entry(0, 0), false}, {entry(0, 0), entry(math.MaxUint64, 0), true},
		{entry(0, math.MaxInt), entry(0, math.MinInt), true}, {entry(0, math.MinInt), entry(0, math.MaxInt), false}, {entry(0, 0), entry(0, math.MinInt), true}, {entry(0, -1), entry(0, 0), false},
		{entry(0, 10), entry(0, 9), true}, {entry(5, -3), entry(4, -3), false}, {entry(4, -3), entry(5, -3), true},
	} {
		if got := queue.Ahead(c.a, c.b); got != c.want {
			t.Errorf("Ahead(%v, %v) = %v", c.a, c.b, got)
		}
	}
}

// P14.1: of any two that differ just one is ahead, and who is ahead of one is ahead of all behind it.
func TestAheadIsAnOrder(t *testing.T) {
	var all []queue.Entry
	for _, id := range idsOfEdges() {
		for _, prio := range []int{math.MinInt, -1, 0, 1, 9, 10, math.MaxInt} {
			all = append(all, entry(id, prio))
		}
	}
	for _, a := range all {
		for _, b := range all {
			if got := queue.Ahead(a, b); got != aheadByHand(a, b) || a != b && got == queue.Ahead(b, a) || a == b && got {
				t.Fatalf("Ahead(%v, %v) = %v", a, b, got)
			}
			for _, c := range all {
				if queue.Ahead(a, b) && queue.Ahead(b, c) && !queue.Ahead(a, c) {
					t.Fatalf("%v is ahead of %v, and that of %v", a, b, c)
				}
			}
		}
	}
}

// P14.1: who comes stands behind all of greater Prio, and of their own Prio behind all of lesser IDs.
func TestPush(t *testing.T) {
	for _, c := range []struct {
		e    queue.Entry
		want []uint64
	}{
		{entry(1, 9), []uint64{1, 9, 4, 5, 8, 2, math.MaxUint64}},
		{entry(10, 8), []uint64{10, 9, 4, 5, 8, 2, math.MaxUint64}},
		{entry(1, 7), []uint64{1, 9, 4, 5, 8, 2, math.MaxUint64}},
		{entry(10, 7), []uint64{9, 10, 4, 5, 8, 2, math.MaxUint64}},
		{entry(10, 4), []uint64{9, 10, 4, 5, 8, 2, math.MaxUint64}},
		{entry(3, 3), []uint64{9, 3, 4, 5, 8, 2, math.MaxUint64}},
		{entry(6, 3), []uint64{9, 4, 5, 6, 8, 2, math.MaxUint64}},
		{entry(10, 3), []uint64{9, 4, 5, 8, 10, 2, math.MaxUint64}},
		{entry(0, 2), []uint64{9, 4, 5, 8, 0, 2, math.MaxUint64}},
		{entry(10, 1), []uint64{9, 4, 5, 8, 10, 2, math.MaxUint64}},
		{entry(0, 0), []uint64{9, 4, 5, 8, 0, 2, math.MaxUint64}},
		{entry(3, 0), []uint64{9, 4, 5, 8, 2, 3, math.MaxUint64}},
		{entry(math.MaxUint64-1, 0), []uint64{9, 4, 5, 8, 2, math.MaxUint64 - 1, math.MaxUint64}},
	} {
		got, errno := wantPush(t, sample(), c.e)
		wantQueue(t, got, c.want...)
		if at := placeByHand(got, c.e.ID); errno != api.OK || got[at] != c.e {
			t.Errorf("Push(%v) = %s, %d", c.e, show(got), errno)
		}
	}
	for _, none := range [][]queue.Entry{nil, {}} {
		for _, prio := range prios() {
			for _, id := range idsOfEdges() {
				if got, errno := queue.Push(none, entry(id, prio)); !slices.Equal(got, []queue.Entry{entry(id, prio)}) || errno != api.OK {
					t.Errorf("Push to none = %s, %d", show(got), errno)
				}
			}
		}
	}
}

// wantErrno asks for that error, beside the queue as it was.
func wantErrno(t *testing.T, q []queue.Entry, e queue.Entry, want api.Errno) {
	t.Helper()
	was := slices.Clone(q)
	if got, errno := queue.Push(q, e); errno != want || !slices.Equal(got, was) || !slices.Equal(q, was) {
		t.Errorf("Push(%s, %v) = %s, %d, want %d", show(was), e, show(got), errno, want)
	}
}

// P14.1: a Prio that no job may have is ErrArg, ahead of all other errors.
func TestPushOfWrongPrio(t *testing.T) {
	for _, prio := range wrongPrios() {
		for _, id := range []uint64{0, 1, 9, math.MaxUint64} {
			for _, q := range [][]queue.Entry{nil, {}, sample(), filled(31), filled(32), filled(33), {entry(id, prio)}} {
				wantErrno(t, q, entry(id, prio), api.ErrArg)
			}
		}
	}
	for _, prio := range prios() {
		if _, errno := wantPush(t, sample(), entry(1, prio)); errno != api.OK {
			t.Errorf("Push of Prio %d = %d", prio, errno)
		}
	}
}

// P14.1: an ID that is there, at whatever place and of whatever Prio, is ErrTwice, also where the queue is full.
func TestPushOfOneThatIsThere(t *testing.T) {
	for _, prio := range prios() {
		for _, q := range [][]queue.Entry{sample(), filled(1), filled(31), filled(32), filled(33), {entry(3, -1), entry(4, 99), entry(3, 5)}} {
			for _, e := range q {
				wantErrno(t, q, entry(e.ID, prio), api.ErrTwice)
			}
		}
	}
	wantErrno(t, []queue.Entry{entry(0, 0)}, entry(0, 0), api.ErrTwice)
	if _, errno := wantPush(t, []queue.Entry{entry(1<<32, 0)}, entry(0, 0)); errno != api.OK {
		t.Errorf("Push = %d", errno)
	}
}

// P14.1: where there are MaxQueue, or more, it is ErrFull; where there is one less, there is room for one.
func TestPushToFull(t *testing.T) {
	for _, count := range []int{api.MaxQueue, api.MaxQueue + 1, api.MaxQueue + 2, 64, 256, 100000} {
		for _, e := range []queue.Entry{entry(1, 0), entry(0, 9), entry(1, 5), entry(math.MaxUint64, 0)} {
			wantErrno(t, filled(count), e, api.ErrFull)
		}
	}
	for _, prio := range prios() {
		got, errno := wantPush(t, filled(api.MaxQueue-1), entry(21, prio))
		if errno != api.OK || len(got) != api.MaxQueue {
			t.Errorf("Push = %d, of %d", errno, len(got))
		}
		wantErrno(t, got, entry(23, prio), api.ErrFull)
	}
}

// P14.1: where the queue is in no order, it is the first one of all who is asked, not any other.
func TestPushToNoOrder(t *testing.T) {
	for _, c := range []struct {
		q    []queue.Entry
		e    queue.Entry
		want []uint64
	}{
		{[]queue.Entry{entry(1, 0), entry(2, 9), entry(3, 0)}, entry(4, 5), []uint64{4, 1, 2, 3}},
		{[]queue.Entry{entry(1, 9), entry(2, 0), entry(3, 9), entry(5, 0)}, entry(4, 5), []uint64{1, 4, 2, 3, 5}},
		{[]queue.Entry{entry(9, 3), entry(7, 3), entry(8, 3)}, entry(6, 3), []uint64{6, 9, 7, 8}},
		{[]queue.Entry{entry(1, 3), entry(7, 3), entry(2, 3)}, entry(6, 3), []uint64{1, 6, 7, 2}},
		{[]queue.Entry{entry(1, 99), entry(2, -1), entry(3, 99)}, entry(6, 0), []uint64{1, 6, 2, 3}},
		{[]queue.Entry{entry(1, 99), entry(2, 10), entry(3, 99)}, entry(6, 9), []uint64{1, 2, 3, 6}},
		{[]queue.Entry{entry(1, 3), entry(1, 3), entry(1, 2)}, entry(2, 3), []uint64{1, 1, 2, 1}},
	} {
		got, errno := wantPush(t, c.q, c.e)
		if errno != api.OK {
			t.Errorf("Push = %d", errno)
		}
		wantQueue(t, got, c.want...)
	}
}

// P14.2: who is taken is gone, and all others stay in their order; who is not there is not taken.
func TestTake(t *testing.T) {
	for _, c := range []struct {
		id   uint64
		want []uint64
	}{
		{9, []uint64{4, 5, 8, 2, math.MaxUint64}}, {4, []uint64{9, 5, 8, 2, math.MaxUint64}}, {5, []uint64{9, 4, 8, 2, math.MaxUint64}},
		{8, []uint64{9, 4, 5, 2, math.MaxUint64}}, {2, []uint64{9, 4, 5, 8, math.MaxUint64}}, {math.MaxUint64, []uint64{9, 4, 5, 8, 2}},
	} {
		got, ok := wantTake(t, sample(), c.id)
		if !ok || !queue.Right(got) {
			t.Errorf("Take(%d) = %s, %v", c.id, show(got), ok)
		}
		wantQueue(t, got, c.want...)
	}
	for _, id := range []uint64{0, 1, 3, 7, 10, 1<<32 + 9, 1 << 63, math.MaxUint64 - 1, math.MaxInt64, math.MaxUint32} {
		for _, q := range [][]queue.Entry{nil, {}, sample(), sample()[:1]} {
			if got, ok := queue.Take(q, id); ok || !slices.Equal(got, q) {
				t.Errorf("Take(%s, %d) = %s, %v", show(q), id, show(got), ok)
			}
		}
	}
	if got, ok := queue.Take([]queue.Entry{entry(0, 0)}, 0); len(got) != 0 || !ok {
		t.Errorf("Take of the last = %s, %v", show(got), ok)
	}
}

// P14.2: of several of one ID the first is taken, and told, whatever its Prio is.
func TestFirstOfSeveral(t *testing.T) {
	q := []queue.Entry{entry(1, 0), entry(2, -5), entry(1, 9), entry(2, 99), entry(2, 3)}
	got, ok := wantTake(t, q, 2)
	if want := []queue.Entry{entry(1, 0), entry(1, 9), entry(2, 99), entry(2, 3)}; !slices.Equal(got, want) || !ok {
		t.Errorf("Take = %s, %v", show(got), ok)
	}
	if at := queue.Place(q, 2); at != 1 {
		t.Errorf("Place = %d", at)
	}
	for id := range uint64(4) {
		for q := q; ; {
			wantPlace(t, q, id)
			if q, ok = wantTake(t, q, id); !ok {
				break
			}
		}
	}
}

// P14.2: Place tells how many stand ahead; -1 of one that is not there.
func TestPlace(t *testing.T) {
	for _, count := range []int{0, 1, 2, 31, 32, 33, 1000} {
		q := filled(count)
		for at, e := range q {
			if got := queue.Place(q, e.ID); got != at {
				t.Errorf("Place(%d) = %d, want %d", e.ID, got, at)
			}
		}
		for _, id := range []uint64{0, 1, 3, 5, uint64(2*count + 2), math.MaxUint64, 1<<63 + 2, 1<<32 + 2} {
			if got := queue.Place(q, id); got != -1 {
				t.Errorf("Place(%d) = %d", id, got)
			}
		}
	}
	if got := queue.Place(nil, 0); got != -1 {
		t.Errorf("Place = %d", got)
	}
}

// P14.3: which queues are right.
func TestRight(t *testing.T) {
	for _, q := range [][]queue.Entry{nil, {}, {entry(0, 0)}, {entry(0, 9)}, {entry(math.MaxUint64, 9)}, sample(), filled(31), filled(32), {entry(math.MaxInt64, 0), entry(math.MaxInt64+1, 0)}, {entry(2, 9), entry(1, 8), entry(0, 7)}} {
		if !queue.Right(q) {
			t.Errorf("Right(%s) says no", show(q))
		}
		wantRight(t, q)
	}
	for _, q := range [][]queue.Entry{
		{entry(2, 0), entry(1, 0)}, {entry(1, 0), entry(2, 1)}, {entry(1, 0), entry(1, 0)}, {entry(1, 0), entry(1, 1)}, {entry(0, 0), entry(0, 0)},
		{entry(1, 2), entry(1, 1)}, {entry(1, 9), entry(1, 0)}, {entry(5, 9), entry(7, 8), entry(5, 7)}, {entry(1, 9), entry(2, 9), entry(3, 8), entry(2, 7)}, {entry(math.MaxUint64, 3), entry(math.MaxUint64, 2)},
		{entry(1, 9), entry(2, 8), entry(4, 7), entry(3, 7)}, {entry(2, 9), entry(1, 9), entry(3, 8)}, {entry(1, 8), entry(2, 9), entry(3, 7)}, {entry(1, 9), entry(2, 7), entry(3, 8)},
		{entry(math.MaxInt64+1, 0), entry(math.MaxInt64, 0)}, filled(33), filled(34), filled(64), filled(1000),
	} {
		if queue.Right(q) {
			t.Errorf("Right(%s) says yes", show(q))
		}
		wantRight(t, q)
	}
}

// P14.3: each Prio is asked, the first and the last one too.
func TestRightAsksEachPrio(t *testing.T) {
	for _, prio := range wrongPrios() {
		for _, q := range [][]queue.Entry{{entry(1, prio)}, {entry(1, 5), entry(2, prio)}, {entry(1, prio), entry(2, 5)}, {entry(1, 10), entry(2, prio), entry(3, -1)}, {entry(1, 9), entry(2, prio), entry(3, 0)}} {
			if queue.Right(q) {
				t.Errorf("Right(%s) says yes", show(q))
			}
		}
	}
	for _, prio := range prios() {
		if !queue.Right([]queue.Entry{entry(1, prio)}) {
			t.Errorf("Right says no of Prio %d", prio)
		}
	}
	for at := range api.MaxQueue {
		q := filled(api.MaxQueue)
		q[at].Prio = 10
		if queue.Right(q) {
			t.Errorf("Right(%s) says yes", show(q))
		}
		q[at].Prio = -1
		if queue.Right(q) {
			t.Errorf("Right(%s) says yes", show(q))
		}
	}
}

// P14.3: no ID is there twice, however far the two stand from one another.
func TestRightAsksEachID(t *testing.T) {
	for first := range api.MaxQueue {
		for second := range first {
			q := filled(api.MaxQueue)
			q[first].ID = q[second].ID
			if queue.Right(q) {
				t.Errorf("Right(%s) says yes", show(q))
			}
			wantRight(t, q)
			q = filled(api.MaxQueue)
			q[first], q[second] = q[second], q[first]
			if queue.Right(q) {
				t.Errorf("Right(%s) says yes", show(q))
			}
		}
	}
}

// eachList hands to do all lists of at most so many of the items.
func eachList[Item any](items []Item, most int, do func(l []Item)) {
	var grow func(l []Item)
	grow = func(l []Item) {
		do(l)
		if len(l) == most {
			return
		}
		for _, item := range items {
			grow(append(l[:len(l):len(l)], item))
		}
	}
	grow(nil)
}

// P14.1 to P14.4: all lists of up to four of some entries, right or not, and all that are pushed and taken.
func TestAllSmall(t *testing.T) {
	var some []queue.Entry
	for _, id := range []uint64{0, 1, 2} {
		for _, prio := range []int{-1, 0, 9, 10} {
			some = append(some, entry(id, prio))
		}
	}
	eachList(some, 4, func(q []queue.Entry) {
		for _, e := range some {
			wantAll(t, q, e)
		}
		wantAll(t, q, entry(3, 5))
	})
}

// eachOrder hands to do all orders of the items.
func eachOrder(items []queue.Entry, do func(l []queue.Entry)) {
	var grow func(l, rest []queue.Entry)
	grow = func(l, rest []queue.Entry) {
		if len(rest) == 0 {
			do(l)
		}
		for at := range rest {
			others := append(slices.Clone(rest[:at]), rest[at+1:]...)
			grow(append(l[:len(l):len(l)], rest[at]), others)
		}
	}
	grow(nil, items)
}

// P14.4: in whatever order they come, they stand as they should.
func TestWhateverOrder(t *testing.T) {
	eachOrder(sample(), func(l []queue.Entry) {
		var q []queue.Entry
		for _, e := range l {
			q, _ = wantPush(t, q, e)
		}
		if !slices.Equal(q, sample()) {
			t.Fatalf("pushed as %s: %s", show(l), show(q))
		}
	})
}

// P14.4: who comes back stands where they would stand, had they never gone, whoever came and went meanwhile.
func TestComesBack(t *testing.T) {
	chance := rand.New(rand.NewSource(14))
	for range 3000 {
		var q, never []queue.Entry
		gone := entry(uint64(chance.Intn(60)), chance.Intn(10))
		for range chance.Intn(30) {
			q, _ = wantPush(t, q, entry(uint64(chance.Intn(60)), chance.Intn(10)))
		}
		q, _ = wantTake(t, q, gone.ID)
		never, errno := wantPush(t, q, gone)
		if errno != api.OK {
			t.Fatalf("Push(%s, %v) = %d", show(q), gone, errno)
		}
		for range chance.Intn(20) {
			e := entry(uint64(chance.Intn(60)), chance.Intn(10))
			if e.ID == gone.ID {
				continue
			}
			if _, ok := wantTake(t, q, e.ID); ok || len(never) == api.MaxQueue {
				q, _ = wantTake(t, q, e.ID)
				never, _ = wantTake(t, never, e.ID)
				continue
			}
			q, _ = wantPush(t, q, e)
			never, _ = wantPush(t, never, e)
		}
		if back, errno := wantPush(t, q, gone); errno != api.OK || !slices.Equal(back, never) {
			t.Fatalf("%v comes back to %s as %s, %d", gone, show(never), show(back), errno)
		}
	}
}

// P14.1 to P14.4: many come and go; the queue is right at all times, and each stands at the place that was told.
func TestLongRun(t *testing.T) {
	chance := rand.New(rand.NewSource(4))
	edges := idsOfEdges()
	full, twice := 0, 0
	var q []queue.Entry
	for range 60000 {
		e := entry(uint64(chance.Intn(70)), chance.Intn(10))
		if chance.Intn(5) == 0 {
			e.ID = edges[chance.Intn(len(edges))]
		}
		if chance.Intn(50) == 0 {
			e.Prio = wrongPrios()[chance.Intn(len(wrongPrios()))]
		}
		wantAll(t, q, e)
		if chance.Intn(3) == 0 {
			q, _ = queue.Take(q, e.ID)
			continue
		}
		next, errno := queue.Push(q, e)
		if errno == api.ErrFull {
			full++
		}
		if errno == api.ErrTwice {
			twice++
		}
		q = next
		if !queue.Right(q) {
			t.Fatalf("%s is not right", show(q))
		}
	}
	if full < 1000 || twice < 1000 {
		t.Errorf("full %d times, twice %d times", full, twice)
	}
}

// spared tells q with room behind it, in which what stands must stay.
func spared(q []queue.Entry) []queue.Entry {
	return append(slices.Clone(q), slices.Repeat([]queue.Entry{entry(77, 7)}, 9)...)[:len(q)]
}

// questions ask all calls, with and without errors.
func questions() []queue.Entry {
	return []queue.Entry{entry(0, 0), entry(1, 9), entry(3, 3), entry(5, 3), entry(9, 0), entry(math.MaxUint64, 5), entry(6, 10), entry(6, -1), entry(77, 7)}
}

// queues are some of all sorts.
func queues() [][]queue.Entry {
	return [][]queue.Entry{nil, {}, {entry(5, 3)}, sample(), filled(31), filled(32), filled(33), {entry(1, 0), entry(2, 9), entry(1, -1)}}
}

// Nothing that is handed in is written into, nor what stands behind it in its array.
func TestArgumentsStay(t *testing.T) {
	for _, q := range queues() {
		for _, e := range questions() {
			q := spared(q)
			behind := q[:cap(q)]
			was := slices.Clone(behind)
			queue.Push(q, e)
			queue.Take(q, e.ID)
			queue.Place(q, e.ID)
			queue.Right(q)
			if !slices.Equal(behind, was) {
				t.Fatalf("was %s, now %s", show(was), show(behind))
			}
		}
	}
}

// What is told is memory of its own, also beside an error, or beside false: whoever writes into it turns nothing else.
func TestAnswersAreNew(t *testing.T) {
	spoil := func(q []queue.Entry) {
		q = q[:cap(q)]
		for at := range q {
			q[at] = entry(66, 6)
		}
	}
	for _, q := range queues() {
		for _, e := range questions() {
			q := spared(q)
			was := slices.Clone(q[:cap(q)])
			pushed, _ := queue.Push(q, e)
			again, _ := queue.Push(q, e)
			left, _ := queue.Take(q, e.ID)
			leftAgain, _ := queue.Take(q, e.ID)
			spoil(pushed)
			spoil(left)
			want, _ := pushByHand(was[:len(q)], e)
			wantLeft, _ := takeByHand(was[:len(q)], e.ID)
			if !slices.Equal(q[:cap(q)], was) || !slices.Equal(again, want) || !slices.Equal(leftAgain, wantLeft) {
				t.Fatalf("turned: %s, %s, %s", show(q[:cap(q)]), show(again), show(leftAgain))
			}
		}
	}
}

// What is told hangs on the arguments alone: not on what was asked ahead, nor on who asks at the same time.
func TestToldAgain(t *testing.T) {
	var group sync.WaitGroup
	all := queues()
	for worker := range 8 {
		group.Go(func() {
			for round := range 400 {
				q, e := all[(worker+round)%len(all)], questions()[(worker*round)%len(questions())]
				got, errno := queue.Push(q, e)
				want, wantErrno := pushByHand(q, e)
				left, ok := queue.Take(q, e.ID)
				wantLeft, wantOK := takeByHand(q, e.ID)
				if !slices.Equal(got, want) || errno != wantErrno || !slices.Equal(left, wantLeft) || ok != wantOK {
					t.Errorf("Push(%s, %v) = %s, %d; Take: %s, %v", show(q), e, show(got), errno, show(left), ok)
				}
			}
		})
	}
	group.Wait()
}

// Many who wait: each call comes to its end soon.
func TestMany(t *testing.T) {
	begin := time.Now()
	const count = 3000000
	q := make([]queue.Entry, 0, count)
	for id := range uint64(count) {
		q = append(q, entry(id, 5))
	}
	if got, errno := queue.Push(q, entry(count, 5)); errno != api.ErrFull || len(got) != count {
		t.Errorf("Push = %d", errno)
	}
	if got, errno := queue.Push(q, entry(count-1, 5)); errno != api.ErrTwice || len(got) != count {
		t.Errorf("Push = %d", errno)
	}
	if got, ok := queue.Take(q, count-1); len(got) != count-1 || got[count-2].ID != count-2 || !ok {
		t.Errorf("Take = %v, %d left", ok, len(got))
	}
	if got := queue.Place(q, count-1); got != count-1 {
		t.Errorf("Place = %d", got)
	}
	if queue.Right(q) {
		t.Error("Right says yes")
	}
	if spent := time.Since(begin); spent > 20*time.Second {
		t.Errorf("it took %v", spent)
	}
}

// FuzzCalls holds all calls against the reckonings by hand.
func FuzzCalls(f *testing.F) {
	f.Add(uint64(5), 3, []byte{5, 3, 4, 3, 9, 7, 1, 0})
	f.Add(uint64(math.MaxUint64), 9, []byte{1, 9, 2, 8, 3, 7, 255, 6})
	f.Add(uint64(1), math.MinInt, []byte{1, 255, 1, 0, 2, 10})
	f.Add(uint64(0), 10, []byte{})
	f.Fuzz(func(t *testing.T, id uint64, prio int, shape []byte) {
		var q, right []queue.Entry
		for at := 0; at+1 < len(shape); at += 2 {
			e := entry(uint64(int8(shape[at])), int(int8(shape[at+1])))
			q = append(q, e)
			right, _ = wantPush(t, right, entry(e.ID, int(shape[at+1]%10)))
		}
		for _, e := range []queue.Entry{entry(id, prio), entry(id, int(uint(prio)%10)), entry(id%8, prio), entry(id%8, int(uint(prio)%10))} {
			wantAll(t, q, e)
			wantAll(t, right, e)
		}
	})
}
