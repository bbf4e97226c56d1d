package queue_test

import (
	"fmt"
	"slices"
	"strings"
	"testing"

	"demesne/api"
	"demesne/queue"
)

// What the chapter says of each call, reckoned by hand: entry by entry, or by sorting what would be written.

// show tells all fields of q, two queues alike just if all are the same.
func show(q []queue.Entry) string {
	var text strings.Builder
	for _, e := range q {
		fmt.Fprintf(&text, "(%d, %d) ", e.ID, e.Prio)
	}
	return text.String()
}

// turnByHand tells a text that is the less the sooner the turn of one comes who may wait.
func turnByHand(e queue.Entry) string {
	return fmt.Sprintf("%d %020d", 9-e.Prio, e.ID)
}

// aheadByHand asks the second of two questions only where the first one leaves it open.
func aheadByHand(a, b queue.Entry) bool {
	if a.Prio > b.Prio {
		return true
	}
	return a.Prio == b.Prio && a.ID < b.ID
}

// placeByHand counts those ahead of the first one of that ID.
func placeByHand(q []queue.Entry, id uint64) int {
	for at := 0; at < len(q); at++ {
		if q[at].ID == id {
			return at
		}
	}
	return -1
}

// pushErrnoByHand tells what Push should say.
func pushErrnoByHand(q []queue.Entry, e queue.Entry) api.Errno {
	if e.Prio < 0 || e.Prio > 9 {
		return 1
	}
	for _, other := range q {
		if other.ID == e.ID {
			return 8
		}
	}
	if len(q) >= 32 {
		return 9
	}
	return 0
}

// pushByHand tells what Push should tell.
func pushByHand(q []queue.Entry, e queue.Entry) (told []queue.Entry, also api.Errno) {
	if also = pushErrnoByHand(q, e); also != 0 {
		return append(told, q...), also
	}
	stands := false
	for _, next := range q {
		if !stands && aheadByHand(e, next) {
			told = append(told, e)
			stands = true
		}
		told = append(told, next)
	}
	if !stands {
		told = append(told, e)
	}
	return told, 0
}

// takeByHand tells what Take should tell.
func takeByHand(q []queue.Entry, id uint64) (told []queue.Entry, also bool) {
	for _, e := range q {
		if e.ID == id && !also {
			also = true
			continue
		}
		told = append(told, e)
	}
	return told, also
}

// rightByHand sorts what each one's turn is written as, and asks whether all stand so already.
func rightByHand(q []queue.Entry) bool {
	var turns []string
	ids := map[uint64]int{}
	for _, e := range q {
		if e.Prio < 0 || e.Prio > 9 {
			return false
		}
		turns = append(turns, turnByHand(e))
		ids[e.ID]++
	}
	sorted := slices.Sorted(slices.Values(turns))
	return len(q) <= 32 && len(ids) == len(q) && slices.Equal(turns, sorted)
}

// wantPush holds Push against the reckoning by hand, and tells what it tells.
func wantPush(t *testing.T, q []queue.Entry, e queue.Entry) ([]queue.Entry, api.Errno) {
	t.Helper()
	got, also := queue.Push(q, e)
	want, wantAlso := pushByHand(q, e)
	if !slices.Equal(got, want) || also != wantAlso {
		t.Fatalf("Push(%s, %v) = %s, %d, want %s, %d", show(q), e, show(got), also, show(want), wantAlso)
	}
	if queue.Right(q) && !queue.Right(got) {
		t.Fatalf("Push(%s, %v) = %s, which is not right", show(q), e, show(got))
	}
	return got, also
}

// wantTake holds Take against the reckoning by hand, and tells what it tells.
func wantTake(t *testing.T, q []queue.Entry, id uint64) ([]queue.Entry, bool) {
	t.Helper()
	got, also := queue.Take(q, id)
	want, wantAlso := takeByHand(q, id)
	if !slices.Equal(got, want) || also != wantAlso {
		t.Fatalf("Take(%s, %d) = %s, %v, want %s, %v", show(q), id, show(got), also, show(want), wantAlso)
	}
	if queue.Right(q) && !queue.Right(got) {
		t.Fatalf("Take(%s, %d) = %s, which is not right", show(q), id, show(got))
	}
	return got, also
}

// wantPlace holds Place against the reckoning by hand.
func wantPlace(t *testing.T, q []queue.Entry, id uint64) {
	t.Helper()
	if got, want := queue.Place(q, id), placeByHand(q, id); got != want {
		t.Fatalf("Place(%s, %d) = %d, want %d", show(q), id, got, want)
	}
}

// wantRight holds Right against the reckoning by hand.
func wantRight(t *testing.T, q []queue.Entry) {
	t.Helper()
	if got, want := queue.Right(q), rightByHand(q); got != want {
		t.Fatalf("Right(%s) = %v, want %v", show(q), got, want)
	}
}

// wantBack takes one of that ID and lets it come back: where it stood, if q is right (P14.4).
func wantBack(t *testing.T, q []queue.Entry, id uint64) {
	t.Helper()
	without, ok := wantTake(t, q, id)
	if !ok {
		return
	}
	gone := q[placeByHand(q, id)]
	back, errno := wantPush(t, without, gone)
	if queue.Right(q) && (errno != api.OK || !slices.Equal(back, q)) {
		t.Fatalf("%v comes back to %s as %s, %d", gone, show(q), show(back), errno)
	}
}

// wantAll holds all calls with q, e and its ID against the reckonings by hand.
func wantAll(t *testing.T, q []queue.Entry, e queue.Entry) {
	t.Helper()
	wantRight(t, q)
	wantPlace(t, q, e.ID)
	wantBack(t, q, e.ID)
	if got, errno := wantPush(t, q, e); errno == api.OK {
		wantPlace(t, got, e.ID)
		wantRight(t, got)
	}
}
