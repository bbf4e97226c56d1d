package pack_test

import (
	"fmt"
	"math/big"
	"slices"
	"strings"
	"testing"

	"demesne/label"
	"demesne/pack"
	"demesne/pool"
	"demesne/sel"
	"demesne/vec"
)

// What the chapter says of each call, reckoned by hand: slowly, and by whole numbers of no bound.

// whole tells u as a whole number of no bound.
func whole(u uint64) *big.Int { return new(big.Int).SetUint64(u) }

// termByHand tells whether the term holds of these labels.
func termByHand(x sel.Term, labels []label.Pair) bool {
	holds := false
	for _, pair := range labels {
		if pair.Key != x.Key {
			continue
		}
		holds = len(x.Values) == 0
		for _, value := range x.Values {
			if value == pair.Value {
				holds = true
			}
		}
		break
	}
	if x.Not {
		return !holds
	}
	return holds
}

// matchByHand tells whether the slot is one that the selector asks for.
func matchByHand(x []sel.Term, s pool.Slot) bool {
	for _, term := range x {
		if !termByHand(term, s.Labels) {
			return false
		}
	}
	return true
}

// holdsByHand tells how many copies have room in free; nil, if it is no matter how many there are.
func holdsByHand(free, demand vec.Vec) (least *big.Int) {
	for kind := range free {
		if demand[kind] == 0 {
			continue
		}
		count := new(big.Int).Div(whole(free[kind]), whole(demand[kind]))
		if least == nil || count.Cmp(least) < 0 {
			least = count
		}
	}
	return least
}

// roomByHand tells the sum as P13.1 says it: each slot's number held against most, and the sum held against it again.
func roomByHand(l []pool.Slot, x []sel.Term, demand vec.Vec, most int) int {
	limit := big.NewInt(int64(max(most, 0)))
	sum := new(big.Int)
	for _, s := range l {
		if !matchByHand(x, s) {
			continue
		}
		count := holdsByHand(s.Free, demand)
		if count == nil || count.Cmp(limit) > 0 {
			count = limit
		}
		sum.Add(sum, count)
	}
	if sum.Cmp(limit) > 0 {
		sum = limit
	}
	return int(sum.Int64())
}

// leftByHand tells what is left of free, each amount in as many digits as all others; nothing, if the demand is not within it.
func leftByHand(free, demand vec.Vec) string {
	var left strings.Builder
	for kind := range free {
		amount := new(big.Int).Sub(whole(free[kind]), whole(demand[kind]))
		if amount.Sign() < 0 {
			return ""
		}
		fmt.Fprintf(&left, "%020d ", amount)
	}
	return left.String()
}

// fitByHand sorts, for each copy, all slots that it may go to by what would be left, and by their places.
func fitByHand(l []pool.Slot, x []sel.Term, demand vec.Vec, count int) (told []string, also bool) {
	if count > 8 {
		return nil, false
	}
	laid := make([]uint64, len(l))
	for copies := 0; copies < count; copies++ {
		var rows []string
		for at, s := range l {
			free := s.Free
			for kind := range free {
				free[kind] -= laid[at] * demand[kind]
			}
			if left := leftByHand(free, demand); left != "" && matchByHand(x, s) {
				rows = append(rows, fmt.Sprintf("%s%09d", left, at))
			}
		}
		if len(rows) == 0 {
			return nil, false
		}
		slices.Sort(rows)
		var at int
		fmt.Sscanf(rows[0][len(rows[0])-9:], "%d", &at)
		laid[at]++
		told = append(told, l[at].Node)
	}
	return told, true
}

// tryAll tells whether so many copies can stand on the slots in any way at all.
func tryAll(l []pool.Slot, x []sel.Term, demand vec.Vec, count int) bool {
	if count <= 0 {
		return true
	}
	for at, s := range l {
		if !matchByHand(x, s) || leftByHand(s.Free, demand) == "" {
			continue
		}
		rest := slices.Clone(l)
		for kind := range demand {
			rest[at].Free[kind] -= demand[kind]
		}
		if tryAll(rest, x, demand, count-1) {
			return true
		}
	}
	return false
}

// show tells all fields of what is handed in, two alike just if all are the same.
func show(l []pool.Slot, x []sel.Term) string {
	var text strings.Builder
	for _, s := range l {
		fmt.Fprintf(&text, "slot %q %v %q\n", s.Node, s.Free, s.Labels)
	}
	for _, term := range x {
		fmt.Fprintf(&text, "term %q %v %q\n", term.Key, term.Not, term.Values)
	}
	return text.String()
}

// wantRoom holds Room against the reckoning by hand, and tells it.
func wantRoom(t *testing.T, l []pool.Slot, x []sel.Term, demand vec.Vec, most int) int {
	t.Helper()
	got, want := pack.Room(l, x, demand, most), roomByHand(l, x, demand, most)
	if got != want {
		t.Fatalf("Room of\n%s%v, %d = %d, want %d", show(l, x), demand, most, got, want)
	}
	return got
}

// wantFit holds Fit against the reckoning by hand, and tells what it says.
func wantFit(t *testing.T, l []pool.Slot, x []sel.Term, demand vec.Vec, count int) bool {
	t.Helper()
	got, also := pack.Fit(l, x, demand, count)
	want, wantAlso := fitByHand(l, x, demand, count)
	if !slices.Equal(got, want) || also != wantAlso {
		t.Fatalf("Fit of\n%s%v, %d = %q, %v, want %q, %v", show(l, x), demand, count, got, also, want, wantAlso)
	}
	return also
}

// wantBoth holds both calls against the reckonings by hand, and against one another (P13.3).
func wantBoth(t *testing.T, l []pool.Slot, x []sel.Term, demand vec.Vec, count int) {
	t.Helper()
	room, fits := wantRoom(t, l, x, demand, count), wantFit(t, l, x, demand, count)
	if count >= 0 && count <= 8 && fits != (room == count) {
		t.Fatalf("Room of\n%s%v, %d = %d, but Fit says %v", show(l, x), demand, count, room, fits)
	}
}
