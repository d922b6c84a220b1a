package tests

import (
	"slices"
	"testing"

	"loop.example/g00696/impl"
)

func locksTakenIn(trace []impl.Event) []int {
	var locks []int
	for lock := range 100 {
		if slices.ContainsFunc(trace, func(e impl.Event) bool { return takenBy(e) == lock }) {
			locks = append(locks, lock)
		}
	}
	return locks
}

// orderByWords tells no order where none is left that is free.
func orderByWords(trace []impl.Event) []int {
	left := locksTakenIn(trace)
	pairs := pairsByWords(undersByWords(trace))
	var order []int
	for len(left) > 0 {
		free := -1
		for _, lock := range left {
			taken := slices.ContainsFunc(pairs, func(pair []int) bool { return pair[1] == lock && slices.Contains(left, pair[0]) })
			if !taken {
				free = lock
				break
			}
		}
		if free == -1 {
			return nil
		}
		order = append(order, free)
		left = slices.DeleteFunc(left, func(lock int) bool { return lock == free })
	}
	return order
}

// orderByTrying goes through all lists of the locks, the least first.
func orderByTrying(locks []int, pairs [][]int) []int {
	var found []int
	eachList(len(locks), locks, func(list []int) {
		if found != nil || len(slices.Compact(slices.Sorted(slices.Values(list)))) != len(locks) {
			return
		}
		against := slices.ContainsFunc(pairs, func(pair []int) bool { return slices.Index(list, pair[0]) >= slices.Index(list, pair[1]) })
		if !against {
			found = slices.Clone(list)
		}
	})
	return found
}

func inOrderOf(t *testing.T, trace []impl.Event, want ...int) {
	t.Helper()
	if order, ok := impl.OrderOf(trace); !ok || !slices.Equal(order, want) {
		t.Errorf("OrderOf(%v) %v %v, not %v", trace, order, ok, want)
	}
}

func hasNoOrder(t *testing.T, trace []impl.Event) {
	t.Helper()
	if order, ok := impl.OrderOf(trace); ok || len(order) > 0 {
		t.Errorf("OrderOf(%v) %v %v", trace, order, ok)
	}
}

func TestOrderOfLocks(t *testing.T) {
	inOrderOf(t, nil)
	inOrderOf(t, []impl.Event{})
	// No lock is taken.
	inOrderOf(t, []impl.Event{local(0), gives(0, 4), waits(1, 2, 3), loads(2, 5), eventOf(0, impl.EvSignal, 1, 2, 0)})
	// Locks with none had: by their numbers.
	inOrderOf(t, []impl.Event{takes(0, 3)}, 3)
	inOrderOf(t, []impl.Event{takes(0, 99), takes(1, 7), wakes(2, 50, 0), takes(3, 7), gives(0, 99), takes(0, 98)}, 0, 7, 98, 99)
	// Against their numbers.
	inOrderOf(t, []impl.Event{takes(0, 2), takes(0, 1)}, 2, 1)
	inOrderOf(t, []impl.Event{takes(0, 99), wakes(0, 1, 50), takes(0, 0)}, 99, 50, 0)
	// The least of those that are free first, again and again: a lock is free when the last one ahead of it is gone.
	inOrderOf(t, []impl.Event{takes(0, 5), takes(0, 0), takes(1, 3), takes(2, 4), takes(2, 1)}, 3, 4, 1, 5, 0)
	inOrderOf(t, []impl.Event{takes(0, 3), takes(0, 0), takes(1, 2), takes(1, 0), takes(3, 1)}, 1, 2, 3, 0)
	inOrderOf(t, []impl.Event{takes(0, 6), takes(0, 2), gives(0, 6), takes(0, 9), takes(1, 9), takes(1, 1), takes(2, 4)}, 4, 6, 2, 9, 1)
	// A ring has none; with one of its threads left out it has.
	hasNoOrder(t, inRing(1, 2))
	hasNoOrder(t, inRing(4, 9, 6))
	hasNoOrder(t, append([]impl.Event{takes(0, 50), gives(0, 50)}, inRing(98, 99)...))
	inOrderOf(t, inRing(4, 9, 6)[:8], 4, 9, 6)
	inOrderOf(t, inRing(4, 9, 6)[4:], 9, 6, 4)
	// The locks of a run that was not stuck, and of one that was.
	r, _ := impl.RunThreads(crossed(), []int{0, 0, 1, 1, 1, 1})
	inOrderOf(t, r.Trace, 0, 1)
	r, _ = impl.RunThreads(crossed(), []int{0, 0, 2, 2, 2, 2})
	inOrderOf(t, r.Trace, 1, 0)
	r, _ = impl.RunThreads(crossed(), []int{0, 0, 2, 1})
	inOrderOf(t, r.Trace, 0, 1)
}

func TestOrderOfAllLocks(t *testing.T) {
	var up, down []int
	for i := range 100 {
		up = append(up, i)
		down = append(down, 99-i)
	}
	trace := nested(0, 0, 100)
	inOrderOf(t, trace, up...)
	slices.Reverse(trace)
	inOrderOf(t, trace, down...)
	// Each lock under the one with the next number alone.
	var chain []impl.Event
	for _, lock := range down[:50] {
		chain = append(chain, takes(0, lock), takes(0, lock-1), gives(0, lock), gives(0, lock-1))
	}
	inOrderOf(t, chain, down[:51]...)
}

// holdsOfLocks asks for promise 8, and for all that the document says of a good trace whose locks
// are less than some number. It tells whether there is a circle.
func holdsOfLocks(t *testing.T, trace []impl.Event, locks int) bool {
	t.Helper()
	want := undersByWords(trace)
	hasUnders(t, trace, want...)
	pairs, _ := impl.LockPairs(trace)
	warns(t, trace, cycleByTrying(pairs, locks)...)
	circle, warned := impl.WarnsOf(trace)
	order, ordered := impl.OrderOf(trace)
	taken := locksTakenIn(trace)
	switch {
	case warned == ordered:
		t.Errorf("of %v WarnsOf tells %v %v and OrderOf %v %v", trace, circle, warned, order, ordered)
	case warned:
		hasNoOrder(t, trace)
	default:
		inOrderOf(t, trace, orderByWords(trace)...)
		if !slices.Equal(slices.Sorted(slices.Values(order)), taken) {
			t.Errorf("OrderOf(%v) %v has not each of %v once", trace, order, taken)
		}
	}
	for _, u := range want {
		if ordered && slices.Index(order, u.Had) >= slices.Index(order, u.Taken) {
			t.Errorf("OrderOf(%v) %v goes against %v", trace, order, u)
		}
	}
	if found := orderByTrying(taken, pairs); len(taken) <= 4 && !slices.Equal(found, order) {
		t.Errorf("OrderOf(%v) %v, but the least one is %v", trace, order, found)
	}
	for a := range locks {
		for b := range locks {
			if gate, ok := gateByWords(trace, want, a, b); ok {
				hasGate(t, trace, a, b, gate...)
			} else {
				hasNoGate(t, trace, a, b)
			}
		}
	}
	isGuarded(t, trace, guardedByWords(trace, want)...)
	return warned
}

// rankedTrace has threads that take and give locks, nearly always in one order that is made up first.
func rankedTrace(d *draws, many int, locks int, often int) []impl.Event {
	var ranks []int
	for range locks {
		ranks = append(ranks, d.below(1000))
	}
	var trace []impl.Event
	for len(trace) < many {
		thread, lock := d.below(3), d.below(locks)
		e := takes(thread, lock)
		switch d.below(8) {
		case 0:
			e = wakes(thread, d.below(locks), lock)
		case 1, 2:
			e = gives(thread, lock)
		case 3:
			e = waits(thread, d.below(locks), lock)
		}
		place := len(trace)
		trace = append(trace, e)
		against := slices.ContainsFunc(undersByWords(trace), func(u impl.Under) bool { return u.At == place && ranks[u.Had] >= ranks[u.Taken] })
		if against && d.below(often) > 0 {
			trace[place] = gives(thread, lock)
		}
	}
	return trace
}

func TestLocksOfTracesThatNoRunHas(t *testing.T) {
	d := draws(82)
	round, straight, guarded := 0, 0, 0
	see := func(trace []impl.Event, locks int) {
		if holdsOfLocks(t, trace, locks) {
			round++
		} else if pairs, _ := impl.LockPairs(trace); len(pairs) > 1 {
			straight++
		}
		pairs, _ := impl.WarnsGuarded(trace)
		guarded += len(pairs)
	}
	for range 200 {
		see(madeUpTrace(&d, d.below(60)), 4)
		see(rankedTrace(&d, 5+d.below(30), 4, 30), 4)
		see(rankedTrace(&d, 5+d.below(30), 5, 6), 5)
		see(rankedTrace(&d, 5+d.below(20), 3, 1), 3)
	}
	see(madeUpTrace(&d, impl.MaxBudget), 4)
	if round < 100 || straight < 100 || guarded < 100 {
		t.Error("too few traces with a circle, or with pairs and none, or too few guarded warnings", round, straight, guarded)
	}
}

// TestLocksInOrderOfAllSmallTraces goes through all traces of up to five events, of two threads and two locks.
func TestLocksInOrderOfAllSmallTraces(t *testing.T) {
	events := []impl.Event{takes(0, 0), takes(0, 1), takes(1, 0), wakes(1, 0, 1), gives(0, 0), waits(1, 0, 0)}
	round, all := 0, 0
	eachSmallTrace(5, events, func(trace []impl.Event) {
		all++
		if holdsOfLocks(t, trace, 2) {
			round++
		}
	})
	if round < all/20 || round > 2*all/3 {
		t.Error("too many, or too few, have a circle", round, all)
	}
}

// lockProgs take locks crosswise, in a ring, under a common lock, in one order, and by a wait.
func lockProgs() []impl.Prog {
	return []impl.Prog{
		crossed(),
		written(0, 3, 0, "spawn 1; spawn 2; spawn 3", "lock 0; lock 1; unlock 1; unlock 0", "lock 1; lock 2; unlock 2; unlock 1", "lock 2; lock 0; unlock 0; unlock 2"),
		written(0, 3, 0, "spawn 1; spawn 2", "lock 2; lock 0; lock 1; unlock 1; unlock 0; unlock 2", "lock 2; lock 1; lock 0; unlock 0; unlock 1; unlock 2"),
		written(0, 4, 0, "spawn 1; spawn 2; lock 3; lock 0; unlock 0; unlock 3", "lock 3; lock 1; unlock 3; unlock 1", "lock 1; lock 2; lock 0; unlock 1; unlock 0; unlock 2"),
		written(0, 2, 1, "spawn 1; spawn 2", "lock 0; lock 1; wait 0 0; unlock 0; unlock 1", "lock 0; signal 0; unlock 0"),
	}
}

func TestLocksInOrderOfRuns(t *testing.T) {
	d := draws(83)
	round := make([]int, len(lockProgs()))
	for i, p := range lockProgs() {
		for range 60 {
			r, ok := impl.RunPicks(p, madeUpPicks(&d), impl.MaxBudget)
			if !ok {
				t.Fatal("no run", p)
			}
			if holdsOfLocks(t, r.Trace, impl.MaxLocks) {
				round[i]++
			}
			if guarded, _ := impl.WarnsGuarded(r.Trace); i != 0 && len(guarded) > 0 {
				t.Errorf("of program %d %v is told", i, guarded)
			}
		}
	}
	if round[0] == 0 || round[1] == 0 || round[2] == 0 || round[3] > 0 || round[4] == 0 {
		t.Error("circles in so many runs of each program", round)
	}
	for range 200 {
		r, ok := impl.RunPicks(madeUpProg(&d), madeUpPicks(&d), 60)
		if !ok {
			t.Fatal("no run")
		}
		holdsOfLocks(t, r.Trace, impl.MaxLocks)
	}
	runsOfEachCode(func(_ string, _ impl.Prog, r impl.Run) { holdsOfLocks(t, r.Trace, impl.MaxLocks) })
}
