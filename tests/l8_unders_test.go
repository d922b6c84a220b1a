package tests

import (
	"slices"
	"testing"

	"loop.example/g00696/impl"
)

// takenBy tells the lock that an event takes, or -1.
func takenBy(e impl.Event) int {
	switch e.Kind {
	case impl.EvLock:
		return e.Obj
	case impl.EvWake:
		return e.Lock
	}
	return -1
}

// hadAhead looks back from a place for the last event of its thread that takes or gives a lock.
func hadAhead(trace []impl.Event, place int, lock int) bool {
	for _, e := range slices.Backward(trace[:place]) {
		if e.Thread != trace[place].Thread {
			continue
		}
		if takenBy(e) == lock {
			return true
		}
		if e.Kind == impl.EvUnlock && e.Obj == lock || e.Kind == impl.EvWait && e.Lock == lock {
			return false
		}
	}
	return false
}

func undersByWords(trace []impl.Event) []impl.Under {
	var unders []impl.Under
	for place, e := range trace {
		taken := takenBy(e)
		for lock := 0; taken >= 0 && lock < 100; lock++ {
			if hadAhead(trace, place, lock) {
				unders = append(unders, impl.Under{Had: lock, Taken: taken, Thread: e.Thread, At: place})
			}
		}
	}
	return unders
}

// pairsByWords asks of each two locks whether they are Had and Taken anywhere.
func pairsByWords(unders []impl.Under) [][]int {
	var met [100][100]bool
	for _, u := range unders {
		met[u.Had][u.Taken] = true
	}
	var pairs [][]int
	for had := range met {
		for taken, is := range met[had] {
			if is {
				pairs = append(pairs, []int{had, taken})
			}
		}
	}
	return pairs
}

func under(had int, taken int, thread int, at int) impl.Under {
	return impl.Under{Had: had, Taken: taken, Thread: thread, At: at}
}

// hasUnders asks for these, and for the pairs that they have.
func hasUnders(t *testing.T, trace []impl.Event, want ...impl.Under) {
	t.Helper()
	if unders, ok := impl.UndersIn(trace); !ok || !slices.Equal(unders, want) {
		t.Errorf("UndersIn(%v) %v %v, not %v", trace, unders, ok, want)
	}
	hasPairs(t, trace, pairsByWords(want)...)
}

func hasPairs(t *testing.T, trace []impl.Event, want ...[]int) {
	t.Helper()
	if pairs, ok := impl.LockPairs(trace); !ok || !samePlaces(pairs, want) {
		t.Errorf("LockPairs(%v) %v %v, not %v", trace, pairs, ok, want)
	}
}

// warns asks for a circle of locks, or for none where there are no numbers.
func warns(t *testing.T, trace []impl.Event, want ...int) {
	t.Helper()
	if circle, ok := impl.WarnsOf(trace); ok != (len(want) > 0) || !slices.Equal(circle, want) {
		t.Errorf("WarnsOf(%v) %v %v, not %v", trace, circle, ok, want)
	}
}

func TestLocksTakenUnderOthers(t *testing.T) {
	hasUnders(t, nil)
	hasUnders(t, []impl.Event{})
	hasUnders(t, []impl.Event{takes(0, 1)})
	hasUnders(t, []impl.Event{takes(0, 1), local(0), takes(0, 2)}, under(1, 2, 0, 2))
	// The lock is the Obj of a lock, and the Lock of a wake.
	hasUnders(t, []impl.Event{takes(3, 1), wakes(3, 50, 2)}, under(1, 2, 3, 1))
	hasUnders(t, []impl.Event{wakes(3, 50, 2), eventOf(3, impl.EvLock, 1, 60, 7)}, under(2, 1, 3, 1))
	hasUnders(t, []impl.Event{wakes(4, 50, 99), wakes(4, 51, 0)}, under(99, 0, 4, 1))
	// Each lock that is had, rising, and place by place.
	hasUnders(t, []impl.Event{local(1), takes(1, 7), takes(1, 99), wakes(1, 8, 0), takes(1, 5)},
		under(7, 99, 1, 2), under(7, 0, 1, 3), under(99, 0, 1, 3), under(0, 5, 1, 4), under(7, 5, 1, 4), under(99, 5, 1, 4))
	// The same pair at two places.
	hasUnders(t, []impl.Event{takes(2, 1), takes(2, 0), gives(2, 0), takes(2, 0)}, under(1, 0, 2, 1), under(1, 0, 2, 3))
}

func TestLocksGivenAheadOfAnother(t *testing.T) {
	for _, given := range []impl.Event{gives(0, 1), waits(0, 40, 1), eventOf(0, impl.EvUnlock, 1, 3, 0)} {
		hasUnders(t, []impl.Event{takes(0, 1), given, takes(0, 2)})
		hasUnders(t, []impl.Event{takes(0, 1), takes(0, 3), given, takes(0, 2)}, under(1, 3, 0, 1), under(3, 2, 0, 3))
		hasUnders(t, []impl.Event{takes(0, 1), given, wakes(0, 40, 1), takes(0, 2)}, under(1, 2, 0, 3))
		hasUnders(t, []impl.Event{takes(0, 1), takes(0, 2), given}, under(1, 2, 0, 1))
	}
	// A wait gives its Lock, not its Obj; an unlock gives its Obj, not its Lock.
	hasUnders(t, []impl.Event{takes(0, 1), waits(0, 1, 9), takes(0, 2)}, under(1, 2, 0, 2))
	hasUnders(t, []impl.Event{takes(0, 1), eventOf(0, impl.EvUnlock, 9, 1, 0), takes(0, 2)}, under(1, 2, 0, 2))
	// The lock of a wait is taken again while another one is had: that one alone is under it.
	hasUnders(t, []impl.Event{takes(0, 5), takes(0, 1), waits(0, 0, 1), wakes(0, 0, 1)}, under(5, 1, 0, 1), under(5, 1, 0, 3))
	hasUnders(t, []impl.Event{takes(0, 1), waits(0, 0, 1), wakes(0, 0, 1)})
}

func TestLocksUnderThoseOfOtherThreads(t *testing.T) {
	hasUnders(t, []impl.Event{takes(0, 1), takes(1, 2), takes(2, 3), takes(3, 4), takes(4, 5)})
	hasUnders(t, []impl.Event{takes(0, 1), takes(1, 2), takes(0, 3), takes(1, 4)}, under(1, 3, 0, 2), under(2, 4, 1, 3))
	// What another thread gives is had still.
	hasUnders(t, []impl.Event{takes(0, 1), gives(1, 1), waits(2, 0, 1), takes(0, 2)}, under(1, 2, 0, 3))
	// In a trace that no run has two threads have one lock.
	hasUnders(t, []impl.Event{takes(0, 1), takes(1, 1), gives(0, 1), takes(1, 2), takes(0, 2)}, under(1, 2, 1, 3))
}

// TestLocksTakenWhenTheyAreHad has traces that no run has: a lock that is had when it is taken again
// is one of those had there, and so a circle of its own.
func TestLocksTakenWhenTheyAreHad(t *testing.T) {
	for _, again := range []impl.Event{takes(0, 1), wakes(0, 3, 1)} {
		hasUnders(t, []impl.Event{takes(0, 1), again}, under(1, 1, 0, 1))
		hasUnders(t, []impl.Event{takes(0, 1), again, again}, under(1, 1, 0, 1), under(1, 1, 0, 2))
		hasUnders(t, []impl.Event{again, takes(0, 1)}, under(1, 1, 0, 1))
		// Others that are had are among them still, and it is under others, rising.
		hasUnders(t, []impl.Event{takes(0, 1), takes(0, 2), again}, under(1, 2, 0, 1), under(1, 1, 0, 2), under(2, 1, 0, 2))
		hasUnders(t, []impl.Event{takes(0, 0), takes(0, 1), again, takes(0, 2)},
			under(0, 1, 0, 1), under(0, 1, 0, 2), under(1, 1, 0, 2), under(0, 2, 0, 3), under(1, 2, 0, 3))
		// Whether it is had is what LocksHeld tells: given once it is not, however often it was taken.
		hasUnders(t, []impl.Event{takes(0, 1), again, gives(0, 1), takes(0, 2)}, under(1, 1, 0, 1))
		hasUnders(t, []impl.Event{takes(0, 1), waits(0, 3, 1), again})
		hasUnders(t, []impl.Event{takes(0, 1), gives(1, 1), again}, under(1, 1, 0, 2))
		// It is had by its own thread alone.
		hasUnders(t, []impl.Event{takes(1, 1), again})
		hasUnders(t, []impl.Event{again, takes(1, 1), takes(1, 1)}, under(1, 1, 1, 2))
		// It warns of itself, ahead of longer circles from it, and leaves no order, of other locks neither.
		trace := []impl.Event{takes(0, 1), again, takes(1, 1), takes(1, 7)}
		warns(t, trace, 1)
		hasNoOrder(t, trace)
		warns(t, slices.Concat(inRing(1, 2), trace), 1)
		warns(t, slices.Concat(inRing(0, 1), trace), 0, 1)
		// Its gate is what is had wherever it is taken so; it is not told of as guarded.
		hasGate(t, trace, 1, 1)
		hasGate(t, []impl.Event{takes(0, 5), takes(0, 1), again, gives(0, 5), takes(0, 6), again, takes(0, 5), again}, 1, 1)
		hasGate(t, []impl.Event{takes(0, 5), takes(0, 1), again, takes(0, 6), again}, 1, 1, 5)
		hasNoGate(t, trace, 7, 7)
		isGuarded(t, append(trace, takes(1, 1)))
	}
}

// TestLocksTakenTwiceAndOnce has the two traces of which the order was asked first.
func TestLocksTakenTwiceAndOnce(t *testing.T) {
	again := []impl.Event{takes(0, 5), takes(0, 5)}
	hasUnders(t, again, under(5, 5, 0, 1))
	hasPairs(t, again, []int{5, 5})
	warns(t, again, 5)
	hasNoOrder(t, again)
	hasUnders(t, []impl.Event{takes(0, 3), takes(0, 5), takes(0, 5), gives(0, 5), takes(0, 5)},
		under(3, 5, 0, 1), under(3, 5, 0, 2), under(5, 5, 0, 2), under(3, 5, 0, 4))
	// A lock that was not had ahead of the place is no Had by being taken there.
	hasUnders(t, again[:1])
	inOrderOf(t, again[:1], 5)
}

func TestLocksUnderOtherKinds(t *testing.T) {
	for kind := impl.EvLocal; kind <= impl.EvFault; kind++ {
		other := eventOf(0, kind, 6, 6, 6)
		if takenBy(other) >= 0 {
			hasUnders(t, []impl.Event{takes(0, 1), other, takes(0, 2)}, under(1, 6, 0, 1), under(1, 2, 0, 2), under(6, 2, 0, 2))
			continue
		}
		hasUnders(t, []impl.Event{takes(0, 1), other, takes(0, 2)}, under(1, 2, 0, 2))
		hasUnders(t, []impl.Event{other, takes(0, 1), other})
	}
}

func TestLockPairs(t *testing.T) {
	hasPairs(t, nil)
	hasPairs(t, []impl.Event{local(0), takes(0, 3), gives(0, 3)})
	// Each once, though it is met again, by the same thread and by others.
	both := func(thread int) []impl.Event {
		return []impl.Event{takes(thread, 4), takes(thread, 2), gives(thread, 2), gives(thread, 4)}
	}
	hasPairs(t, slices.Concat(both(0), both(0), both(3), both(1)), []int{4, 2})
	// Rising by the first number, then by the second one, not in the order of the places.
	hasPairs(t, []impl.Event{takes(0, 99), takes(0, 7), takes(0, 10), takes(0, 0), takes(1, 7), takes(1, 2), takes(1, 99)},
		[]int{2, 99}, []int{7, 0}, []int{7, 2}, []int{7, 10}, []int{7, 99}, []int{10, 0}, []int{99, 0}, []int{99, 7}, []int{99, 10})
	// As many as may be of one thread, again and again: they come in no other order.
	var trace []impl.Event
	var want [][]int
	for i := range 100 {
		trace = append(trace, takes(2, i))
		for other := i + 1; other < 100; other++ {
			want = append(want, []int{i, other})
		}
	}
	for range 10 {
		hasPairs(t, trace, want...)
	}
}

// inRing has for each two numbers that follow each other, and for the last and the first one, a thread
// that takes both of them, the first one first.
func inRing(locks ...int) []impl.Event {
	var trace []impl.Event
	for i, lock := range locks {
		thread, next := i%impl.MaxThreads, locks[(i+1)%len(locks)]
		trace = append(trace, takes(thread, lock), takes(thread, next), gives(thread, next), gives(thread, lock))
	}
	return trace
}

func TestCirclesOfLocks(t *testing.T) {
	warns(t, nil)
	warns(t, []impl.Event{takes(0, 1), local(0), gives(0, 1)})
	for _, locks := range [][]int{{0, 1}, {0, 99}, {0, 1, 2}, {3, 9, 4}, {7, 98, 97, 99}, {0, 5, 4, 3, 2}} {
		trace := inRing(locks...)
		warns(t, trace, locks...)
		// It begins with the least number wherever the trace does.
		warns(t, slices.Concat(trace[4:], trace[:4]), locks...)
		// Without one of them all that is left leads up alone.
		for i := range locks {
			warns(t, slices.Delete(slices.Clone(trace), 4*i, 4*i+4))
		}
	}
	// One thread alone that takes them both ways.
	warns(t, []impl.Event{takes(2, 8), takes(2, 3), gives(2, 8), takes(2, 8)}, 3, 8)
	// One lock is had all along by the thread that takes the others.
	warns(t, []impl.Event{takes(0, 1), takes(0, 2), takes(0, 3), takes(1, 2), takes(1, 3), takes(2, 1), takes(2, 3)})
	// The lock of a wait is taken again under one that was taken behind it.
	warns(t, []impl.Event{takes(0, 4), takes(0, 6), waits(0, 0, 4), wakes(0, 0, 4)}, 4, 6)
}

func TestCirclesApart(t *testing.T) {
	// Of two that have nothing to do with each other the one with the least number.
	warns(t, slices.Concat(inRing(5, 6), inRing(2, 9, 3)), 2, 9, 3)
	warns(t, slices.Concat(inRing(2, 9, 3), inRing(5, 6)), 2, 9, 3)
	warns(t, slices.Concat(inRing(10, 11), inRing(20, 21), inRing(30, 31)), 10, 11)
	// Of two from one lock the shorter one, then the lesser one.
	warns(t, slices.Concat(inRing(1, 2, 3), inRing(1, 9)), 1, 9)
	warns(t, slices.Concat(inRing(1, 8), inRing(1, 9), inRing(1, 4)), 1, 4)
	// A lock that only leads to a circle is not in it.
	warns(t, slices.Concat([]impl.Event{takes(0, 1), takes(0, 5), gives(0, 5), gives(0, 1)}, inRing(5, 6)), 5, 6)
}

// nested has a thread that takes the locks from one number on, each under all that it has by then.
func nested(thread int, from int, many int) []impl.Event {
	var trace []impl.Event
	for i := range many {
		trace = append(trace, takes(thread, from+i))
	}
	return trace
}

// TestPairsAtTheLimitOfCircles has 100 pairs, as many as CycleIn takes, and one more.
func TestPairsAtTheLimitOfCircles(t *testing.T) {
	apart := func(no int) []impl.Event {
		return []impl.Event{takes(1, 60+no), takes(1, 80+no), gives(1, 80+no), gives(1, 60+no)}
	}
	trace := nested(0, 0, 14) // 91 pairs
	for no := range 8 {
		trace = append(trace, apart(no)...)
	}
	straight := append(slices.Clone(trace), apart(8)...)
	round := append(slices.Clone(trace), takes(2, 13), takes(2, 0))
	for _, full := range [][]impl.Event{straight, round} {
		if pairs, ok := impl.LockPairs(full); !ok || len(pairs) != 100 {
			t.Fatal(len(pairs), ok)
		}
	}
	warns(t, straight)
	warns(t, round, 0, 13)
	hasNoOrder(t, round)
	// With one more CycleIn tells of none; there is an order just where there is no circle.
	warns(t, append(slices.Clone(straight), apart(9)...))
	warns(t, append(slices.Clone(round), apart(9)...))
	hasNoOrder(t, append(slices.Clone(round), apart(9)...))
	longer := append(slices.Clone(straight), apart(9)...)
	inOrderOf(t, longer, orderByWords(longer)...)
	inOrderOf(t, nested(3, 0, 100), orderByWords(nested(3, 0, 100))...)
}

func TestCirclesOfRuns(t *testing.T) {
	r, ok := impl.RunThreads(crossed(), []int{0, 0, 1, 1, 1, 1, 2, 2, 2, 2})
	if !ok {
		t.Fatal("no run")
	}
	hasUnders(t, r.Trace, under(0, 1, 1, 3), under(1, 0, 2, 7))
	warns(t, r.Trace, 0, 1)
	// The run that is stuck in the circle has met none of its pairs.
	stuck, _ := impl.RunThreads(crossed(), []int{0, 0, 1, 2, 0})
	hasUnders(t, stuck.Trace)
	warns(t, stuck.Trace)
	// Each Had is a lock that the machine's own state gives to the thread ahead of the step.
	d := draws(81)
	many := 0
	see := func(p impl.Prog, budget int) {
		r, ok := impl.RunPicks(p, madeUpPicks(&d), budget)
		if !ok {
			t.Fatal("no run", p, budget)
		}
		var want []impl.Under
		s, _ := impl.NewState(p)
		for place, e := range r.Trace {
			for lock, owner := range s.Owner {
				if owner == e.Thread && takenBy(e) >= 0 {
					want = append(want, under(lock, takenBy(e), e.Thread, place))
				}
			}
			s, _, _ = impl.StepState(p, s, e.Thread)
		}
		many += len(want)
		hasUnders(t, r.Trace, want...)
	}
	for range 100 {
		see(madeUpProg(&d), 40)
		for _, p := range lockProgs() {
			see(p, impl.MaxBudget)
		}
	}
	if many < 500 {
		t.Error("too few locks under others", many)
	}
}
