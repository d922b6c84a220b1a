package tests

import (
	"slices"
	"testing"

	"loop.example/g00696/impl"
)

func wakes(thread int, cond int, lock int) impl.Event {
	return eventOf(thread, impl.EvWake, cond, lock, 0)
}

func waits(thread int, cond int, lock int) impl.Event {
	return eventOf(thread, impl.EvWait, cond, lock, 0)
}

// heldByWords asks of each lock whether its last event of the place's thread by then takes it.
func heldByWords(trace []impl.Event, place int) []int {
	var held []int
	for lock := range 100 {
		for _, e := range slices.Backward(trace[:place+1]) {
			if e.Thread != trace[place].Thread {
				continue
			}
			if e.Kind == impl.EvLock && e.Obj == lock || e.Kind == impl.EvWake && e.Lock == lock {
				held = append(held, lock)
				break
			}
			if e.Kind == impl.EvUnlock && e.Obj == lock || e.Kind == impl.EvWait && e.Lock == lock {
				break
			}
		}
	}
	return held
}

// sharedByWords asks of each cell and each lock all places anew.
func sharedByWords(trace []impl.Event) [][]int {
	var lists [][]int
	for cell := range 100 {
		touched := false
		holders := make([]int, 100)
		places := 0
		for place, e := range trace {
			if !touchesCell(e) || e.Obj != cell {
				continue
			}
			touched = true
			places++
			for _, lock := range heldByWords(trace, place) {
				holders[lock]++
			}
		}
		if !touched {
			continue
		}
		list := []int{cell}
		for lock, many := range holders {
			if many == places {
				list = append(list, lock)
			}
		}
		lists = append(lists, list)
	}
	return lists
}

func holdsAt(t *testing.T, trace []impl.Event, place int, want ...int) {
	t.Helper()
	if held, ok := impl.LocksHeld(trace, place); !ok || !slices.Equal(held, want) {
		t.Errorf("LocksHeld(%v, %d) %v %v, not %v", trace, place, held, ok, want)
	}
}

func sharesLocks(t *testing.T, trace []impl.Event, want ...[]int) {
	t.Helper()
	if lists, ok := impl.SharedLocks(trace); !ok || !samePlaces(lists, want) {
		t.Errorf("SharedLocks(%v) %v %v, not %v", trace, lists, ok, want)
	}
}

// noPlace asks for the zero answer of LocksHeld.
func noPlace(t *testing.T, trace []impl.Event, places ...int) {
	t.Helper()
	for _, place := range places {
		if held, ok := impl.LocksHeld(trace, place); ok || len(held) > 0 {
			t.Errorf("LocksHeld(%v, %d) %v %v", trace, place, held, ok)
		}
	}
}

func TestLocksTakenAndGiven(t *testing.T) {
	// The cond of a wake and of a wait is the number of no lock.
	trace := []impl.Event{
		local(1), takes(1, 7), wakes(1, 50, 3), local(1), takes(1, 99), takes(1, 0), gives(1, 7), waits(1, 51, 3), local(1), gives(1, 0), gives(1, 99),
	}
	for place, want := range [][]int{
		nil, {7}, {3, 7}, {3, 7}, {3, 7, 99}, {0, 3, 7, 99}, {0, 3, 99}, {0, 99}, {0, 99}, {99}, nil,
	} {
		holdsAt(t, trace, place, want...)
	}
	noPlace(t, trace, leastInt, -2, -1, len(trace), len(trace)+1, impl.MaxBudget, greatestInt)
}

func TestLocksTakenAgain(t *testing.T) {
	trace := []impl.Event{takes(0, 2), gives(0, 2), takes(0, 2), waits(0, 0, 2), wakes(0, 0, 2), gives(0, 2), wakes(0, 1, 2)}
	for place, want := range [][]int{{2}, nil, {2}, nil, {2}, nil, {2}} {
		holdsAt(t, trace, place, want...)
	}
	// In a trace that no run has a lock is taken twice, and given when it is not had.
	trace = []impl.Event{gives(0, 2), waits(0, 0, 2), takes(0, 2), takes(0, 2), wakes(0, 0, 2), gives(0, 2), gives(0, 2), takes(0, 2), waits(0, 2, 4)}
	for place, want := range [][]int{nil, nil, {2}, {2}, {2}, nil, nil, {2}, {2}} {
		holdsAt(t, trace, place, want...)
	}
}

func TestLocksOfOtherThreads(t *testing.T) {
	trace := []impl.Event{takes(0, 1), takes(1, 2), local(0), local(1), local(2), takes(1, 1), gives(1, 1), gives(2, 2), local(0), local(1), waits(0, 3, 2), local(1)}
	for place, want := range [][]int{{1}, {2}, {1}, {2}, nil, {1, 2}, {2}, nil, {1}, {2}, {1}, {2}} {
		holdsAt(t, trace, place, want...)
	}
}

// TestLocksByOtherKinds has events with the numbers of a lock that neither take nor give it.
func TestLocksByOtherKinds(t *testing.T) {
	giving := []int{impl.EvUnlock, impl.EvWait}
	taking := []int{impl.EvLock, impl.EvWake}
	for kind := impl.EvLocal; kind <= impl.EvFault; kind++ {
		other := eventOf(3, kind, 6, 6, 6)
		var after []int
		if slices.Contains(taking, kind) {
			after = []int{6}
		}
		holdsAt(t, []impl.Event{other}, 0, after...)
		holdsAt(t, []impl.Event{other, local(3)}, 1, after...)
		after = []int{6}
		if slices.Contains(giving, kind) {
			after = nil
		}
		holdsAt(t, []impl.Event{takes(3, 6), other}, 1, after...)
		holdsAt(t, []impl.Event{wakes(3, 0, 6), other, local(3)}, 2, after...)
	}
	// Of a wait and a wake Lock is the lock, of the others Obj is.
	holdsAt(t, []impl.Event{wakes(0, 5, 9), eventOf(0, impl.EvLock, 4, 8, 0)}, 1, 4, 9)
	holdsAt(t, []impl.Event{takes(0, 5), takes(0, 9), waits(0, 5, 9)}, 2, 5)
	holdsAt(t, []impl.Event{takes(0, 5), takes(0, 9), eventOf(0, impl.EvUnlock, 9, 5, 0)}, 2, 5)
}

func TestAsManyLocksAsMayBe(t *testing.T) {
	var down, mixed []impl.Event
	var all []int
	for i := range 100 {
		down = append(down, takes(2, 99-i))
		mixed = append(mixed, wakes(4, 1, i*37%100))
		all = append(all, i)
	}
	for range 20 {
		holdsAt(t, down, 99, all...)
		holdsAt(t, mixed, 99, all...)
	}
	holdsAt(t, down, 0, 99)
	holdsAt(t, down, 98, all[1:]...)
	full := slices.Concat(down, []impl.Event{loads(2, 3)}, slices.Repeat([]impl.Event{local(2)}, 99))
	holdsAt(t, full, impl.MaxBudget-1, all...)
	noPlace(t, full, impl.MaxBudget)
	sharesLocks(t, full, append([]int{3}, all...))
}

func TestSharedLocks(t *testing.T) {
	sharesLocks(t, nil)
	sharesLocks(t, []impl.Event{})
	sharesLocks(t, []impl.Event{takes(0, 1), local(0), gives(0, 1)})
	// A cell that is touched once.
	sharesLocks(t, []impl.Event{loads(0, 5)}, []int{5})
	sharesLocks(t, []impl.Event{takes(0, 9), takes(0, 2), stores(0, 5)}, []int{5, 2, 9})
	sharesLocks(t, []impl.Event{takes(0, 9), wakes(0, 8, 2), loads(0, 99), gives(0, 2)}, []int{99, 2, 9})
	// Locks that are held at all places, at some, at none.
	sharesLocks(t, []impl.Event{takes(0, 1), takes(0, 2), stores(0, 5), gives(0, 1), loads(0, 5)}, []int{5, 2})
	sharesLocks(t, []impl.Event{takes(0, 2), stores(0, 5), takes(0, 1), loads(0, 5)}, []int{5, 2})
	sharesLocks(t, []impl.Event{takes(0, 1), stores(0, 5), gives(0, 1), loads(0, 5)}, []int{5})
	sharesLocks(t, []impl.Event{stores(0, 5), takes(0, 1), loads(0, 5)}, []int{5})
	sharesLocks(t, []impl.Event{takes(0, 1), loads(0, 5), gives(0, 1), loads(0, 5), takes(0, 1), loads(0, 5)}, []int{5})
	// No one lock is held at all three.
	sharesLocks(t, []impl.Event{takes(0, 1), takes(0, 2), loads(0, 5), gives(0, 1), takes(0, 3), loads(0, 5), gives(0, 2), takes(0, 1), loads(0, 5)}, []int{5})
	// Each place counts by the locks of its own thread.
	sharesLocks(t, []impl.Event{takes(0, 1), stores(1, 5)}, []int{5})
	sharesLocks(t, []impl.Event{takes(0, 1), takes(1, 1), takes(1, 4), stores(1, 5), stores(0, 5)}, []int{5, 1})
	sharesLocks(t, []impl.Event{takes(0, 1), takes(1, 4), stores(0, 5), stores(1, 5)}, []int{5})
	// The cells are rising, and each has its own places.
	sharesLocks(t, []impl.Event{takes(0, 3), stores(0, 99), takes(0, 0), loads(0, 0), gives(0, 3), loads(0, 7), stores(0, 0)}, []int{0, 0}, []int{7, 0}, []int{99, 3})
	// The lock with the cell's own number is no other one.
	sharesLocks(t, []impl.Event{takes(0, 5), stores(0, 5)}, []int{5, 5})
}

// TestSharedLocksOfOtherKinds has a cell's number as Obj of events that touch no cell.
func TestSharedLocksOfOtherKinds(t *testing.T) {
	for kind := impl.EvLocal; kind <= impl.EvFault; kind++ {
		other := eventOf(1, kind, 4, 4, 4)
		if touchesCell(other) {
			sharesLocks(t, []impl.Event{other}, []int{4})
			sharesLocks(t, []impl.Event{takes(1, 2), other}, []int{4, 2})
			continue
		}
		sharesLocks(t, []impl.Event{other})
		sharesLocks(t, []impl.Event{takes(1, 2), other, stores(1, 6)}, sharedByWords([]impl.Event{takes(1, 2), other, stores(1, 6)})...)
		sharesLocks(t, []impl.Event{takes(0, 2), loads(0, 4), other}, []int{4, 2})
	}
}

// TestSharedLocksAreRising asks again and again: cells and locks come in no other order.
func TestSharedLocksAreRising(t *testing.T) {
	var trace []impl.Event
	var want [][]int
	for i := range 50 {
		trace = append(trace, takes(3, 99-i))
	}
	for i := range 100 {
		trace = append(trace, loads(3, i*37%100))
		list := []int{i}
		for lock := range 50 {
			list = append(list, 50+lock)
		}
		want = append(want, list)
	}
	for range 20 {
		sharesLocks(t, trace, want...)
	}
	trace = append(trace, gives(3, 77), stores(3, 60))
	want[60] = slices.DeleteFunc(want[60], func(n int) bool { return n == 77 })
	sharesLocks(t, trace, want...)
}

func holdsByWords(t *testing.T, trace []impl.Event) {
	t.Helper()
	for place := range trace {
		if held, ok := impl.LocksHeld(trace, place); !ok || !slices.Equal(held, heldByWords(trace, place)) {
			t.Fatalf("LocksHeld(%v, %d) %v %v, not %v", trace, place, held, ok, heldByWords(trace, place))
		}
	}
	if lists, ok := impl.SharedLocks(trace); !ok || !samePlaces(lists, sharedByWords(trace)) {
		t.Fatalf("SharedLocks(%v) %v %v, not %v", trace, lists, ok, sharedByWords(trace))
	}
}

func TestLocksOfTraces(t *testing.T) {
	d := draws(74)
	shared := 0
	see := func(trace []impl.Event) {
		holdsByWords(t, trace)
		lists, _ := impl.SharedLocks(trace)
		for _, list := range lists {
			shared += len(list) - 1
		}
	}
	for range 300 {
		see(madeUpTrace(&d, d.below(40)))
		see(carefulTrace(&d, d.below(40)))
	}
	see(madeUpTrace(&d, impl.MaxBudget))
	see(carefulTrace(&d, impl.MaxBudget))
	if shared < 200 {
		t.Error("too few locks are shared", shared)
	}
}

// TestLocksOfAllSmallTraces goes through all traces of up to four events, of one lock and one cell beside others.
func TestLocksOfAllSmallTraces(t *testing.T) {
	events := []impl.Event{takes(0, 1), gives(0, 1), wakes(0, 2, 1), waits(0, 2, 1), takes(1, 1), loads(0, 0), stores(1, 0)}
	eachSmallTrace(4, events, func(trace []impl.Event) { holdsByWords(t, trace) })
}

// TestLocksOfRuns holds LocksHeld against the owners of the machine's own state.
func TestLocksOfRuns(t *testing.T) {
	d := draws(75)
	most := 0
	see := func(p impl.Prog, budget int) {
		r, ok := impl.RunPicks(p, madeUpPicks(&d), budget)
		if !ok {
			t.Fatal("no run", p, budget)
		}
		holdsByWords(t, r.Trace)
		s, _ := impl.NewState(p)
		for place, e := range r.Trace {
			s, _, _ = impl.StepState(p, s, e.Thread)
			var owned []int
			for lock, owner := range s.Owner {
				if owner == e.Thread {
					owned = append(owned, lock)
				}
			}
			most = max(most, len(owned))
			holdsAt(t, r.Trace, place, owned...)
		}
	}
	sleeper := "lock 1; lock 0; wait 0 0; load 0; store 1; unlock 0; unlock 1"
	waker := "lock 0; push 1p0; store 0; signal 0; unlock 0; load 0"
	for range 100 {
		see(madeUpProg(&d), 40)
		see(crossed(), 40)
		see(written(2, 2, 1, "spawn 1; spawn 2; spawn 2", sleeper, waker), impl.MaxBudget)
		see(written(0, 4, 0, "lock 3; lock 1; lock 2; lock 0; unlock 1; unlock 3; lock 1; unlock 1; unlock 0; unlock 2"), 40)
	}
	if most != impl.MaxLocks {
		t.Error("no thread has all locks", most)
	}
}
