package tests

import (
	"slices"
	"testing"

	"loop.example/g00696/impl"
)

// gateByWords asks of each lock but a and b whether it is had at all places of both kinds.
func gateByWords(trace []impl.Event, unders []impl.Under, a int, b int) ([]int, bool) {
	var places []int
	up, down := 0, 0
	for _, u := range unders {
		if u.Had == a && u.Taken == b {
			up++
			places = append(places, u.At)
		}
		if u.Had == b && u.Taken == a {
			down++
			places = append(places, u.At)
		}
	}
	if up == 0 || down == 0 {
		return nil, false
	}
	var gate []int
	for lock := range 100 {
		without := slices.ContainsFunc(places, func(place int) bool { return !hadAhead(trace, place, lock) })
		if lock != a && lock != b && !without {
			gate = append(gate, lock)
		}
	}
	return gate, true
}

// guardedByWords looks at each two Unders the other way round.
func guardedByWords(trace []impl.Event, unders []impl.Under) [][]int {
	var met [100][100]bool
	for _, one := range unders {
		for _, other := range unders {
			if one.Had == other.Taken && one.Taken == other.Had && one.Thread != other.Thread {
				met[one.Had][one.Taken] = true
			}
		}
	}
	var warned [][]int
	for a := range met {
		for b := a + 1; b < 100; b++ {
			if gate, ok := gateByWords(trace, unders, a, b); met[a][b] && ok && len(gate) == 0 {
				warned = append(warned, []int{a, b})
			}
		}
	}
	return warned
}

// hasGate asks for it both ways round.
func hasGate(t *testing.T, trace []impl.Event, a int, b int, want ...int) {
	t.Helper()
	for _, pair := range [][2]int{{a, b}, {b, a}} {
		if gate, ok := impl.GateOf(trace, pair[0], pair[1]); !ok || !slices.Equal(gate, want) {
			t.Errorf("GateOf(%v, %v) %v %v, not %v", trace, pair, gate, ok, want)
		}
	}
}

func hasNoGate(t *testing.T, trace []impl.Event, a int, b int) {
	t.Helper()
	for _, pair := range [][2]int{{a, b}, {b, a}} {
		if gate, ok := impl.GateOf(trace, pair[0], pair[1]); ok || len(gate) > 0 {
			t.Errorf("GateOf(%v, %v) %v %v", trace, pair, gate, ok)
		}
	}
}

func isGuarded(t *testing.T, trace []impl.Event, want ...[]int) {
	t.Helper()
	if pairs, ok := impl.WarnsGuarded(trace); !ok || !samePlaces(pairs, want) {
		t.Errorf("WarnsGuarded(%v) %v %v, not %v", trace, pairs, ok, want)
	}
}

// crossing has one thread that takes a, then b, and one that takes b, then a, each under locks of its own.
func crossing(one int, other int, a int, b int, under [2][]int) []impl.Event {
	var trace []impl.Event
	for i, thread := range []int{one, other} {
		for _, lock := range under[i] {
			trace = append(trace, takes(thread, lock))
		}
		first, second := a, b
		if i == 1 {
			first, second = b, a
		}
		trace = append(trace, takes(thread, first), takes(thread, second), gives(thread, second), gives(thread, first))
		for _, lock := range under[i] {
			trace = append(trace, gives(thread, lock))
		}
	}
	return trace
}

func TestGates(t *testing.T) {
	for _, c := range []struct {
		under [2][]int
		want  []int
	}{
		{[2][]int{}, nil},
		{[2][]int{{5}, nil}, nil},
		{[2][]int{nil, {5}}, nil},
		{[2][]int{{5}, {6}}, nil},
		{[2][]int{{5}, {5}}, []int{5}},
		{[2][]int{{5, 6}, {5, 6}}, []int{5, 6}},
		{[2][]int{{98, 0}, {98, 0}}, []int{0, 98}},
		{[2][]int{{5, 6}, {6, 7}}, []int{6}},
		{[2][]int{{9, 6, 8, 7}, {9, 6, 8, 7}}, []int{6, 7, 8, 9}},
	} {
		for _, locks := range [][2]int{{1, 2}, {2, 1}, {1, 99}} {
			trace := crossing(0, 1, locks[0], locks[1], c.under)
			hasGate(t, trace, locks[0], locks[1], c.want...)
			// Who takes them makes no difference to the gate, but one thread alone is not told by WarnsGuarded.
			alone := crossing(4, 4, locks[0], locks[1], c.under)
			hasGate(t, alone, locks[0], locks[1], c.want...)
			isGuarded(t, alone)
			if len(c.want) > 0 {
				isGuarded(t, trace)
			} else {
				isGuarded(t, trace, []int{min(locks[0], locks[1]), max(locks[0], locks[1])})
			}
		}
	}
}

func TestGatesOfAllPlaces(t *testing.T) {
	gated := [2][]int{{5}, {5}}
	once := crossing(0, 1, 1, 2, gated)
	hasGate(t, slices.Concat(once, once, crossing(2, 3, 1, 2, gated)), 1, 2, 5)
	// One place without the common lock is enough, whichever way it leads.
	bare := []impl.Event{takes(3, 1), takes(3, 2), gives(3, 2), gives(3, 1)}
	back := []impl.Event{takes(3, 2), takes(3, 1), gives(3, 1), gives(3, 2)}
	for _, more := range [][]impl.Event{bare, back} {
		hasGate(t, slices.Concat(once, more), 1, 2)
		hasGate(t, slices.Concat(more, once), 1, 2)
		isGuarded(t, slices.Concat(once, more), []int{1, 2})
	}
	// Given ahead of the place it is not had there; taken between the two it is.
	hasGate(t, []impl.Event{takes(0, 1), takes(0, 5), takes(0, 2), takes(1, 5), takes(1, 2), takes(1, 1)}, 1, 2, 5)
	hasGate(t, []impl.Event{takes(0, 5), takes(0, 1), gives(0, 5), takes(0, 2), takes(1, 5), takes(1, 2), takes(1, 1)}, 1, 2)
	hasGate(t, []impl.Event{takes(0, 1), takes(0, 2), takes(0, 5), takes(1, 5), takes(1, 2), takes(1, 1)}, 1, 2)
	// Two threads have the lock 5 at once, in a trace that no run has; that of another thread is none.
	hasGate(t, []impl.Event{takes(0, 5), takes(1, 1), takes(1, 2), takes(0, 2), takes(0, 1)}, 1, 2)
	// By a wait and a wake.
	hasGate(t, []impl.Event{takes(0, 7), takes(0, 1), takes(0, 2), waits(0, 9, 1), wakes(0, 9, 1)}, 1, 2, 7)
}

func TestLocksOfTheGateItself(t *testing.T) {
	// In a trace that no run has a lock is taken again, so that a and b are both had at each place.
	trace := []impl.Event{takes(0, 1), takes(0, 2), takes(0, 1), takes(0, 2), takes(0, 3), takes(0, 1)}
	hasGate(t, trace[:4], 1, 2)
	hasGate(t, append(slices.Clone(trace[:4]), takes(1, 2), takes(1, 1)), 1, 2)
	hasGate(t, trace, 1, 3, 2)
	hasNoGate(t, trace, 2, 3)
	hasGate(t, trace, 1, 1, 2)
	hasGate(t, trace, 2, 2, 1)
	for _, lock := range []int{0, 1, 2, 3, 99} {
		hasNoGate(t, trace[:2], lock, lock)
		hasNoGate(t, crossing(0, 1, 1, 2, [2][]int{}), lock, lock)
	}
}

func TestNoGates(t *testing.T) {
	hasNoGate(t, nil, 0, 1)
	// Places of one kind alone.
	up := []impl.Event{takes(0, 1), takes(0, 2), gives(0, 2), gives(0, 1), takes(1, 1), takes(1, 2)}
	hasNoGate(t, up, 1, 2)
	isGuarded(t, up)
	trace := crossing(0, 1, 0, 99, [2][]int{{50}, {50}})
	hasGate(t, trace, 0, 99, 50)
	for _, lock := range []int{leastInt, -1, 1, 50, 98, 100, 101, greatestInt} {
		hasNoGate(t, trace, 0, lock)
		hasNoGate(t, trace, 99, lock)
		hasNoGate(t, trace, lock, lock)
	}
	for _, lock := range []int{leastInt, -1, 100, greatestInt} {
		for _, other := range []int{leastInt, -1, 0, 99, 100, greatestInt} {
			hasNoGate(t, trace, lock, other)
		}
	}
	// The numbers of an event that names no lock are no lock.
	hasNoGate(t, []impl.Event{local(0), local(0), local(1)}, -1, -1)
}

func TestGuardedWarnings(t *testing.T) {
	isGuarded(t, nil)
	isGuarded(t, []impl.Event{takes(0, 1), takes(0, 2)})
	// Several pairs, rising, each the lesser lock first.
	open := [2][]int{}
	isGuarded(t, slices.Concat(crossing(0, 1, 9, 3, open), crossing(2, 3, 0, 99, open), crossing(4, 0, 3, 7, open), crossing(1, 2, 10, 9, open)),
		[]int{0, 99}, []int{3, 7}, []int{3, 9}, []int{9, 10})
	// With a common lock, and without one, in one trace.
	isGuarded(t, slices.Concat(crossing(0, 1, 1, 2, [2][]int{{8}, {8}}), crossing(0, 1, 3, 4, [2][]int{{8}, {9}})), []int{3, 4})
	// Circles of three have no two that are taken both ways.
	isGuarded(t, inRing(1, 2, 3))
	isGuarded(t, inRing(1, 2), []int{1, 2})
	// One thread takes them both ways, and another one takes them one way: those are unlike.
	alone := []impl.Event{takes(0, 1), takes(0, 2), gives(0, 1), takes(0, 1), gives(0, 1), gives(0, 2)}
	isGuarded(t, alone)
	isGuarded(t, append(slices.Clone(alone), takes(1, 1), takes(1, 2)), []int{1, 2})
	isGuarded(t, append(slices.Clone(alone), takes(1, 2), takes(1, 1)), []int{1, 2})
	isGuarded(t, append(slices.Clone(alone), takes(1, 2), takes(1, 3)))
	// Two threads that take them one way are no circle.
	isGuarded(t, []impl.Event{takes(0, 1), takes(0, 2), takes(1, 1), takes(1, 2)})
	// A common lock that is had at the places of one thread alone.
	isGuarded(t, append([]impl.Event{takes(0, 5)}, append(slices.Clone(alone), takes(1, 1), takes(1, 2))...), []int{1, 2})
	isGuarded(t, append([]impl.Event{takes(0, 5), takes(1, 5)}, append(slices.Clone(alone), takes(1, 1), takes(1, 2))...))
}

// TestLocksOfGatesCross has two locks of a gate that are themselves taken crosswise, with none in common.
func TestLocksOfGatesCross(t *testing.T) {
	trace := crossing(0, 1, 1, 2, [2][]int{{5, 6}, {6, 5}})
	hasGate(t, trace, 1, 2, 5, 6)
	hasGate(t, trace, 5, 6)
	isGuarded(t, trace, []int{5, 6})
}

// TestAsManyPairsAsMayBe has two threads that take all locks, one up and one down: two locks have
// those between them in common.
func TestAsManyPairsAsMayBe(t *testing.T) {
	var trace []impl.Event
	var neighbours [][]int
	var all []int
	for i := range 100 {
		trace = append(trace, takes(0, i))
		all = append(all, i)
		if i > 0 {
			neighbours = append(neighbours, []int{i - 1, i})
		}
	}
	for i := range 100 {
		trace = append(trace, takes(1, 99-i))
	}
	isGuarded(t, trace, neighbours...)
	for _, pair := range [][2]int{{0, 1}, {0, 99}, {7, 42}, {98, 99}} {
		hasGate(t, trace, pair[0], pair[1], all[pair[0]+1:pair[1]]...)
	}
	// With one lock that both have first all others are under it.
	trace[0], trace[100] = takes(0, 99), takes(1, 99)
	for i := range 99 {
		trace[1+i], trace[101+i] = takes(0, i), takes(1, 98-i)
	}
	isGuarded(t, trace)
	hasGate(t, trace, 0, 1, 99)
}
