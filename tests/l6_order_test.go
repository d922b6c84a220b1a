package tests

import (
	"slices"
	"testing"

	"loop.example/g00696/impl"
)

// local is an event that hangs on nothing but its thread.
func local(thread int) impl.Event {
	return eventOf(thread, impl.EvLocal, -1, -1, 0)
}

// sureEvent is a good one of any kind.
func sureEvent(thread int, kind int) impl.Event {
	return eventOf(thread, kind, 0, 0, 0)
}

func samePlaces(a [][]int, b [][]int) bool {
	return slices.EqualFunc(a, b, slices.Equal[[]int])
}

// wrongEvents are not good, each by one thing alone.
func wrongEvents() []impl.Event {
	var wrong []impl.Event
	add := func(change func(e *impl.Event, n int), nums ...int) {
		for _, n := range nums {
			e := sureEvent(0, impl.EvLocal)
			change(&e, n)
			wrong = append(wrong, e)
		}
	}
	add(func(e *impl.Event, n int) { e.Thread = n }, leastInt, -1, impl.MaxThreads, impl.MaxThreads+1, greatestInt)
	add(func(e *impl.Event, n int) { e.Kind = n }, leastInt, -1, 0, impl.EvFault+1, impl.EvFault+2, greatestInt)
	add(func(e *impl.Event, n int) { e.Obj = n }, leastInt, -2, 100, 101, greatestInt)
	add(func(e *impl.Event, n int) { e.Lock = n }, leastInt, -2, 100, 101, greatestInt)
	add(func(e *impl.Event, n int) { e.Pc = n }, leastInt, -1, 100, 101, greatestInt)
	for kind := impl.EvLoad; kind <= impl.EvSignal; kind++ {
		wrong = append(wrong, eventOf(0, kind, -1, 0, 0))
	}
	return append(wrong, eventOf(0, impl.EvWait, 0, -1, 0), eventOf(0, impl.EvWake, 0, -1, 0))
}

// wrongTraces are not good, each by one event, or by its length alone.
func wrongTraces() [][]impl.Event {
	good := sureEvent(0, impl.EvLocal)
	wrong := [][]impl.Event{slices.Repeat([]impl.Event{good}, impl.MaxBudget+1), make([]impl.Event, 1), make([]impl.Event, 700)}
	for _, e := range wrongEvents() {
		full := slices.Repeat([]impl.Event{good}, impl.MaxBudget)
		full[impl.MaxBudget-1] = e
		wrong = append(wrong, []impl.Event{e}, []impl.Event{e, good}, []impl.Event{good, e}, []impl.Event{good, e, good}, full)
	}
	return wrong
}

func TestLengthsOfTraces(t *testing.T) {
	for many := range impl.MaxBudget + 3 {
		trace := slices.Repeat([]impl.Event{local(4)}, many)
		if impl.GoodTrace(trace) != (many <= 200) {
			t.Error("a trace of so many events", many)
		}
	}
	if !impl.GoodTrace(nil) || !impl.GoodTrace([]impl.Event{}) {
		t.Error("no events at all")
	}
}

// goodByWords says of the numbers of an event what the document does.
func goodByWords(e impl.Event) bool {
	objNamed := slices.Contains([]int{
		impl.EvLoad, impl.EvStore, impl.EvLock, impl.EvUnlock, impl.EvSpawn, impl.EvJoin, impl.EvWait, impl.EvWake, impl.EvSignal,
	}, e.Kind)
	lockNamed := e.Kind == impl.EvWait || e.Kind == impl.EvWake
	known := objNamed || e.Kind == impl.EvLocal || e.Kind == impl.EvEnd || e.Kind == impl.EvFault
	within := e.Obj >= -1 && e.Obj <= 99 && e.Lock >= -1 && e.Lock <= 99 && e.Pc >= 0 && e.Pc <= 99 && e.Thread >= 0 && e.Thread <= 4
	return known && within && !(objNamed && e.Obj == -1) && !(lockNamed && e.Lock == -1)
}

func TestNumbersOfEvents(t *testing.T) {
	good := 0
	for kind := -1; kind <= impl.EvFault+2; kind++ {
		eachList(4, []int{leastInt, -2, -1, 0, 4, 5, 99, 100, greatestInt}, func(nums []int) {
			e := eventOf(nums[0], kind, nums[1], nums[2], nums[3])
			want := goodByWords(e)
			if want {
				good++
			}
			if impl.GoodTrace([]impl.Event{e}) != want {
				t.Fatalf("GoodTrace of %v is not %v", e, want)
			}
		})
	}
	// 2 threads and 4 places; 3 kinds with 5 objects and 5 locks, 7 with one less of the one, 2 of both.
	if want := 2 * 4 * (3*5*5 + 7*4*5 + 2*4*4); good != want {
		t.Errorf("%d events are good, not %d", good, want)
	}
}

func TestEventsAtTheirLimits(t *testing.T) {
	for kind := impl.EvLocal; kind <= impl.EvFault; kind++ {
		for _, e := range []impl.Event{eventOf(0, kind, 0, 0, 0), eventOf(impl.MaxThreads-1, kind, 99, 99, 99)} {
			if !impl.GoodTrace([]impl.Event{e}) {
				t.Errorf("%v is not good", e)
			}
		}
		objFree := kind == impl.EvLocal || kind == impl.EvEnd || kind == impl.EvFault
		if impl.GoodTrace([]impl.Event{eventOf(0, kind, -1, 0, 0)}) != objFree {
			t.Errorf("kind %d with Obj -1", kind)
		}
		lockFree := kind != impl.EvWait && kind != impl.EvWake
		if impl.GoodTrace([]impl.Event{eventOf(0, kind, 0, -1, 0)}) != lockFree {
			t.Errorf("kind %d with Lock -1", kind)
		}
	}
}

func TestTracesOfRunsAreGood(t *testing.T) {
	runsOfEachCode(func(name string, p impl.Prog, r impl.Run) {
		if !impl.GoodTrace(r.Trace) {
			t.Errorf("%s: %v is not good", name, r.Trace)
		}
	})
}

func TestTracesThatAreNotGood(t *testing.T) {
	for _, x := range wrongTraces() {
		if impl.GoodTrace(x) {
			t.Errorf("%v is good", x)
		}
		next, nextOk := impl.NextAfter(x)
		clocks, clocksOk := impl.ClocksOf(x)
		sides, sidesOk := impl.SideBySide(x)
		layers, layersOk := impl.LayersOf(x)
		if nextOk || clocksOk || sidesOk || layersOk || len(next)+len(clocks)+len(sides)+len(layers) > 0 {
			t.Errorf("%v: %v %v %v %v", x, next, clocks, sides, layers)
		}
		for _, i := range []int{leastInt, -1, 0, 1, len(x) - 1, len(x), greatestInt} {
			for _, j := range []int{leastInt, -1, 0, 1, len(x) - 1, len(x), greatestInt} {
				notPlaces(t, x, i, j)
			}
		}
	}
}

// notPlaces asks for the zero answer of AheadIn.
func notPlaces(t *testing.T, x []impl.Event, i int, j int) {
	t.Helper()
	if is, ok := impl.AheadIn(x, i, j); is || ok {
		t.Errorf("AheadIn(%v, %d, %d) %v %v", x, i, j, is, ok)
	}
}

func TestNoEventsAtAll(t *testing.T) {
	for _, none := range [][]impl.Event{nil, {}} {
		next, nextOk := impl.NextAfter(none)
		clocks, clocksOk := impl.ClocksOf(none)
		sides, sidesOk := impl.SideBySide(none)
		layers, layersOk := impl.LayersOf(none)
		if !nextOk || !clocksOk || !sidesOk || !layersOk || len(next)+len(clocks)+len(sides)+len(layers) > 0 {
			t.Error(next, nextOk, clocks, clocksOk, sides, sidesOk, layers, layersOk)
		}
		for _, place := range []int{leastInt, -1, 0, 1, greatestInt} {
			notPlaces(t, none, place, place)
		}
	}
}

// leads asks for the one step from the first of two events of unlike threads to the second, or for none;
// likewise with others between, ahead and behind, that have nothing to do with them.
func leads(t *testing.T, first impl.Event, second impl.Event, want bool) {
	t.Helper()
	rest := local(0)
	for rest.Thread == first.Thread || rest.Thread == second.Thread {
		rest.Thread++
	}
	for _, c := range []struct {
		trace []impl.Event
		i, j  int
	}{
		{[]impl.Event{first, second}, 0, 1},
		{[]impl.Event{first, rest, second}, 0, 2},
		{[]impl.Event{rest, first, second, rest}, 1, 2},
		{[]impl.Event{rest, first, rest, second}, 1, 3},
	} {
		next, ok := impl.NextAfter(c.trace)
		has := slices.ContainsFunc(next, func(pair []int) bool { return slices.Equal(pair, []int{c.i, c.j}) })
		if !ok || has != want {
			t.Errorf("from %v to %v: NextAfter(%v) %v %v", first, second, c.trace, next, ok)
		}
		if is, ok := impl.AheadIn(c.trace, c.i, c.j); !ok || is != want {
			t.Errorf("from %v to %v: AheadIn(%v) %v %v", first, second, c.trace, is, ok)
		}
		if is, ok := impl.AheadIn(c.trace, c.j, c.i); !ok || is {
			t.Errorf("from the later one %v to the elder one %v: %v %v", second, first, is, ok)
		}
	}
}

func TestStepsWithinAThread(t *testing.T) {
	for one := impl.EvLocal; one <= impl.EvFault; one++ {
		for other := impl.EvLocal; other <= impl.EvFault; other++ {
			for thread := range impl.MaxThreads {
				leads(t, eventOf(thread, one, 20, 30, 1), eventOf(thread, other, 40, 50, 0), true)
			}
			leads(t, eventOf(1, one, 20, 30, 1), eventOf(2, other, 40, 50, 0), false)
		}
	}
}

func TestStepsByALock(t *testing.T) {
	// A lock is the Obj of these, and the Lock of those.
	byObj := func(thread int, kind int, lock int) impl.Event { return eventOf(thread, kind, lock, 60, 0) }
	byLock := func(thread int, kind int, lock int) impl.Event { return eventOf(thread, kind, 70, lock, 0) }
	for _, lock := range []int{0, 1, 7, 99} {
		givers := []impl.Event{byObj(1, impl.EvUnlock, lock), byLock(1, impl.EvWait, lock)}
		takers := []impl.Event{byObj(2, impl.EvLock, lock), byLock(2, impl.EvWake, lock)}
		others := []impl.Event{byObj(2, impl.EvLock, lock^1), byLock(2, impl.EvWake, lock^1)}
		for _, giver := range givers {
			for _, taker := range takers {
				leads(t, giver, taker, true)
				leads(t, taker, giver, false)
			}
			for _, other := range others {
				leads(t, giver, other, false)
			}
			for _, other := range givers {
				other.Thread = 2
				leads(t, giver, other, false)
			}
		}
		for _, taker := range takers {
			for _, other := range takers {
				other.Thread = 1
				leads(t, taker, other, false)
			}
		}
	}
}

func TestStepsByTheOtherNumberOfALock(t *testing.T) {
	leads(t, eventOf(1, impl.EvUnlock, 5, 7, 0), eventOf(2, impl.EvLock, 7, 5, 0), false)
	leads(t, eventOf(1, impl.EvUnlock, 5, 7, 0), eventOf(2, impl.EvLock, 5, 6, 0), true)
	leads(t, eventOf(1, impl.EvUnlock, 5, 7, 0), eventOf(2, impl.EvLock, 6, 7, 0), false)
	leads(t, eventOf(1, impl.EvUnlock, 5, 7, 0), eventOf(2, impl.EvWake, 5, 7, 0), false)
	leads(t, eventOf(1, impl.EvUnlock, 5, 7, 0), eventOf(2, impl.EvWake, 7, 5, 0), true)
	leads(t, eventOf(1, impl.EvWait, 5, 7, 0), eventOf(2, impl.EvLock, 5, 7, 0), false)
	leads(t, eventOf(1, impl.EvWait, 5, 7, 0), eventOf(2, impl.EvLock, 7, 5, 0), true)
	leads(t, eventOf(1, impl.EvWait, 5, 7, 0), eventOf(2, impl.EvWake, 5, 6, 0), false)
	leads(t, eventOf(1, impl.EvWait, 5, 7, 0), eventOf(2, impl.EvWake, 6, 7, 0), true)
	// No lock is none that both have.
	leads(t, eventOf(1, impl.EvUnlock, 0, -1, 0), eventOf(2, impl.EvLock, 1, -1, 0), false)
	leads(t, eventOf(1, impl.EvUnlock, 0, -1, 0), local(2), false)
	leads(t, local(1), local(2), false)
}

func TestStepsByASpawn(t *testing.T) {
	for kind := impl.EvLocal; kind <= impl.EvFault; kind++ {
		for thread := range impl.MaxThreads {
			for _, from := range []int{0, 4} {
				for _, obj := range []int{0, 1, 2, 3, 4, 5, 98, 99} {
					spawn := eventOf(from, impl.EvSpawn, obj, (thread+1)%impl.MaxThreads, 0)
					leads(t, spawn, eventOf(thread, kind, 50, 60, 0), from == thread || obj == thread)
				}
			}
		}
	}
	// A spawn's thread is its Obj, not its Lock; and another kind with that Obj spawns none.
	leads(t, eventOf(0, impl.EvSpawn, 9, 2, 0), local(2), false)
	leads(t, eventOf(0, impl.EvLoad, 2, 2, 0), local(2), false)
	leads(t, eventOf(0, impl.EvLocal, 2, 2, 0), local(2), false)
	leads(t, local(2), eventOf(0, impl.EvSpawn, 2, -1, 0), false)
}

func TestStepsByAJoin(t *testing.T) {
	for thread := range impl.MaxThreads {
		other := (thread + 1) % impl.MaxThreads
		for _, obj := range []int{0, 1, 2, 3, 4, 5, 98, 99} {
			join := eventOf(other, impl.EvJoin, obj, thread, 0)
			leads(t, eventOf(thread, impl.EvEnd, -1, -1, 0), join, obj == thread)
			leads(t, eventOf(thread, impl.EvEnd, other, other, 0), join, obj == thread)
			for kind := impl.EvLocal; kind <= impl.EvFault; kind++ {
				if kind != impl.EvEnd && kind != impl.EvSpawn {
					leads(t, eventOf(thread, kind, 50, 60, 0), join, false)
				}
				if kind != impl.EvJoin {
					leads(t, eventOf(thread, impl.EvEnd, -1, -1, 0), eventOf(other, kind, thread, thread, 0), false)
				}
			}
			leads(t, join, eventOf(thread, impl.EvEnd, -1, -1, 0), false)
		}
	}
}

func TestStepsByASignal(t *testing.T) {
	for thread := range impl.MaxThreads {
		other := (thread + 1) % impl.MaxThreads
		for _, lock := range []int{-1, 0, 1, 2, 3, 4, 5, 98, 99} {
			signal := eventOf(other, impl.EvSignal, 9, lock, 0)
			leads(t, signal, eventOf(thread, impl.EvWake, 9, 60, 0), lock == thread)
			leads(t, signal, eventOf(thread, impl.EvWake, 8, 60, 0), lock == thread)
			for kind := impl.EvLocal; kind <= impl.EvFault; kind++ {
				if kind != impl.EvWake {
					leads(t, signal, eventOf(thread, kind, 9, 60, 0), false)
				}
				if kind != impl.EvSignal && kind != impl.EvSpawn && kind != impl.EvWait {
					leads(t, eventOf(other, kind, 9, thread, 0), eventOf(thread, impl.EvWake, 9, 60, 0), false)
				}
			}
		}
		// The one that is woken is told by Lock, not by Obj.
		leads(t, eventOf(other, impl.EvSignal, thread, -1, 0), eventOf(thread, impl.EvWake, thread, 60, 0), false)
		leads(t, eventOf(other, impl.EvSignal, thread, 99, 0), eventOf(thread, impl.EvWake, thread, 99, 0), false)
		leads(t, eventOf(thread, impl.EvWake, 9, 60, 0), eventOf(other, impl.EvSignal, 9, thread, 0), false)
	}
}

// stepByWords says of two events what the document does, the first being the elder.
func stepByWords(i impl.Event, j impl.Event) bool {
	gives := map[int]int{impl.EvUnlock: i.Obj, impl.EvWait: i.Lock}
	takes := map[int]int{impl.EvLock: j.Obj, impl.EvWake: j.Lock}
	given, isGiven := gives[i.Kind]
	taken, isTaken := takes[j.Kind]
	return i.Thread == j.Thread ||
		isGiven && isTaken && given == taken ||
		i.Kind == impl.EvSpawn && i.Obj == j.Thread ||
		i.Kind == impl.EvEnd && j.Kind == impl.EvJoin && j.Obj == i.Thread ||
		i.Kind == impl.EvSignal && j.Kind == impl.EvWake && i.Lock == j.Thread
}

func TestStepsBetweenAllKinds(t *testing.T) {
	var events []impl.Event
	for kind := impl.EvLocal; kind <= impl.EvFault; kind++ {
		for thread := range 3 {
			eachList(2, []int{-1, 0, 1, 2}, func(nums []int) {
				if e := eventOf(thread, kind, nums[0], nums[1], 0); goodByWords(e) {
					events = append(events, e)
				}
			})
		}
	}
	for _, first := range events {
		for _, second := range events {
			trace := []impl.Event{first, second}
			next, ok := impl.NextAfter(trace)
			ahead, is := impl.AheadIn(trace, 0, 1)
			if want := stepByWords(first, second); !ok || !is || ahead != want || (len(next) == 1) != want || want && !slices.Equal(next[0], []int{0, 1}) {
				t.Fatalf("from %v to %v: %v %v", first, second, next, ahead)
			}
		}
	}
}

// handOver is a trace in which the threads 0 to 4 hand on to each other by each of the ways there are.
func handOver() []impl.Event {
	return []impl.Event{
		eventOf(0, impl.EvSpawn, 1, -1, 0), // 0
		eventOf(4, impl.EvLock, 7, -1, 0),  // 1: has nothing to do with the place ahead
		eventOf(1, impl.EvUnlock, 7, -1, 0),
		eventOf(2, impl.EvLock, 7, -1, 0), // 3
		eventOf(2, impl.EvWait, 8, 5, 1),
		eventOf(3, impl.EvWake, 9, 5, 0), // 5
		eventOf(3, impl.EvSignal, 9, 4, 1),
		eventOf(4, impl.EvWake, 3, 6, 1), // 7
		eventOf(4, impl.EvEnd, -1, -1, 2),
		eventOf(0, impl.EvJoin, 4, -1, 1), // 9
	}
}

func TestNextAfterWholly(t *testing.T) {
	next, ok := impl.NextAfter(handOver())
	want := [][]int{{0, 2}, {0, 9}, {1, 7}, {1, 8}, {2, 3}, {3, 4}, {4, 5}, {5, 6}, {6, 7}, {7, 8}, {8, 9}}
	if !ok || !samePlaces(next, want) {
		t.Errorf("%v %v, not %v", next, ok, want)
	}
	// Each later place that fits, not the next one alone.
	trace := []impl.Event{
		eventOf(1, impl.EvUnlock, 0, -1, 0), eventOf(2, impl.EvLock, 0, -1, 0), eventOf(3, impl.EvLock, 0, -1, 0),
		local(1), eventOf(4, impl.EvUnlock, 0, -1, 0), eventOf(2, impl.EvWake, 0, 0, 0),
	}
	want = [][]int{{0, 1}, {0, 2}, {0, 3}, {0, 5}, {1, 5}, {4, 5}}
	if next, ok := impl.NextAfter(trace); !ok || !samePlaces(next, want) {
		t.Errorf("%v %v, not %v", next, ok, want)
	}
}

func TestNextAfterOfOneThread(t *testing.T) {
	trace := slices.Repeat([]impl.Event{local(3)}, impl.MaxBudget)
	next, ok := impl.NextAfter(trace)
	var want [][]int
	for i := range trace {
		for j := i + 1; j < len(trace); j++ {
			want = append(want, []int{i, j})
		}
	}
	if !ok || !samePlaces(next, want) {
		t.Error("a thread's places are not all ahead of its later ones", len(next), ok)
	}
}

// TestWaysOfManySteps has from place 0 steps to two others alone, but ways to all behind these.
func TestWaysOfManySteps(t *testing.T) {
	trace := handOver()
	for place := 2; place <= 9; place++ {
		if is, ok := impl.AheadIn(trace, 0, place); !is || !ok {
			t.Error("no way from 0 to", place, is, ok)
		}
		if is, ok := impl.AheadIn(trace, place, 0); is || !ok {
			t.Error("a way back to 0 from", place, is, ok)
		}
		if is, ok := impl.AheadIn(trace, 1, place); is != (place >= 7) || !ok {
			t.Error("from 1 to", place, is, ok)
		}
	}
	if is, ok := impl.AheadIn(trace, 0, 1); is || !ok {
		t.Error("a way from 0 to 1", is, ok)
	}
}

// TestWaysDoNotGoBack has steps that would meet, were the places in another order.
func TestWaysDoNotGoBack(t *testing.T) {
	trace := []impl.Event{eventOf(2, impl.EvLock, 1, -1, 0), eventOf(1, impl.EvUnlock, 1, -1, 0), eventOf(0, impl.EvSpawn, 1, -1, 0), local(3)}
	for i := range trace {
		for j := range trace {
			if is, ok := impl.AheadIn(trace, i, j); is || !ok {
				t.Errorf("from %d to %d: %v %v", i, j, is, ok)
			}
		}
	}
	next, ok := impl.NextAfter(trace)
	if !ok || len(next) > 0 {
		t.Error(next, ok)
	}
}

func TestPlacesOfAheadIn(t *testing.T) {
	for _, many := range []int{1, 2, 10, impl.MaxBudget} {
		trace := slices.Repeat([]impl.Event{local(2)}, many)
		for place := range many {
			if is, ok := impl.AheadIn(trace, place, place); is || !ok {
				t.Error("a place and itself", many, place, is, ok)
			}
			for _, wrong := range []int{leastInt, -2, -1, many, many + 1, greatestInt} {
				notPlaces(t, trace, place, wrong)
				notPlaces(t, trace, wrong, place)
				notPlaces(t, trace, wrong, wrong)
			}
		}
		if is, ok := impl.AheadIn(trace, 0, many-1); is != (many > 1) || !ok {
			t.Error("the first and the last", many, is, ok)
		}
		if is, ok := impl.AheadIn(trace, many-1, 0); is || !ok {
			t.Error("the last and the first", many, is, ok)
		}
	}
}
