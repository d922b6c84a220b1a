package tests

import (
	"slices"
	"testing"

	"loop.example/g00696/impl"
)

// fastByWords looks back from each place, where the document looks forward.
func fastByWords(trace []impl.Event) (int, int, bool) {
	clocks := clocksByTrying(trace, waysByTrying(trace))
	for place, e := range trace {
		if touchesCell(e) && isRacy(trace[:place], e, clocks[place]) {
			return e.Obj, place, true
		}
	}
	return 0, 0, false
}

// isRacy goes back to the last store of the event's cell.
func isRacy(elders []impl.Event, e impl.Event, clock []int) bool {
	for place, elder := range slices.Backward(elders) {
		if !touchesCell(elder) || elder.Obj != e.Obj {
			continue
		}
		number := 0
		for _, other := range elders[:place+1] {
			if other.Thread == elder.Thread {
				number++
			}
		}
		counts := elder.Kind == impl.EvStore || e.Kind == impl.EvStore
		if counts && number > clock[elder.Thread] {
			return true
		}
		if elder.Kind == impl.EvStore {
			return false
		}
	}
	return false
}

// finds asks for promise 7 of a good trace: FastRace by the document's words, and by whole clocks.
func finds(t *testing.T, trace []impl.Event) bool {
	t.Helper()
	cell, place, ok := impl.FastRace(trace)
	if c, p, is := fastByWords(trace); c != cell || p != place || is != ok {
		t.Fatalf("FastRace(%v) %d %d %v, not %d %d %v", trace, cell, place, ok, c, p, is)
	}
	race, is := impl.FirstRace(trace)
	if is != ok || race.Cell != cell || race.Second != place {
		t.Fatalf("FastRace(%v) %d %d %v, but FirstRace %v %v", trace, cell, place, ok, race, is)
	}
	races, told := impl.RacesIn(trace)
	if want := racesByTrying(trace); !told || !slices.Equal(races, want) {
		t.Fatalf("RacesIn(%v) %v %v, not %v", trace, races, told, want)
	}
	if cells, told := impl.RacyCells(trace); !told || !slices.Equal(cells, cellsByTrying(races)) {
		t.Fatalf("RacyCells(%v) %v %v, not those of %v", trace, cells, told, races)
	}
	return ok
}

// isFast asks for a place, or for none where it is -1.
func isFast(t *testing.T, trace []impl.Event, cell int, place int) {
	t.Helper()
	c, p, ok := impl.FastRace(trace)
	if place == -1 && (ok || c != 0 || p != 0) || place != -1 && (!ok || c != cell || p != place) {
		t.Errorf("FastRace(%v) %d %d %v, not %d %d", trace, c, p, ok, cell, place)
	}
	finds(t, trace)
}

func TestLastStoreDecides(t *testing.T) {
	handed := []impl.Event{stores(0, 6), gives(0, 1), takes(1, 1), stores(1, 6)}
	with := func(more ...impl.Event) []impl.Event { return append(slices.Clone(handed), more...) }
	// Thread 2 has seen the elder store alone.
	isFast(t, with(takes(2, 1), loads(2, 6)), 6, 5)
	isFast(t, with(takes(2, 1), stores(2, 6)), 6, 5)
	// It has seen the last one, and so the elder one by it.
	isFast(t, with(gives(1, 2), takes(2, 2), loads(2, 6)), 6, -1)
	isFast(t, with(gives(1, 2), takes(2, 2), stores(2, 6)), 6, -1)
	isFast(t, with(gives(1, 2), takes(2, 2), stores(2, 6), takes(3, 2), loads(3, 6)), 6, 8)
	// The thread of the elder store comes back to the cell with or without having seen the last one.
	isFast(t, with(loads(0, 6)), 6, 4)
	isFast(t, with(stores(0, 6)), 6, 4)
	isFast(t, with(gives(1, 2), takes(0, 2), loads(0, 6), stores(0, 6)), 6, -1)
	// The thread of the last store itself.
	isFast(t, with(loads(1, 6), stores(1, 6), stores(1, 6), loads(1, 6)), 6, -1)
	isFast(t, with(stores(1, 6), takes(2, 1), loads(2, 6)), 6, 6)
}

// TestLaterStoreOfOneThread has a second store that the other thread has not seen.
func TestLaterStoreOfOneThread(t *testing.T) {
	for _, second := range []impl.Event{loads(1, 0), stores(1, 0)} {
		isFast(t, []impl.Event{stores(0, 0), gives(0, 3), stores(0, 0), takes(1, 3), second}, 0, 4)
		isFast(t, []impl.Event{stores(0, 0), stores(0, 0), gives(0, 3), takes(1, 3), second}, 0, -1)
		isFast(t, []impl.Event{stores(0, 0), gives(0, 3), loads(0, 0), takes(1, 3), second}, 0, map[int]int{impl.EvLoad: -1, impl.EvStore: 4}[second.Kind])
		isFast(t, []impl.Event{stores(0, 0), loads(0, 0), gives(0, 3), takes(1, 3), second}, 0, -1)
	}
}

// TestLoadsAheadOfTheLastStore count no more: who has seen that store has seen them.
func TestLoadsAheadOfTheLastStore(t *testing.T) {
	seen := []impl.Event{loads(0, 8), gives(0, 1), loads(1, 8), takes(1, 1), stores(1, 8), gives(1, 2), takes(2, 2)}
	isFast(t, append(slices.Clone(seen), stores(2, 8)), 8, -1)
	isFast(t, append(slices.Clone(seen), loads(2, 8), stores(2, 8)), 8, -1)
	// A load behind that store does count, of the same thread or of another one.
	isFast(t, append(slices.Clone(seen), loads(1, 8), loads(2, 8)), 8, -1)
	isFast(t, append(slices.Clone(seen), loads(1, 8), stores(2, 8)), 8, 8)
	isFast(t, append(slices.Clone(seen), takes(3, 2), loads(3, 8), stores(2, 8)), 8, 9)
	isFast(t, append(slices.Clone(seen), takes(3, 2), loads(3, 8), gives(3, 4), takes(2, 4), stores(2, 8)), 8, -1)
}

func TestLoadsBySeveralThreads(t *testing.T) {
	for racer := range 4 {
		// All but one hand their lock on to thread 4 behind their load.
		var trace []impl.Event
		for thread := range 4 {
			trace = append(trace, loads(thread, 1))
			if thread != racer {
				trace = append(trace, gives(thread, 10+thread), takes(4, 10+thread))
			}
		}
		isFast(t, append(slices.Clone(trace), loads(4, 1)), 1, -1)
		isFast(t, append(slices.Clone(trace), stores(4, 1)), 1, len(trace))
		isFast(t, append(slices.Clone(trace), stores(4, 2)), 1, -1)
		isFast(t, append(slices.Clone(trace), gives(racer, 20), takes(4, 20), stores(4, 1)), 1, -1)
		isFast(t, append(slices.Clone(trace), gives(racer, 20), takes(4, 20), loads(racer, 1), stores(4, 1)), 1, len(trace)+3)
	}
	// The last load of a thread decides, not its first one.
	isFast(t, []impl.Event{loads(0, 1), gives(0, 2), loads(0, 1), takes(1, 2), stores(1, 1)}, 1, 4)
	isFast(t, []impl.Event{loads(0, 1), loads(0, 1), gives(0, 2), takes(1, 2), stores(1, 1)}, 1, -1)
}

// TestNumbersNextToTheClock has a number that is one less and one more than the clock has. A
// number just as great can be met by no trace: what touches a cell is right ahead of its own thread's
// events alone, so whoever has seen it has seen one more of that thread.
func TestNumbersNextToTheClock(t *testing.T) {
	for _, first := range []impl.Event{loads(0, 3), stores(0, 3)} {
		for ahead := range 4 {
			start := slices.Repeat([]impl.Event{local(0)}, ahead)
			isFast(t, append(slices.Clone(start), first, gives(0, 5), takes(1, 5), stores(1, 3)), 3, -1)
			isFast(t, append(slices.Clone(start), gives(0, 5), first, takes(1, 5), stores(1, 3)), 3, ahead+3)
		}
	}
	d := draws(71)
	for range 300 {
		trace := madeUpTrace(&d, 25)
		leads := waysByTrying(trace)
		clocks := clocksByTrying(trace, leads)
		for i, e := range trace {
			number := 0
			for _, other := range trace[:i+1] {
				if other.Thread == e.Thread {
					number++
				}
			}
			for j := i + 1; j < len(trace) && touchesCell(e); j++ {
				if trace[j].Thread != e.Thread && clocks[j][e.Thread] == number {
					t.Fatalf("in %v %d has seen %d as the last one of its thread", trace, j, i)
				}
			}
		}
	}
}

func TestCellsAreKnownApart(t *testing.T) {
	isFast(t, []impl.Event{stores(0, 0), stores(1, 1), stores(2, 2), loads(0, 3), stores(3, 4)}, 0, -1)
	isFast(t, []impl.Event{loads(0, 0), loads(1, 1), stores(1, 2), stores(0, 0), stores(1, 1), loads(1, 2)}, 0, -1)
	// A store of one cell lets the loads of another one be.
	isFast(t, []impl.Event{loads(0, 0), stores(0, 1), stores(1, 0)}, 0, 2)
	isFast(t, []impl.Event{loads(0, 0), loads(0, 1), stores(0, 1), stores(1, 0)}, 0, 3)
	isFast(t, []impl.Event{stores(0, 0), stores(0, 99), loads(1, 99), loads(1, 0)}, 99, 2)
	isFast(t, []impl.Event{eventOf(0, impl.EvLock, 4, -1, 0), stores(1, 4), eventOf(2, impl.EvSignal, 4, -1, 0)}, 0, -1)
}

// carefulEvents are those of a thread that takes a lock around what it does, nearly always the one of the cell.
func carefulEvents(d *draws) []impl.Event {
	thread, cell := d.below(impl.MaxThreads), d.below(3)
	lock := cell
	if d.below(40) == 0 {
		lock = d.below(4)
	}
	events := []impl.Event{takes(thread, lock)}
	if d.below(20) == 0 {
		events[0] = eventOf(thread, impl.EvWake, 0, lock, 0)
	}
	for range 1 + d.below(3) {
		events = append(events, eventOf(thread, impl.EvLoad+d.below(2), cell, -1, 0))
	}
	switch d.below(20) {
	case 0:
		return append(events, eventOf(thread, impl.EvWait, 0, lock, 0))
	case 1:
		return append(events, local(thread))
	}
	return append(events, gives(thread, lock))
}

func carefulTrace(d *draws, many int) []impl.Event {
	var trace []impl.Event
	for len(trace) < many {
		trace = append(trace, carefulEvents(d)...)
	}
	return trace[:many]
}

func TestFastRaceOfTracesThatNoRunHas(t *testing.T) {
	d := draws(72)
	racy, late, free := 0, 0, 0
	see := func(trace []impl.Event) {
		if !finds(t, trace) {
			free++
			return
		}
		racy++
		if _, place, _ := impl.FastRace(trace); place > 25 {
			late++
		}
	}
	for range 1500 {
		see(madeUpTrace(&d, d.below(30)))
		see(carefulTrace(&d, d.below(60)))
	}
	for range 20 {
		see(madeUpTrace(&d, impl.MaxBudget))
		see(carefulTrace(&d, impl.MaxBudget))
	}
	if racy < 500 || late < 100 || free < 500 {
		t.Error("too few traces with a race, a late one, or none", racy, late, free)
	}
}

// TestFastRaceOfAllSmallTraces goes through all traces of up to five events, of two threads and a third that only looks on.
func TestFastRaceOfAllSmallTraces(t *testing.T) {
	events := []impl.Event{
		loads(0, 0), stores(0, 0), loads(1, 0), stores(1, 0), gives(0, 1), takes(1, 1), gives(1, 2), takes(0, 2), stores(2, 0),
	}
	racy, all := 0, 0
	eachSmallTrace(5, events, func(trace []impl.Event) {
		all++
		if finds(t, trace) {
			racy++
		}
	})
	if racy < all/4 || racy > all*3/4 {
		t.Error("too many, or too few, have a race", racy, all)
	}
}

func TestFastRaceOfRuns(t *testing.T) {
	d := draws(73)
	racy, free := 0, 0
	see := func(p impl.Prog, budget int) {
		r, ok := impl.RunPicks(p, madeUpPicks(&d), budget)
		if !ok {
			t.Fatal("no run", p, budget)
		}
		if finds(t, r.Trace) {
			racy++
		} else if slices.ContainsFunc(r.Trace, func(e impl.Event) bool { return e.Kind == impl.EvStore }) {
			free++
		}
	}
	guarded := "lock 0; load 0; push 1p0; add; store 0; unlock 0"
	open := "lock 0; load 0; push 1p0; add; unlock 0; store 0"
	sleeper := "lock 0; wait 0 0; load 0; store 1; unlock 0"
	waker := "lock 0; push 1p0; store 0; signal 0; unlock 0; load 0"
	for range 300 {
		see(madeUpProg(&d), 40)
		see(written(1, 1, 0, "spawn 1; spawn 1; spawn 1; join; load 0", guarded), impl.MaxBudget)
		see(written(1, 1, 0, "spawn 1; spawn 1; join; join; load 0; store 0", guarded), impl.MaxBudget)
		see(written(1, 1, 0, "spawn 1; spawn 2; spawn 1", guarded, open), impl.MaxBudget)
		see(written(2, 1, 1, "spawn 1; spawn 1; spawn 2; spawn 2", sleeper, waker), impl.MaxBudget)
	}
	runsOfEachCode(func(_ string, _ impl.Prog, r impl.Run) { finds(t, r.Trace) })
	if racy < 200 || free < 200 {
		t.Error("too few runs with a race, or with stores and none", racy, free)
	}
}
