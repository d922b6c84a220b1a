package tests

import (
	"slices"
	"testing"

	"loop.example/g00696/impl"
)

func loads(thread int, cell int) impl.Event {
	return eventOf(thread, impl.EvLoad, cell, -1, 0)
}

func stores(thread int, cell int) impl.Event {
	return eventOf(thread, impl.EvStore, cell, -1, 0)
}

func takes(thread int, lock int) impl.Event {
	return eventOf(thread, impl.EvLock, lock, -1, 0)
}

func gives(thread int, lock int) impl.Event {
	return eventOf(thread, impl.EvUnlock, lock, -1, 0)
}

func touchesCell(e impl.Event) bool {
	return e.Kind == impl.EvLoad || e.Kind == impl.EvStore
}

// racesByTrying goes by ways of steps that were found by trying, the later place first.
func racesByTrying(trace []impl.Event) []impl.Race {
	leads := waysByTrying(trace)
	var races []impl.Race
	for second, b := range trace {
		for first := range second {
			a := trace[first]
			touch := touchesCell(a) && touchesCell(b) && a.Obj == b.Obj
			puts := a.Kind == impl.EvStore || b.Kind == impl.EvStore
			if touch && puts && a.Thread != b.Thread && !leads[first][second] {
				races = append(races, impl.Race{Cell: a.Obj, First: first, Second: second})
			}
		}
	}
	return races
}

func cellsByTrying(races []impl.Race) []int {
	var cells []int
	for cell := range 100 {
		if slices.ContainsFunc(races, func(r impl.Race) bool { return r.Cell == cell }) {
			cells = append(cells, cell)
		}
	}
	return cells
}

// hasRaces asks of a good trace for all that is told of its races.
func hasRaces(t *testing.T, trace []impl.Event, want ...impl.Race) {
	t.Helper()
	if races, ok := impl.RacesIn(trace); !ok || !slices.Equal(races, want) {
		t.Errorf("RacesIn(%v) %v %v, not %v", trace, races, ok, want)
	}
	var first impl.Race
	if len(want) > 0 {
		first = want[0]
	}
	if race, ok := impl.FirstRace(trace); ok != (len(want) > 0) || race != first {
		t.Errorf("FirstRace(%v) %v %v, not %v", trace, race, ok, first)
	}
	if cell, place, ok := impl.FastRace(trace); ok != (len(want) > 0) || cell != first.Cell || place != first.Second {
		t.Errorf("FastRace(%v) %v %v %v, not %v", trace, cell, place, ok, first)
	}
	if cells, ok := impl.RacyCells(trace); !ok || !slices.Equal(cells, cellsByTrying(want)) {
		t.Errorf("RacyCells(%v) %v %v, not %v", trace, cells, ok, cellsByTrying(want))
	}
}

func TestRacesOfTwo(t *testing.T) {
	for _, cell := range []int{0, 1, 98, 99} {
		race := impl.Race{Cell: cell, First: 0, Second: 1}
		for _, threads := range [][2]int{{0, 1}, {1, 0}, {0, 4}, {4, 0}, {2, 3}} {
			a, b := threads[0], threads[1]
			hasRaces(t, []impl.Event{stores(a, cell), stores(b, cell)}, race)
			hasRaces(t, []impl.Event{loads(a, cell), stores(b, cell)}, race)
			hasRaces(t, []impl.Event{stores(a, cell), loads(b, cell)}, race)
			hasRaces(t, []impl.Event{loads(a, cell), loads(b, cell)})
		}
		for thread := range impl.MaxThreads {
			for _, pair := range [][]impl.Event{
				{stores(thread, cell), stores(thread, cell)}, {loads(thread, cell), stores(thread, cell)},
				{stores(thread, cell), loads(thread, cell)}, {loads(thread, cell), loads(thread, cell)},
			} {
				hasRaces(t, pair)
			}
		}
	}
}

func TestNoRacesOfUnlikeCells(t *testing.T) {
	for _, cells := range [][2]int{{0, 1}, {1, 0}, {0, 99}, {99, 98}} {
		hasRaces(t, []impl.Event{stores(0, cells[0]), stores(1, cells[1])})
		hasRaces(t, []impl.Event{stores(0, cells[0]), loads(1, cells[1])})
		hasRaces(t, []impl.Event{loads(0, cells[0]), stores(1, cells[1])})
	}
	hasRaces(t, nil)
	hasRaces(t, []impl.Event{})
	hasRaces(t, []impl.Event{stores(0, 0)})
	hasRaces(t, []impl.Event{loads(4, 99)})
}

// TestNoRacesOfOtherKinds has events with the cell's number as Obj that touch no cell.
func TestNoRacesOfOtherKinds(t *testing.T) {
	for kind := impl.EvLocal; kind <= impl.EvFault; kind++ {
		if kind == impl.EvLoad || kind == impl.EvStore {
			continue
		}
		other := eventOf(0, kind, 1, 1, 0)
		hasRaces(t, []impl.Event{other, stores(2, 1)})
		hasRaces(t, []impl.Event{stores(2, 1), other})
		hasRaces(t, []impl.Event{other, eventOf(3, kind, 1, 1, 0)})
	}
	// What Lock and Pc are makes no difference to those that touch a cell.
	odd := []impl.Event{eventOf(0, impl.EvStore, 3, 99, 99), eventOf(1, impl.EvLoad, 3, 0, 7)}
	hasRaces(t, odd, impl.Race{Cell: 3, First: 0, Second: 1})
	// An event with no Obj at all has no cell in common with another one.
	hasRaces(t, []impl.Event{local(0), local(1), eventOf(2, impl.EvEnd, -1, -1, 0)})
}

// ordered are traces whose first event is ahead of the last one by a way of two steps at least.
func ordered() [][]impl.Event {
	first, last := stores(0, 5), stores(1, 5)
	return [][]impl.Event{
		{first, gives(0, 7), takes(1, 7), last},
		{first, eventOf(0, impl.EvSpawn, 1, -1, 0), last},
		{first, eventOf(0, impl.EvEnd, -1, -1, 0), eventOf(1, impl.EvJoin, 0, -1, 0), last},
		{first, eventOf(0, impl.EvSignal, 2, 1, 0), eventOf(1, impl.EvWake, 3, 4, 0), last},
		{first, eventOf(0, impl.EvWait, 2, 6, 0), takes(1, 6), last},
		{first, gives(0, 6), eventOf(1, impl.EvWake, 0, 6, 0), last},
		{first, local(0), gives(0, 7), takes(2, 7), local(2), gives(2, 8), takes(3, 8), eventOf(3, impl.EvSpawn, 1, -1, 0), local(1), last},
		{first, gives(0, 7), takes(4, 7), eventOf(4, impl.EvSignal, 0, 3, 0), eventOf(3, impl.EvWake, 0, 1, 0), eventOf(3, impl.EvEnd, -1, -1, 0), eventOf(1, impl.EvJoin, 3, -1, 0), last},
	}
}

func TestNoRacesOfOrdered(t *testing.T) {
	for _, trace := range ordered() {
		for _, kinds := range [][2]int{{impl.EvStore, impl.EvStore}, {impl.EvLoad, impl.EvStore}, {impl.EvStore, impl.EvLoad}} {
			last := len(trace) - 1
			trace[0].Kind, trace[last].Kind = kinds[0], kinds[1]
			hasRaces(t, trace)
			// With any one step of the way left out there is a race.
			for without := 1; without < last; without++ {
				if trace[without].Kind == impl.EvLocal {
					continue
				}
				broken := slices.Clone(trace)
				broken[without] = local(trace[without].Thread)
				hasRaces(t, broken, impl.Race{Cell: 5, First: 0, Second: last})
			}
			// The way leads in the order of the places alone.
			back := slices.Clone(trace)
			slices.Reverse(back)
			hasRaces(t, back, impl.Race{Cell: 5, First: 0, Second: last})
		}
	}
}

func TestOrderOfRaces(t *testing.T) {
	race := func(cell int, first int, second int) impl.Race {
		return impl.Race{Cell: cell, First: first, Second: second}
	}
	// Several with one Second, by First.
	hasRaces(t, []impl.Event{loads(3, 1), loads(0, 1), loads(2, 1), loads(1, 1), stores(4, 1)}, race(1, 0, 4), race(1, 1, 4), race(1, 2, 4), race(1, 3, 4))
	hasRaces(t, []impl.Event{stores(0, 2), stores(1, 2), stores(2, 2)}, race(2, 0, 1), race(2, 0, 2), race(2, 1, 2))
	// By Second first: that of the later First comes ahead, and so does that of the greater cell.
	hasRaces(t, []impl.Event{stores(0, 1), stores(0, 9), loads(1, 9), loads(1, 1)}, race(9, 1, 2), race(1, 0, 3))
	hasRaces(t, []impl.Event{stores(0, 9), stores(0, 1), loads(1, 1), loads(1, 9)}, race(1, 1, 2), race(9, 0, 3))
	// One cell with several races is told once; one with loads alone is not told.
	hasRaces(t, []impl.Event{loads(0, 4), loads(1, 4), stores(0, 9), stores(1, 3), stores(1, 9), loads(2, 3), loads(3, 9)},
		race(9, 2, 4), race(3, 3, 5), race(9, 2, 6), race(9, 4, 6))
	// A store that is in order with one of two loads races with the other one alone.
	hasRaces(t, []impl.Event{loads(0, 0), loads(1, 0), gives(0, 0), takes(2, 0), stores(2, 0)}, race(0, 1, 4))
	hasRaces(t, []impl.Event{loads(0, 0), loads(1, 0), gives(1, 0), takes(2, 0), stores(2, 0)}, race(0, 0, 4))
	// The first race is not the one with the least First.
	hasRaces(t, []impl.Event{stores(0, 7), local(1), stores(2, 8), loads(3, 8), stores(4, 7)}, race(8, 2, 3), race(7, 0, 4))
}

func TestRacesOfRuns(t *testing.T) {
	open := written(2, 1, 0, "spawn 1; push 1p0; store 0; lock 0; push 1p0; store 1; unlock 0", "load 0; lock 0; load 1; unlock 0")
	see := func(threads []int, want ...impl.Race) {
		t.Helper()
		r, ok := impl.RunThreads(open, threads)
		if !ok {
			t.Fatal("no run", threads)
		}
		hasRaces(t, r.Trace, want...)
	}
	see([]int{0, 1, 0, 0, 0, 0, 0, 0, 1, 1, 1}, impl.Race{Cell: 0, First: 1, Second: 3})
	see([]int{0, 0, 0, 0, 0, 0, 0, 1, 1, 1, 1}, impl.Race{Cell: 0, First: 2, Second: 7})
	see([]int{0, 1, 1, 1, 1, 0, 0, 0, 0, 0, 0}, impl.Race{Cell: 0, First: 1, Second: 6})
	r, _ := impl.RunPicks(joiner(), nil, impl.MaxBudget)
	hasRaces(t, r.Trace)
}

func TestAsManyRacesAsMayBe(t *testing.T) {
	var trace []impl.Event
	var want []impl.Race
	for second := range impl.MaxBudget {
		trace = append(trace, stores(second%impl.MaxThreads, 42))
		for first := range second {
			if first%impl.MaxThreads != second%impl.MaxThreads {
				want = append(want, impl.Race{Cell: 42, First: first, Second: second})
			}
		}
	}
	hasRaces(t, trace, want...)
	if len(want) != 16000 {
		t.Error(len(want))
	}
}

// TestRacyCellsAreRising asks again and again: the cells come in no other order.
func TestRacyCellsAreRising(t *testing.T) {
	var down, mixed []impl.Event
	var all []int
	for i := range 100 {
		down = append(down, stores(0, 99-i), loads(1, 99-i))
		mixed = append(mixed, stores(i%2, i*37%100), loads(2, i*37%100))
		all = append(all, i)
	}
	for range 20 {
		for _, trace := range [][]impl.Event{down, mixed} {
			if cells, ok := impl.RacyCells(trace); !ok || !slices.Equal(cells, all) {
				t.Fatal(cells, ok)
			}
		}
	}
}
