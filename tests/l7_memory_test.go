package tests

import (
	"slices"
	"testing"

	"loop.example/g00696/impl"
)

// racyTraces have races and locks of several cells.
func racyTraces() [][]impl.Event {
	d := draws(76)
	shared := []impl.Event{takes(0, 3), takes(0, 1), stores(0, 2), stores(0, 1), takes(1, 3), loads(1, 2), loads(1, 1), stores(2, 0), stores(3, 0)}
	return append(tracesToHold(), shared, ordered()[0], madeUpTrace(&d, 60), carefulTrace(&d, 60))
}

// answersOfRaces are those with lists; a race is a list of its numbers.
func answersOfRaces(trace []impl.Event) [][]int {
	var all [][]int
	races, _ := impl.RacesIn(trace)
	for _, race := range races {
		all = append(all, []int{race.Cell, race.First, race.Second})
	}
	cells, _ := impl.RacyCells(trace)
	shared, _ := impl.SharedLocks(trace)
	all = append(append(all, cells), shared...)
	for place := range trace {
		held, _ := impl.LocksHeld(trace, place)
		all = append(all, held)
	}
	first, found := impl.FirstRace(trace)
	cell, place, fast := impl.FastRace(trace)
	all = append(all, []int{first.Cell, first.First, first.Second}, []int{cell, place})
	if found != fast {
		panic("single clocks and whole clocks")
	}
	return all
}

func TestRacyTracesAreNotWrittenInto(t *testing.T) {
	for _, trace := range racyTraces() {
		want := answersOfRaces(slices.Clip(slices.Clone(trace)))
		for _, behind := range []impl.Event{stores(4, 2), takes(0, 98), gives(0, 1), eventOf(0, impl.EvLoad, 99, -1, 99), {Thread: mark}} {
			held := marked(trace, behind)
			if got := answersOfRaces(held); !samePlaces(got, want) {
				t.Errorf("what lies behind the trace was read: %v, not %v", got, want)
			}
			noPlace(t, held, -1, len(held), len(held)+1)
			traceStays(t, held, trace, behind)
		}
	}
}

// TestAnswersOfRacesAreMemoryOfTheirOwn writes all over each answer, as far as its memory goes, and asks again.
func TestAnswersOfRacesAreMemoryOfTheirOwn(t *testing.T) {
	for _, trace := range racyTraces() {
		kept := slices.Clone(trace)
		want := answersOfRaces(trace)
		races, _ := impl.RacesIn(trace)
		for i := range races[:cap(races)] {
			races[:cap(races)][i] = impl.Race{Cell: mark, First: mark, Second: mark}
		}
		cells, _ := impl.RacyCells(trace)
		fill(cells)
		shared, _ := impl.SharedLocks(trace)
		for _, list := range shared {
			fill(list)
		}
		for place := range trace {
			held, _ := impl.LocksHeld(trace, place)
			fill(held)
		}
		if got := answersOfRaces(trace); !samePlaces(got, want) {
			t.Errorf("something is kept from call to call: %v, not %v", got, want)
		}
		if !slices.Equal(trace, kept) {
			t.Error("an answer shares memory with the trace")
		}
	}
}

func TestListsOfSharedLocksShareNoMemory(t *testing.T) {
	many := 0
	for _, trace := range racyTraces() {
		lists, _ := impl.SharedLocks(trace)
		want := copyOfLists(lists)
		for i := range lists {
			fill(lists[i])
			fill(append(lists[i], mark))
			for j := i + 1; j < len(lists); j++ {
				many++
				if !slices.Equal(lists[j], want[j]) {
					t.Fatalf("of %v the lists %d and %d share memory", trace, i, j)
				}
			}
		}
		for i := range lists {
			if len(lists[i]) != len(want[i]) || slices.ContainsFunc(lists[i], func(n int) bool { return n != mark }) {
				t.Fatalf("a list shares memory with another one: %v", lists)
			}
		}
	}
	if many < 10 {
		t.Error("too few lists", many)
	}
}

// TestNothingLiesBehindAnswersOfRaces asks for a capacity that ends with the list, or for zeros there.
func TestNothingLiesBehindAnswersOfRaces(t *testing.T) {
	isZero := func(list []int) bool {
		return !slices.ContainsFunc(list[len(list):cap(list)], func(n int) bool { return n != 0 })
	}
	for _, trace := range racyTraces() {
		races, _ := impl.RacesIn(trace)
		for _, race := range races[len(races):cap(races)] {
			if race != (impl.Race{}) {
				t.Error("behind the races", race)
			}
		}
		cells, _ := impl.RacyCells(trace)
		lists, _ := impl.SharedLocks(trace)
		for place := range trace {
			held, _ := impl.LocksHeld(trace, place)
			lists = append(lists, held)
		}
		for _, list := range append(lists, cells) {
			if !isZero(list) {
				t.Errorf("%v lies behind %v", list[len(list):cap(list)], list)
			}
		}
	}
}

// hasNoRaces asks for all zero answers of what is no good trace.
func hasNoRaces(t *testing.T, x []impl.Event) {
	t.Helper()
	races, racesOk := impl.RacesIn(x)
	cells, cellsOk := impl.RacyCells(x)
	lists, listsOk := impl.SharedLocks(x)
	if racesOk || cellsOk || listsOk || len(races)+len(cells)+len(lists) > 0 {
		t.Errorf("%v: %v %v %v", x, races, cells, lists)
	}
	if race, ok := impl.FirstRace(x); ok || race != (impl.Race{}) {
		t.Errorf("FirstRace(%v) %v %v", x, race, ok)
	}
	if cell, place, ok := impl.FastRace(x); ok || cell != 0 || place != 0 {
		t.Errorf("FastRace(%v) %v %v %v", x, cell, place, ok)
	}
	noPlace(t, x, leastInt, -1, 0, 1, len(x)/2, len(x)-1, len(x), len(x)+1, greatestInt)
}

// TestRacesOfTracesThatAreNotGood has what would be a race, a shared lock or a lock held, were the trace good.
func TestRacesOfTracesThatAreNotGood(t *testing.T) {
	racy := []impl.Event{takes(0, 1), takes(1, 1), stores(0, 3), stores(1, 3)}
	for _, x := range wrongTraces() {
		hasNoRaces(t, x)
	}
	for _, e := range wrongEvents() {
		hasNoRaces(t, append(slices.Clone(racy), e))
		hasNoRaces(t, append([]impl.Event{e}, racy...))
		hasNoRaces(t, slices.Concat(racy[:2], []impl.Event{e}, racy[2:]))
	}
	long := slices.Repeat(racy, impl.MaxBudget/len(racy)+1)
	hasNoRaces(t, long[:impl.MaxBudget+1])
	hasNoRaces(t, long)
	if _, ok := impl.FirstRace(long[:impl.MaxBudget]); !ok {
		t.Error("a trace as long as may be")
	}
	// A wrong load or store itself.
	for _, cell := range []int{leastInt, -1, 100, greatestInt} {
		hasNoRaces(t, []impl.Event{stores(0, cell), stores(1, cell)})
		hasNoRaces(t, []impl.Event{takes(0, cell), loads(0, 1)})
	}
	for _, thread := range []int{leastInt, -1, impl.MaxThreads, greatestInt} {
		hasNoRaces(t, []impl.Event{stores(0, 1), stores(thread, 1)})
	}
}

func TestPlacesOfNoEvents(t *testing.T) {
	for _, trace := range [][]impl.Event{nil, {}} {
		noPlace(t, trace, leastInt, -1, 0, 1, greatestInt)
		cells, ok := impl.RacyCells(trace)
		if !ok || len(cells) > 0 {
			t.Error(cells, ok)
		}
	}
}
