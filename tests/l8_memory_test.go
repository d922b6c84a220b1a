package tests

import (
	"slices"
	"testing"

	"loop.example/g00696/impl"
)

// lockTraces have pairs, circles, gates and guarded warnings among them.
func lockTraces() [][]impl.Event {
	d := draws(84)
	gated := crossing(0, 1, 1, 2, [2][]int{{5, 7, 9}, {9, 7, 5}})
	open := slices.Concat(crossing(2, 3, 9, 3, [2][]int{}), crossing(3, 4, 0, 8, [2][]int{}), crossing(4, 0, 6, 1, [2][]int{}))
	return append(tracesToHold(), gated, open, nested(2, 10, 9), inRing(4, 9, 6), rankedTrace(&d, 40, 5, 1), madeUpTrace(&d, 60))
}

// listsOfLocks are the answers that are lists of lists.
func listsOfLocks() map[string]func(t []impl.Event) ([][]int, bool) {
	return map[string]func(t []impl.Event) ([][]int, bool){"LockPairs": impl.LockPairs, "WarnsGuarded": impl.WarnsGuarded}
}

// listsByName are all answers that are lists, an Under a list of its numbers.
func listsByName(trace []impl.Event) map[string][][]int {
	all := map[string][][]int{}
	unders, _ := impl.UndersIn(trace)
	for _, u := range unders {
		all["UndersIn"] = append(all["UndersIn"], []int{u.Had, u.Taken, u.Thread, u.At})
	}
	for name, ask := range listsOfLocks() {
		all[name], _ = ask(trace)
	}
	circle, _ := impl.WarnsOf(trace)
	order, _ := impl.OrderOf(trace)
	all["WarnsOf"], all["OrderOf"] = [][]int{circle}, [][]int{order}
	for a := range 10 {
		for b := range 10 {
			gate, _ := impl.GateOf(trace, a, b)
			all["GateOf"] = append(all["GateOf"], gate)
		}
	}
	return all
}

func sameByName(t *testing.T, what string, got map[string][][]int, want map[string][][]int) {
	t.Helper()
	for name := range want {
		if !samePlaces(got[name], want[name]) {
			t.Errorf("%s: %s %v, not %v", what, name, got[name], want[name])
		}
	}
}

func TestTracesOfLocksAreNotWrittenInto(t *testing.T) {
	for _, trace := range lockTraces() {
		want := listsByName(slices.Clip(slices.Clone(trace)))
		for _, behind := range []impl.Event{takes(0, 1), wakes(1, 0, 98), gives(0, 1), eventOf(0, impl.EvLock, 100, -1, 0), {Thread: mark}} {
			held := marked(trace, behind)
			sameByName(t, "what lies behind the trace was read", listsByName(held), want)
			traceStays(t, held, trace, behind)
		}
	}
}

// TestAnswersOfLocksAreMemoryOfTheirOwn writes all over each answer, as far as its memory goes, and asks again.
func TestAnswersOfLocksAreMemoryOfTheirOwn(t *testing.T) {
	gates := 0
	for _, trace := range lockTraces() {
		kept := slices.Clone(trace)
		want := listsByName(trace)
		unders, _ := impl.UndersIn(trace)
		for i := range unders[:cap(unders)] {
			unders[:cap(unders)][i] = under(mark, mark, mark, mark)
		}
		for name, lists := range listsByName(trace) {
			for _, list := range lists {
				fill(list)
				if name == "GateOf" {
					gates += len(list)
				}
			}
		}
		sameByName(t, "something is kept from call to call", listsByName(trace), want)
		if !slices.Equal(trace, kept) {
			t.Error("an answer shares memory with the trace")
		}
	}
	if gates < 6 {
		t.Error("too few locks in gates", gates)
	}
}

func TestPairsOfLocksShareNoMemory(t *testing.T) {
	many := map[string]int{}
	for _, trace := range lockTraces() {
		for name, ask := range listsOfLocks() {
			lists, _ := ask(trace)
			want := copyOfLists(lists)
			for i := range lists {
				fill(lists[i])
				fill(append(lists[i], mark))
				for j := i + 1; j < len(lists); j++ {
					many[name]++
					if !slices.Equal(lists[j], want[j]) {
						t.Fatalf("%s of %v: the lists %d and %d share memory", name, trace, i, j)
					}
				}
			}
			for i := range lists {
				if len(lists[i]) != len(want[i]) || slices.ContainsFunc(lists[i], func(n int) bool { return n != mark }) {
					t.Fatalf("%s: a list shares memory with another one: %v", name, lists)
				}
			}
		}
	}
	if many["LockPairs"] < 10 || many["WarnsGuarded"] < 3 {
		t.Error("too few lists", many)
	}
}

// TestNothingLiesBehindAnswersOfLocks asks for a capacity that ends with the list, or for zeros there.
func TestNothingLiesBehindAnswersOfLocks(t *testing.T) {
	for _, trace := range lockTraces() {
		unders, _ := impl.UndersIn(trace)
		for _, u := range unders[len(unders):cap(unders)] {
			if u != (impl.Under{}) {
				t.Error("behind the unders", u)
			}
		}
		for name, lists := range listsByName(trace) {
			for _, list := range lists {
				if slices.ContainsFunc(list[len(list):cap(list)], func(n int) bool { return n != 0 }) {
					t.Errorf("%s of %v: %v lies behind %v", name, trace, list[len(list):cap(list)], list)
				}
			}
		}
		for name, ask := range listsOfLocks() {
			lists, _ := ask(trace)
			if slices.ContainsFunc(lists[len(lists):cap(lists)], func(list []int) bool { return list != nil }) {
				t.Errorf("%s of %v: %v lies behind %v", name, trace, lists[len(lists):cap(lists)], lists)
			}
		}
	}
}

// hasNoLocks asks for all zero answers of what is no good trace.
func hasNoLocks(t *testing.T, x []impl.Event) {
	t.Helper()
	unders, undersOk := impl.UndersIn(x)
	pairs, pairsOk := impl.LockPairs(x)
	guarded, guardedOk := impl.WarnsGuarded(x)
	if undersOk || pairsOk || guardedOk || len(unders)+len(pairs)+len(guarded) > 0 {
		t.Errorf("%v: %v %v %v", x, unders, pairs, guarded)
	}
	warns(t, x)
	hasNoOrder(t, x)
	for _, a := range []int{leastInt, -1, 0, 1, 2, 99, 100, greatestInt} {
		for _, b := range []int{leastInt, -1, 0, 1, 2, 99, 100, greatestInt} {
			hasNoGate(t, x, a, b)
		}
	}
}

// TestLocksOfTracesThatAreNotGood has what would be a circle, a gate and a guarded warning, were the trace good.
func TestLocksOfTracesThatAreNotGood(t *testing.T) {
	round := crossing(0, 1, 1, 2, [2][]int{})
	for _, x := range wrongTraces() {
		hasNoLocks(t, x)
	}
	for _, e := range wrongEvents() {
		hasNoLocks(t, append(slices.Clone(round), e))
		hasNoLocks(t, append([]impl.Event{e}, round...))
		hasNoLocks(t, slices.Concat(round[:2], []impl.Event{e}, round[2:]))
	}
	long := slices.Repeat(round, impl.MaxBudget/len(round)+1)
	hasNoLocks(t, long[:impl.MaxBudget+1])
	hasNoLocks(t, long)
	warns(t, long[:impl.MaxBudget], 1, 2)
	hasGate(t, long[:impl.MaxBudget], 1, 2)
	isGuarded(t, long[:impl.MaxBudget], []int{1, 2})
	// A wrong lock itself.
	for _, lock := range []int{leastInt, -1, 100, greatestInt} {
		hasNoLocks(t, []impl.Event{takes(0, 1), takes(0, lock)})
		hasNoLocks(t, []impl.Event{takes(0, lock)})
		hasNoLocks(t, append(slices.Clone(round), wakes(0, 1, lock)))
		hasNoLocks(t, append(slices.Clone(round), waits(0, 1, lock)))
	}
	for _, thread := range []int{leastInt, -1, impl.MaxThreads, greatestInt} {
		hasNoLocks(t, append(slices.Clone(round), takes(thread, 1)))
	}
}
