package tests

import (
	"slices"
	"testing"

	"loop.example/g00696/impl"
)

// listsOfTraces are the answers that have lists of places or of counts.
func listsOfTraces() map[string]func(t []impl.Event) ([][]int, bool) {
	return map[string]func(t []impl.Event) ([][]int, bool){
		"NextAfter": impl.NextAfter, "ClocksOf": impl.ClocksOf, "SideBySide": impl.SideBySide, "LayersOf": impl.LayersOf,
	}
}

func copyOfLists(lists [][]int) [][]int {
	var all [][]int
	for _, list := range lists {
		all = append(all, slices.Clone(list))
	}
	return all
}

// tracesToHold are good, and have pairs side by side as well as ways.
func tracesToHold() [][]impl.Event {
	d := draws(64)
	traces := [][]impl.Event{nil, {local(0)}, {local(0), local(1), local(2), local(0)}, handOver(), madeUpTrace(&d, 40)}
	runsOfEachCode(func(_ string, _ impl.Prog, r impl.Run) { traces = append(traces, r.Trace) })
	return traces
}

// TestTracesAreNotWrittenInto has behind each trace what fits all that is in it.
func TestTracesAreNotWrittenInto(t *testing.T) {
	behind := eventOf(0, impl.EvSpawn, 1, -1, mark)
	for _, trace := range tracesToHold() {
		held := marked(trace, behind)
		for name, ask := range listsOfTraces() {
			want, _ := ask(slices.Clip(slices.Clone(trace)))
			if l, ok := ask(held); !ok || !samePlaces(l, want) {
				t.Errorf("%s: what lies behind the trace was read: %v %v, not %v", name, l, ok, want)
			}
		}
		for i := range trace {
			impl.AheadIn(held, 0, i)
		}
		notPlaces(t, held, 0, len(held))
		notPlaces(t, held, len(held), len(held)+1)
		if !impl.GoodTrace(held) {
			t.Errorf("what lies behind a trace was read: %v", held)
		}
		traceStays(t, held, trace, behind)
	}
}

// traceStays asks that a marked trace is as it was, and so is what lies behind it.
func traceStays(t *testing.T, held []impl.Event, trace []impl.Event, behind impl.Event) {
	t.Helper()
	if !slices.Equal(held, trace) {
		t.Errorf("a trace was changed: %v, not %v", held, trace)
	}
	for i, e := range held[:len(held)+spare][len(held):] {
		if e != behind {
			t.Errorf("something was written behind a trace: %d %v", i, e)
		}
	}
}

// TestTracesCutShort have behind their length what would make them wrong, or too long.
func TestTracesCutShort(t *testing.T) {
	for _, e := range wrongEvents() {
		if held := marked(handOver(), e); !impl.GoodTrace(held) {
			t.Errorf("what lies behind a trace was read: %v", e)
		}
	}
	long := slices.Repeat([]impl.Event{local(0)}, impl.MaxBudget+50)
	if !impl.GoodTrace(long[:impl.MaxBudget]) || impl.GoodTrace(long[:impl.MaxBudget+1]) {
		t.Error("the capacity of a trace counts")
	}
	a, b := []int{1, 2, 0}, []int{1, 2, 3, 4}
	if is, ok := impl.ClockLess(a[:2], b[:2]); is || !ok {
		t.Error("what lies behind a clock was read", is, ok)
	}
	if is, ok := impl.ClockLess(a[:1], b[:3]); is || ok {
		t.Error("what lies behind a clock was read", is, ok)
	}
	if !slices.Equal(a, []int{1, 2, 0}) || !slices.Equal(b, []int{1, 2, 3, 4}) {
		t.Error("a clock was changed", a, b)
	}
}

// TestListsOfTracesAreMemoryOfTheirOwn writes into one list after the other, as far as its memory goes.
func TestListsOfTracesAreMemoryOfTheirOwn(t *testing.T) {
	for _, trace := range tracesToHold() {
		kept := slices.Clone(trace)
		for name, ask := range listsOfTraces() {
			first, _ := ask(trace)
			want := copyOfLists(first)
			for i := range first {
				fill(first[i])
				for j := i + 1; j < len(first); j++ {
					if !slices.Equal(first[j], want[j]) {
						t.Fatalf("%s of %v: the lists %d and %d share memory", name, trace, i, j)
					}
				}
				fill(append(first[i], mark))
			}
			for i := range first {
				if slices.ContainsFunc(first[i], func(n int) bool { return n != mark }) || len(first[i]) != len(want[i]) {
					t.Fatalf("%s of %v: a list shares memory with another one: %v", name, trace, first)
				}
			}
			if !slices.Equal(trace, kept) {
				t.Fatalf("%s: the answer shares memory with the trace", name)
			}
			if second, ok := ask(trace); !ok || !samePlaces(second, want) {
				t.Errorf("%s: something is kept from call to call: %v %v, not %v", name, second, ok, want)
			}
		}
	}
}

// TestNothingLiesBehindClocks asks for a capacity that ends where the clock does, or for zeros there.
func TestNothingLiesBehindClocks(t *testing.T) {
	for _, trace := range tracesToHold() {
		for name, ask := range listsOfTraces() {
			lists, _ := ask(trace)
			for _, list := range lists {
				if slices.ContainsFunc(list[len(list):cap(list)], func(n int) bool { return n != 0 }) {
					t.Errorf("%s of %v: %v lies behind %v", name, trace, list[len(list):cap(list)], list)
				}
			}
		}
	}
}
