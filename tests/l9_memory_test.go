package tests

import (
	"slices"
	"testing"

	"loop.example/g00696/impl"
)

// tracesToOrder have some that are their own form, and some that are not.
func tracesToOrder() [][]impl.Event {
	d := draws(96)
	traces := append(lockTraces(), madeUpTrace(&d, 30), madeUpTrace(&d, 7), []impl.Event{local(2), local(1), local(0)})
	for _, trace := range slices.Clone(traces) {
		traces = append(traces, formByWords(trace))
	}
	return traces
}

func TestTracesToOrderAreNotWrittenInto(t *testing.T) {
	own, other := 0, 0
	for _, trace := range tracesToOrder() {
		want := formByWords(trace)
		for _, behind := range []impl.Event{local(0), eventOf(0, impl.EvFault, 1, -1, 0), {Thread: mark}} {
			held := marked(trace, behind)
			form, ok := impl.FirstForm(held)
			is, isOk := impl.IsForm(held)
			if !ok || !isOk || !slices.Equal(form, want) || is != slices.Equal(trace, want) {
				t.Errorf("what lies behind the trace was read: %v %v %v %v", form, ok, is, isOk)
			}
			if slices.Contains(form[len(form):cap(form)], behind) {
				t.Errorf("what lies behind the trace was handed out: %v", form[:cap(form)])
			}
			forms := marked(want, behind)
			isSameBut(t, held, forms, true)
			traceStays(t, held, trace, behind)
			traceStays(t, forms, want, behind)
			if is {
				own++
			} else {
				other++
			}
		}
	}
	if own < 20 || other < 20 {
		t.Error("too few traces of one kind", own, other)
	}
}

// TestFormsAreMemoryOfTheirOwn writes all over each form, as far as its memory goes.
func TestFormsAreMemoryOfTheirOwn(t *testing.T) {
	for _, trace := range tracesToOrder() {
		kept := slices.Clone(trace)
		form, _ := impl.FirstForm(trace)
		want := slices.Clone(form)
		for i, e := range form[:cap(form)] {
			if i >= len(form) && e != (impl.Event{}) {
				t.Errorf("%v lies behind the form", e)
			}
			form[:cap(form)][i] = impl.Event{Thread: mark}
		}
		if !slices.Equal(trace, kept) {
			t.Errorf("the form shares memory with the trace %v", kept)
		}
		if again, ok := impl.FirstForm(trace); !ok || !slices.Equal(again, want) {
			t.Errorf("something is kept from call to call: %v, not %v", again, want)
		}
	}
}

// TestRunsToChangeAreNotWrittenInto asks for each place, and for all orders, of a run that is cut out of a longer one.
func TestRunsToChangeAreNotWrittenInto(t *testing.T) {
	swaps, many := 0, 0
	changingRuns(func(name string, p impl.Prog, r impl.Run, _ int) {
		for _, budget := range []int{8, 11, 12, 20} {
			r, _ := impl.RunPicks(p, r.Picks, budget)
			want, wantOk := impl.AllOrders(p, r)
			heldProg, held := markedProg(p), markedRun(r)
			for k := -1; k <= len(r.Trace); k++ {
				x, ok := impl.SwapAt(heldProg, held, k)
				wanted, wantedOk := impl.SwapAt(p, r, k)
				if ok != wantedOk || !sameRun(x, wanted) || runHandsOutMarks(x) {
					t.Errorf("%s: SwapAt at %d read what lies behind a list: %v %v", name, k, x, ok)
				}
				if ok {
					swaps++
				}
			}
			orders, ok := impl.AllOrders(heldProg, held)
			if ok != wantOk || !samePlaces(orders, want) {
				t.Errorf("%s: AllOrders read what lies behind a list: %v %v", name, orders, ok)
			}
			many += len(orders)
			if !sameRun(held, r) || !sameProg(heldProg, p) || !marksOfRunStay(held) || !marksOfProgStay(heldProg) {
				t.Errorf("%s: an argument was written into", name)
			}
		}
	})
	if swaps < 20 || many < 20 {
		t.Error("too few changes, or orders", swaps, many)
	}
}

func TestChangedRunsAreMemoryOfTheirOwn(t *testing.T) {
	changingRuns(func(name string, p impl.Prog, r impl.Run, k int) {
		kept, keptProg := copyOfRun(r), copyOfProg(p)
		x, _ := impl.SwapAt(p, r, k)
		want := copyOfRun(x)
		writeAllOfRun(x)
		if !sameRun(r, kept) || !sameProg(p, keptProg) {
			t.Errorf("%s: the changed run shares memory with an argument", name)
		}
		if again, ok := impl.SwapAt(p, r, k); !ok || !sameRun(again, want) {
			t.Errorf("%s: something is kept from call to call", name)
		}
		for i, change := range []func(r *impl.Run){
			func(r *impl.Run) { fill(r.Picks); r.Picks = nil },
			func(r *impl.Run) { fill(r.End.Owner); r.End.Owner = nil },
			func(r *impl.Run) { fill(r.End.Cells); r.End.Cells = nil },
			func(r *impl.Run) { fill(r.End.Threads[0].Stack); r.End.Threads[0].Stack = nil },
			func(r *impl.Run) { fill(r.End.Threads[1].Stack); r.End.Threads[1].Stack = nil },
		} {
			x, _ := impl.SwapAt(p, r, k)
			want := copyOfRun(x)
			change(&x)
			change(&want)
			if !sameRun(x, want) {
				t.Errorf("%s: list %d shares memory with another one", name, i)
			}
		}
	})
}

// TestOrdersAreMemoryOfTheirOwn writes into one list after the other, as far as its memory goes.
func TestOrdersAreMemoryOfTheirOwn(t *testing.T) {
	many := 0
	changingRuns(func(name string, p impl.Prog, r impl.Run, _ int) {
		r, _ = impl.RunPicks(p, r.Picks, 12)
		kept := copyOfRun(r)
		orders, _ := impl.AllOrders(p, r)
		want := copyOfLists(orders)
		if slices.ContainsFunc(orders[len(orders):cap(orders)], func(list []int) bool { return list != nil }) {
			t.Errorf("%s: %v lies behind the orders", name, orders[len(orders):cap(orders)])
		}
		for i, list := range orders {
			if slices.ContainsFunc(list[len(list):cap(list)], func(n int) bool { return n != 0 }) {
				t.Errorf("%s: %v lies behind an order", name, list[len(list):cap(list)])
			}
			fill(list)
			fill(append(list, mark))
			for j := i + 1; j < len(orders); j++ {
				many++
				if !slices.Equal(orders[j], want[j]) {
					t.Fatalf("%s: the orders %d and %d share memory", name, i, j)
				}
			}
		}
		for i := range orders {
			if len(orders[i]) != len(want[i]) || slices.ContainsFunc(orders[i], func(n int) bool { return n != mark }) {
				t.Fatalf("%s: an order shares memory with another one: %v", name, orders)
			}
		}
		if again, ok := impl.AllOrders(p, r); !ok || !samePlaces(again, want) || !sameRun(r, kept) {
			t.Errorf("%s: something is kept from call to call, or shared: %v", name, again)
		}
	})
	if many < 100 {
		t.Error("too few orders", many)
	}
}
