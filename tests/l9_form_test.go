package tests

import (
	"slices"
	"testing"

	"loop.example/g00696/impl"
)

// formByWords looks through the threads, the least first, for an event left that is free.
func formByWords(trace []impl.Event) []impl.Event {
	gone := make([]bool, len(trace))
	var form []impl.Event
next:
	for range trace {
		for thread := range impl.MaxThreads {
			for j, e := range trace {
				free := !gone[j] && e.Thread == thread
				for i := range j {
					free = free && (gone[i] || !hangByWords(trace[i], e))
				}
				if free {
					gone[j] = true
					form = append(form, e)
					continue next
				}
			}
		}
	}
	return form
}

// sameByTrying are all traces that come of one by changing two that stand side by side and do not hang together.
func sameByTrying(trace []impl.Event) [][]impl.Event {
	met := [][]impl.Event{trace}
	for at := 0; at < len(met); at++ {
		for k := range len(trace) - 1 {
			if hangByWords(met[at][k], met[at][k+1]) {
				continue
			}
			other := swapped(met[at], k)
			if !slices.ContainsFunc(met, func(x []impl.Event) bool { return slices.Equal(x, other) }) {
				met = append(met, other)
			}
		}
	}
	return met
}

func hasForm(t *testing.T, trace []impl.Event, want []impl.Event) {
	t.Helper()
	form, ok := impl.FirstForm(trace)
	if !ok || !slices.Equal(form, want) {
		t.Fatalf("FirstForm(%v) %v %v, not %v", trace, form, ok, want)
	}
	if is, ok := impl.IsForm(form); !is || !ok {
		t.Fatalf("IsForm(%v) %v %v", form, is, ok)
	}
	if is, ok := impl.IsForm(trace); is != slices.Equal(trace, want) || !ok {
		t.Fatalf("IsForm(%v) %v %v, but the form is %v", trace, is, ok, want)
	}
	isSameBut(t, trace, trace, true)
	isSameBut(t, trace, form, true)
}

// isSameBut asks for it both ways round.
func isSameBut(t *testing.T, trace []impl.Event, other []impl.Event, want bool) {
	t.Helper()
	for _, pair := range [][2][]impl.Event{{trace, other}, {other, trace}} {
		if is, ok := impl.SameBut(pair[0], pair[1]); is != want || !ok {
			t.Fatalf("SameBut(%v) %v %v", pair, is, ok)
		}
	}
}

// picked are the events at these places of a trace.
func picked(trace []impl.Event, places ...int) []impl.Event {
	var events []impl.Event
	for _, place := range places {
		events = append(events, trace[place])
	}
	return events
}

func TestFormsOfFewEvents(t *testing.T) {
	hasForm(t, nil, nil)
	hasForm(t, []impl.Event{}, nil)
	for thread := range impl.MaxThreads {
		for _, e := range eachKind(thread) {
			hasForm(t, []impl.Event{e}, []impl.Event{e})
		}
	}
	a, b := stores(0, 1), stores(1, 2)
	hasForm(t, []impl.Event{b, a}, []impl.Event{a, b})
	hasForm(t, []impl.Event{a, b}, []impl.Event{a, b})
	// Two that hang together stay as they are.
	hasForm(t, []impl.Event{stores(1, 1), a}, []impl.Event{stores(1, 1), a})
	hasForm(t, []impl.Event{a, stores(1, 1)}, []impl.Event{a, stores(1, 1)})
}

func TestLeastOfThoseFree(t *testing.T) {
	// The first that is free by its thread, not the first that stands there.
	trace := []impl.Event{local(4), local(3), local(2), local(1), local(0)}
	hasForm(t, trace, picked(trace, 4, 3, 2, 1, 0))
	// What hangs on one of a greater thread waits for it, and then goes ahead of all others.
	trace = []impl.Event{stores(2, 0), local(1), loads(0, 0), local(2), local(0)}
	hasForm(t, trace, picked(trace, 1, 0, 2, 4, 3))
	// The least thread is not free, and another one of it does not go ahead of it.
	trace = []impl.Event{stores(4, 9), stores(3, 8), stores(0, 9), local(0), stores(1, 8), local(2)}
	hasForm(t, trace, picked(trace, 5, 1, 4, 0, 2, 3))
	// By ways of several: 0 waits for 2, which waits for 3, which waits for 4.
	trace = []impl.Event{takes(4, 1), stores(3, 5), gives(4, 1), takes(3, 1), stores(3, 6), loads(2, 6), stores(2, 7), stores(0, 7), local(1)}
	hasForm(t, trace, picked(trace, 8, 1, 0, 2, 3, 4, 5, 6, 7))
	// Loads of one cell do not wait for each other, but for the store ahead of them.
	trace = []impl.Event{loads(3, 0), loads(1, 0), stores(2, 0), loads(1, 0), loads(0, 0)}
	hasForm(t, trace, picked(trace, 1, 0, 2, 4, 3))
	// A fault holds what is behind it back.
	trace = []impl.Event{local(3), eventOf(4, impl.EvFault, 1, -1, 0), local(0), local(2)}
	hasForm(t, trace, trace)
}

func TestOrderOfOneThreadStays(t *testing.T) {
	// Events that are alike but for their Pc.
	var trace []impl.Event
	for pc := range 20 {
		trace = append(trace, eventOf(1, impl.EvLocal, -1, -1, 99-pc), eventOf(0, impl.EvLocal, -1, -1, 60-pc))
	}
	var want []impl.Event
	for _, thread := range []int{0, 1} {
		want = append(want, slices.DeleteFunc(slices.Clone(trace), func(e impl.Event) bool { return e.Thread != thread })...)
	}
	hasForm(t, trace, want)
}

func TestFormsThatAreOther(t *testing.T) {
	trace := []impl.Event{stores(0, 0), stores(1, 1), loads(2, 1), loads(3, 2)}
	hasForm(t, trace, trace)
	isSameBut(t, trace, picked(trace, 3, 1, 2, 0), true)
	isSameBut(t, trace, picked(trace, 0, 2, 1, 3), false)
	isSameBut(t, trace, trace[:3], false)
	isSameBut(t, trace, append(slices.Clone(trace), local(4)), false)
	isSameBut(t, trace, nil, false)
	isSameBut(t, nil, nil, true)
	for i := range trace {
		for j, change := range []func(e *impl.Event){
			func(e *impl.Event) { e.Pc = 99 },
			func(e *impl.Event) { e.Obj = 98 },
			func(e *impl.Event) { e.Lock = 97 },
			func(e *impl.Event) { e.Thread = 4 },
			func(e *impl.Event) { e.Kind = impl.EvLocal },
		} {
			other := slices.Clone(trace)
			change(&other[i])
			if other[i] == trace[i] {
				t.Fatal("nothing was changed", i, j)
			}
			isSameBut(t, trace, other, false)
			isSameBut(t, other, other, true)
		}
	}
}

// TestFormsOfAllSmallTraces holds forms against what can be come to by changes alone.
func TestFormsOfAllSmallTraces(t *testing.T) {
	events := []impl.Event{stores(0, 0), loads(1, 0), loads(2, 0), takes(0, 1), wakes(1, 0, 1), wakes(2, 0, 2), eventOf(2, impl.EvSignal, 0, 1, 0), eventOf(0, impl.EvSpawn, 1, -1, 0)}
	others := 0
	eachSmallTrace(4, events, func(trace []impl.Event) {
		form := formByWords(trace)
		hasForm(t, trace, form)
		same := sameByTrying(trace)
		if !slices.ContainsFunc(same, func(x []impl.Event) bool { return slices.Equal(x, form) }) {
			t.Fatalf("the form %v does not come of %v", form, trace)
		}
		for _, x := range same {
			if other, ok := impl.FirstForm(x); !ok || !slices.Equal(other, form) {
				t.Fatalf("FirstForm(%v) %v, of %v %v", x, other, trace, form)
			}
		}
		others += len(same) - 1
	})
	if others < 1000 {
		t.Error("too few changes", others)
	}
}

// TestSameButOfAllSmallTraces asks of each two traces, whatever their lengths.
func TestSameButOfAllSmallTraces(t *testing.T) {
	events := []impl.Event{stores(0, 0), loads(1, 0), loads(2, 0), local(0), wakes(1, 0, 1)}
	var traces [][]impl.Event
	eachSmallTrace(3, events, func(trace []impl.Event) { traces = append(traces, trace) })
	for _, trace := range traces {
		same := sameByTrying(trace)
		for _, other := range traces {
			want := slices.ContainsFunc(same, func(x []impl.Event) bool { return slices.Equal(x, other) })
			if is, ok := impl.SameBut(trace, other); is != want || !ok {
				t.Fatalf("SameBut(%v, %v) %v %v", trace, other, is, ok)
			}
		}
	}
}

func TestFormsOfTracesThatNoRunHas(t *testing.T) {
	d := draws(92)
	moved := 0
	for range 1500 {
		trace := madeUpTrace(&d, d.below(20))
		hasForm(t, trace, formByWords(trace))
		if is, _ := impl.IsForm(trace); !is {
			moved++
		}
		// Some changes, one behind the other.
		other := trace
		for range 30 {
			if k := d.below(len(trace) + 1); k+1 < len(trace) && !hangByWords(other[k], other[k+1]) {
				other = swapped(other, k)
			}
		}
		isSameBut(t, trace, other, true)
	}
	for range 3 {
		trace := madeUpTrace(&d, 100)
		hasForm(t, trace, formByWords(trace))
	}
	if moved < 500 {
		t.Error("too few traces that are not their own form", moved)
	}
}

func TestFormsOfRuns(t *testing.T) {
	d := draws(93)
	for range 200 {
		for _, p := range []impl.Prog{madeUpProg(&d), sleeping(), crossed()} {
			r, _ := impl.RunPicks(p, madeUpPicks(&d), 30)
			form := formByWords(r.Trace)
			hasForm(t, r.Trace, form)
			// The form is a run, too, and ends in the same state.
			threads, _ := impl.ThreadsOf(impl.Run{Trace: form})
			if x, ok := impl.RunThreads(p, threads); !ok || !slices.Equal(x.Trace, form) || !sameState(x.End, r.End) {
				t.Fatalf("the form of %v is no run of %v: %v %v", r.Trace, p, x, ok)
			}
		}
	}
}

// TestFormsAsLongAsMayBe has traces of MaxBudget events.
func TestFormsAsLongAsMayBe(t *testing.T) {
	var trace, want []impl.Event
	for i := range impl.MaxBudget {
		trace = append(trace, stores((impl.MaxBudget-1-i)/40, i/40))
	}
	for thread := range impl.MaxThreads {
		want = append(want, trace[(4-thread)*40:(5-thread)*40]...)
	}
	hasForm(t, trace, want)
	isSameBut(t, trace, want[:impl.MaxBudget-1], false)
	// All of one cell.
	for i := range trace {
		trace[i].Obj = 0
	}
	hasForm(t, trace, trace)
}

// hasNoForm asks for all zero answers of what is no good trace, whatever the other one is.
func hasNoForm(t *testing.T, x []impl.Event) {
	t.Helper()
	form, formOk := impl.FirstForm(x)
	is, isOk := impl.IsForm(x)
	if formOk || len(form) > 0 || is || isOk {
		t.Errorf("%v: %v %v %v %v", x, form, formOk, is, isOk)
	}
	for _, other := range [][]impl.Event{nil, {local(0)}, x} {
		for _, pair := range [][2][]impl.Event{{x, other}, {other, x}} {
			if same, ok := impl.SameBut(pair[0], pair[1]); same || ok {
				t.Errorf("SameBut(%v) %v %v", pair, same, ok)
			}
		}
	}
}

func TestFormsOfTracesThatAreNotGood(t *testing.T) {
	for _, x := range wrongTraces() {
		hasNoForm(t, x)
	}
	for _, e := range wrongEvents() {
		hasNoForm(t, []impl.Event{local(1), e, local(2), local(0)})
	}
	hasNoForm(t, slices.Repeat([]impl.Event{local(1), local(0)}, impl.MaxBudget/2+1))
}
