package tests

import (
	"slices"
	"testing"

	"loop.example/g00696/impl"
)

func swapped[T any](list []T, k int) []T {
	list = slices.Clone(list)
	list[k], list[k+1] = list[k+1], list[k]
	return list
}

func isZeroRun(r impl.Run) bool {
	return r.Code == 0 && len(r.Trace)+len(r.Picks)+len(r.End.Threads)+len(r.End.Cells)+len(r.End.Owner) == 0 && r.End.Fault == 0
}

func noSwap(t *testing.T, p impl.Prog, r impl.Run, places ...int) {
	t.Helper()
	for _, k := range places {
		if x, ok := impl.SwapAt(p, r, k); ok || !isZeroRun(x) {
			t.Errorf("SwapAt(%v, %v, %d) %v %v", p, r, k, x, ok)
		}
	}
}

// mayChange asks for promise 9 at one place, the events of which do not hang together.
func mayChange(t *testing.T, p impl.Prog, r impl.Run, k int) {
	t.Helper()
	x, ok := impl.SwapAt(p, r, k)
	if !ok || !slices.Equal(x.Trace, swapped(r.Trace, k)) || !sameState(x.End, r.End) || x.Code != r.Code {
		t.Fatalf("SwapAt(%v, %v, %d) %v %v", p, r, k, x, ok)
	}
	if is, ok := impl.IsRun(p, x); !is || !ok {
		t.Fatalf("%v is no run of %v", x, p)
	}
	if back, ok := impl.SwapAt(p, x, k); !ok || !sameRun(back, r) {
		t.Fatalf("%v does not come of %v: %v", r, x, back)
	}
	form, ok := impl.FirstForm(r.Trace)
	other, otherOk := impl.FirstForm(x.Trace)
	if !ok || !otherOk || !slices.Equal(form, other) {
		t.Fatalf("FirstForm of %v %v, of %v %v", r.Trace, form, x.Trace, other)
	}
	if is, ok := impl.IsForm(form); !is || !ok {
		t.Fatalf("IsForm(%v) %v %v", form, is, ok)
	}
	isSameBut(t, r.Trace, x.Trace, true)
}

// swapsOf looks at each place of a run, and tells how many events of each kind may change places.
func swapsOf(t *testing.T, p impl.Prog, r impl.Run, kinds map[int]int) {
	t.Helper()
	for k := range r.Trace {
		if k+1 == len(r.Trace) || hangByWords(r.Trace[k], r.Trace[k+1]) {
			noSwap(t, p, r, k)
			continue
		}
		mayChange(t, p, r, k)
		kinds[r.Trace[k].Kind]++
		kinds[r.Trace[k+1].Kind]++
	}
}

// sleeping has threads that sleep at two places, with locks of their own and one in common, and one that wakes them.
func sleeping() impl.Prog {
	return written(1, 2, 2, "spawn 1; spawn 2; spawn 1; spawn 3", "lock 0; wait 0 0; unlock 0; load 0",
		"lock 1; wait 0 1; push 1p0; store 0; unlock 1", "signal 0; load 0; signal 0; signal 1; signal 0")
}

func TestSwapsOfRuns(t *testing.T) {
	d := draws(91)
	kinds := map[int]int{}
	see := func(p impl.Prog, budget int) {
		r, ok := impl.RunPicks(p, madeUpPicks(&d), budget)
		if !ok {
			t.Fatal("no run", p, budget)
		}
		swapsOf(t, p, r, kinds)
	}
	for range 700 {
		see(madeUpProg(&d), 24)
	}
	sleepers := "lock 0; wait 0 0; unlock 0; push 1p0; store 0"
	for range 150 {
		see(sleeping(), 40)
		see(written(1, 1, 1, "spawn 1; spawn 1; spawn 2; push 1p0; join; spawn 2", sleepers, "lock 0; signal 0; unlock 0; load 0; add"), 40)
		see(crossed(), 30)
		see(written(1, 0, 0, "spawn 1; spawn 2; spawn 3; push 1p1; join", "load 0; store 0", "load 0; spawn 1; load 0", "load 0; join"), 30)
	}
	for kind := impl.EvLocal; kind < impl.EvFault; kind++ {
		if kinds[kind] < 20 {
			t.Error("too few events of the kind that may change places", kind, kinds)
		}
	}
	if kinds[impl.EvFault] > 0 {
		t.Error("a fault may not change its place", kinds)
	}
}

// TestSwapsOfAllOrders goes through all runs of small programs, by threads.
func TestSwapsOfAllOrders(t *testing.T) {
	for _, p := range []impl.Prog{written(1, 1, 1, "spawn 1; push 1p0; lock 0; wait 0 0", "lock 0; signal 0; unlock 0; load 0; add"),
		written(1, 0, 0, "spawn 1; load 0; join", "push 1p0; store 0"), written(0, 0, 0, "spawn 1; spawn 1", "spawn 2", "")} {
		kinds := map[int]int{}
		var try func(threads []int)
		try = func(threads []int) {
			r, ok := impl.RunThreads(p, threads)
			if !ok {
				return
			}
			swapsOf(t, p, r, kinds)
			if r.Code == impl.RnBudget {
				for thread := range impl.MaxThreads {
					try(append(slices.Clone(threads), thread))
				}
			}
		}
		try(nil)
		if len(kinds) < 2 {
			t.Error("too few changes", kinds)
		}
	}
}

// changesTo asks for the threads of a run behind a change.
func changesTo(t *testing.T, p impl.Prog, threads []int, k int, want ...int) {
	t.Helper()
	r, ok := impl.RunThreads(p, threads)
	if !ok {
		t.Fatal("no run", p, threads)
	}
	x, ok := impl.SwapAt(p, r, k)
	got, _ := impl.ThreadsOf(x)
	if !ok || !slices.Equal(got, want) || !sameState(x.End, r.End) {
		t.Errorf("SwapAt(%v, %v, %d) %v %v, not %v", p, threads, k, got, ok, want)
	}
}

func changesNot(t *testing.T, p impl.Prog, threads []int, places ...int) {
	t.Helper()
	r, ok := impl.RunThreads(p, threads)
	if !ok {
		t.Fatal("no run", p, threads)
	}
	noSwap(t, p, r, places...)
}

func TestSwapsByPlace(t *testing.T) {
	p := written(1, 0, 0, "spawn 1; load 0; push 1p0; store 0", "push 3p0; store 0")
	threads := []int{0, 0, 1, 1, 0, 0}
	changesTo(t, p, threads, 1, 0, 1, 0, 1, 0, 0)
	changesTo(t, p, threads, 3, 0, 0, 1, 0, 1, 0)
	// 0: the spawn and what the same thread does; 2: one thread; 4: one thread; 5: the last place; the others are no places.
	changesNot(t, p, threads, 0, 2, 4, 5, 6, -1, -2, leastInt, greatestInt, greatestInt-1)
	changesNot(t, p, []int{0, 1, 0, 1, 0, 0}, 0, 2)
	changesNot(t, p, []int{0, 0, 1, 0, 1, 0}, 4)
	changesNot(t, p, []int{0, 0}, -1, 0, 1, 2)
	changesNot(t, p, []int{0}, leastInt, -1, 0, 1, greatestInt)
	changesNot(t, p, nil, leastInt, -1, 0, 1, greatestInt)
	// The first place, where two may change: no run has such a one, since thread 0 alone is there.
	for _, r := range []impl.Run{byHand(p, nil, 30), byHand(p, []int{1, 1, 1, 1}, 30)} {
		noSwap(t, p, r, 0)
	}
	// The last place but one.
	changesTo(t, p, []int{0, 0, 1}, 1, 0, 1, 0)
	changesNot(t, p, []int{0, 0, 1}, 0, 2)
}

func TestSwapsOfThoseThatHangTogether(t *testing.T) {
	// A store and a store, a load and a store, two loads.
	stores := written(1, 0, 0, "spawn 1; push 1p0; store 0; load 0", "push 3p0; store 0; load 0")
	changesNot(t, stores, []int{0, 0, 1, 0, 1}, 3)
	changesNot(t, stores, []int{0, 0, 1, 0, 0, 1}, 4)
	changesTo(t, stores, []int{0, 0, 1, 0, 1, 0, 1}, 5, 0, 0, 1, 0, 1, 1, 0)
	// A join and the end that it waits for, and one of another thread.
	changesNot(t, joiner(), []int{0, 1, 1, 1, 0}, 3)
	joins := written(0, 0, 0, "spawn 1; spawn 1; join", "push 1p0")
	changesTo(t, joins, []int{0, 0, 1, 2, 2, 1, 0}, 5, 0, 0, 1, 2, 2, 0, 1)
	changesNot(t, joins, []int{0, 0, 1, 1, 2, 2, 0}, 5)
}

// changingRuns are runs of each Code, with a place whose event may change with the one behind it.
func changingRuns(see func(name string, p impl.Prog, r impl.Run, k int)) {
	body := "push nan; store 0; push 1p0; spawn 1; load 0; load 0; "
	for name, tail := range map[string]string{"done": "same; join", "budget": "jump 6", "fault": "unlock 0", "stuck": "lock 0; wait 0 0"} {
		p := written(2, 1, 1, body+tail, "load 0; load 1")
		r, _ := impl.RunPicks(p, []int{0, 0, 0, 0, 1, 0, 1}, 20)
		if s, _ := impl.SignOf(p, r); s[:4] != name[:4] {
			panic(name + " is not what comes of it: " + s)
		}
		see(name, p, r, 5)
	}
}

func TestSwapsOfWrongRuns(t *testing.T) {
	changingRuns(func(name string, p impl.Prog, r impl.Run, k int) {
		mayChange(t, p, r, k)
		for i, change := range []func(x *impl.Run){
			func(x *impl.Run) { x.Code = x.Code%4 + 1 },
			func(x *impl.Run) { x.Trace = x.Trace[:len(x.Trace)-1] },
			func(x *impl.Run) { x.Trace = append(x.Trace, local(0)) },
			func(x *impl.Run) { x.Trace[0].Pc++ },
			func(x *impl.Run) { x.Trace = swapped(x.Trace, k) },
			func(x *impl.Run) { x.Trace = slices.Repeat(x.Trace, 20) },
			func(x *impl.Run) { x.Trace = nil },
			func(x *impl.Run) { x.Trace[len(x.Trace)-1] = impl.Event{} },
			func(x *impl.Run) { x.Picks = x.Picks[1:] },
			func(x *impl.Run) { x.Picks[0] = -1 },
			func(x *impl.Run) { x.Picks[0] = 1000 },
			func(x *impl.Run) { x.Picks = make([]int, impl.MaxBudget+1) },
			func(x *impl.Run) { x.End.Cells[0] = 7 },
			func(x *impl.Run) { x.End.Threads = x.End.Threads[:1] },
			func(x *impl.Run) { *x = impl.Run{} },
		} {
			x := copyOfRun(r)
			change(&x)
			if is, _ := impl.IsRun(p, x); is {
				t.Fatal("it is a run still", name, i)
			}
			noSwap(t, p, x, -1, 0, k, k+1, len(r.Trace)-1)
		}
		for _, wrong := range wrongProgs() {
			noSwap(t, wrong, r, -1, 0, k)
			noSwap(t, wrong, impl.Run{}, -1, 0, k)
		}
		noSwap(t, joiner(), r, k)
	})
}

// TestSwapsOfAsManyEventsAsMayBe has two threads that go on by turns.
func TestSwapsOfAsManyEventsAsMayBe(t *testing.T) {
	p := loopers(2)
	threads := append([]int{0}, slices.Repeat([]int{0, 1}, impl.MaxBudget)...)[:impl.MaxBudget]
	last := impl.MaxBudget - 2
	changesTo(t, p, threads, last, swapped(threads, last)...)
	changesTo(t, p, threads, 100, swapped(threads, 100)...)
	changesNot(t, p, threads, last+1, last+2)
	// One event more is no run at all.
	r, _ := impl.RunThreads(p, threads)
	r.Trace, r.Picks = append(r.Trace, local(0)), append(r.Picks, 0)
	noSwap(t, p, r, 100, last, last+1)
}
