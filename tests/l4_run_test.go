package tests

import (
	"fmt"
	"slices"
	"strings"
	"testing"

	"loop.example/g00696/impl"
)

const (
	leastInt    = -1 << 63
	greatestInt = 1<<63 - 1
)

// written is a good program; the ops of each routine stand as OpText has them, with `; ` between.
func written(cells int, locks int, conds int, routines ...string) impl.Prog {
	p := impl.Prog{Cells: cells, Locks: locks, Conds: conds}
	for _, routine := range routines {
		var ops []impl.Op
		for word := range strings.SplitSeq(routine, "; ") {
			if o, ok := impl.ReadOp(word); ok {
				ops = append(ops, o)
			} else if word != "" {
				panic("no op: " + word)
			}
		}
		p.Routines = append(p.Routines, ops)
	}
	if !impl.GoodProg(p) {
		panic("not good: " + strings.Join(routines, " | "))
	}
	return p
}

// joiner waits for a thread that puts 3 into cell 0.
func joiner() impl.Prog {
	return written(1, 0, 0, "spawn 1; join", "push 3p0; store 0")
}

// crossed has two threads that take two locks, each in its own order.
func crossed() impl.Prog {
	return written(0, 2, 0, "spawn 1; spawn 2", "lock 0; lock 1; unlock 1; unlock 0", "lock 1; lock 0; unlock 0; unlock 1")
}

// loopers has, behind its spawns, that many threads that go on for ever.
func loopers(many int) impl.Prog {
	spawns := strings.Repeat("spawn 1; ", many-1)
	return written(0, 0, 0, spawns+fmt.Sprint("jump ", many-1), "jump 0")
}

func eventOf(thread int, kind int, obj int, lock int, pc int) impl.Event {
	return impl.Event{Thread: thread, Kind: kind, Obj: obj, Lock: lock, Pc: pc}
}

func sameRun(a impl.Run, b impl.Run) bool {
	return a.Code == b.Code && slices.Equal(a.Trace, b.Trace) && slices.Equal(a.Picks, b.Picks) && sameState(a.End, b.End)
}

func copyOfRun(r impl.Run) impl.Run {
	return impl.Run{Code: r.Code, Trace: slices.Clone(r.Trace), Picks: slices.Clone(r.Picks), End: copyOfState(r.End)}
}

// byHand is a run as the document says it, by the functions of chapter 3 alone.
func byHand(p impl.Prog, picks []int, budget int) impl.Run {
	var r impl.Run
	r.End, _ = impl.NewState(p)
	for {
		enabled, _ := impl.EnabledIn(p, r.End)
		living := slices.ContainsFunc(r.End.Threads, func(thread impl.Thread) bool { return thread.State != impl.ThDone })
		if r.End.Fault != impl.FtNone {
			r.Code = impl.RnFault
		} else if len(enabled) == 0 && !living {
			r.Code = impl.RnDone
		} else if len(enabled) == 0 {
			r.Code = impl.RnStuck
		} else if len(r.Trace) == budget {
			r.Code = impl.RnBudget
		}
		if r.Code != 0 {
			return r
		}
		pick := 0
		if len(r.Trace) < len(picks) {
			pick = picks[len(r.Trace)]
		}
		after, e, _ := impl.StepState(p, r.End, enabled[pick%len(enabled)])
		r.Trace, r.Picks, r.End = append(r.Trace, e), append(r.Picks, pick%len(enabled)), after
	}
}

func TestNumbersOfRuns(t *testing.T) {
	if impl.MaxBudget != 200 {
		t.Error("MaxBudget", impl.MaxBudget)
	}
	for i, n := range []int{impl.RnDone, impl.RnFault, impl.RnStuck, impl.RnBudget} {
		if n != i+1 {
			t.Error("Code", i, n)
		}
	}
}

// runsTo asks for a run of given picks: its code, and the threads that go.
func runsTo(t *testing.T, name string, p impl.Prog, picks []int, budget int, code int, threads []int) impl.Run {
	t.Helper()
	r, ok := impl.RunPicks(p, picks, budget)
	if l, is := impl.ThreadsOf(r); !ok || !is || r.Code != code || !slices.Equal(l, threads) {
		t.Errorf("%s: %v %v, not code %d of %v", name, r, ok, code, threads)
	}
	return r
}

func TestARunWholly(t *testing.T) {
	p := written(1, 1, 0, "spawn 1; lock 0; unlock 0; join", "lock 0; push -1p-1; store 0; load 0; unlock 0")
	r, ok := impl.RunPicks(p, []int{7, 1, 998, 3, 0, 5, 999, 2, 6}, 100)
	end := with(p, isDone(0), isDone(1))
	end.Threads[0].Pc, end.Threads[1].Pc, end.Threads[1].Stack, end.Cells[0] = 4, 5, []float64{-0.5}, -0.5
	want := impl.Run{
		Code: impl.RnDone,
		Trace: []impl.Event{
			eventOf(0, impl.EvSpawn, 1, -1, 0), eventOf(1, impl.EvLock, 0, -1, 0), eventOf(1, impl.EvLocal, -1, -1, 1),
			eventOf(1, impl.EvStore, 0, -1, 2), eventOf(1, impl.EvLoad, 0, -1, 3), eventOf(1, impl.EvUnlock, 0, -1, 4),
			eventOf(1, impl.EvEnd, -1, -1, 5), eventOf(0, impl.EvLock, 0, -1, 1), eventOf(0, impl.EvUnlock, 0, -1, 2),
			eventOf(0, impl.EvJoin, 1, -1, 3), eventOf(0, impl.EvEnd, -1, -1, 4),
		},
		Picks: []int{0, 1, 0, 0, 0, 0, 1, 0, 0, 0, 0},
		End:   end,
	}
	if !ok || !sameRun(r, want) {
		t.Errorf("%v %v, not %v", r, ok, want)
	}
}

func TestCodesInTheirOrder(t *testing.T) {
	empty := written(0, 0, 0, "")
	runsTo(t, "no ops, no budget", empty, nil, 0, impl.RnBudget, nil)
	runsTo(t, "no ops, done with the last of the budget", empty, nil, 1, impl.RnDone, []int{0})
	runsTo(t, "no ops", empty, nil, impl.MaxBudget, impl.RnDone, []int{0})
	faulty := written(0, 0, 0, "push 0; add")
	runsTo(t, "just ahead of a fault", faulty, nil, 1, impl.RnBudget, []int{0})
	runsTo(t, "a fault with the last of the budget", faulty, nil, 2, impl.RnFault, []int{0, 0})
	runsTo(t, "a fault", faulty, nil, 3, impl.RnFault, []int{0, 0})
	stuck := written(0, 1, 0, "lock 0; lock 0")
	runsTo(t, "just ahead of being stuck", stuck, nil, 0, impl.RnBudget, nil)
	runsTo(t, "stuck with the last of the budget", stuck, nil, 1, impl.RnStuck, []int{0})
	runsTo(t, "stuck", stuck, nil, 2, impl.RnStuck, []int{0})
	endless := written(0, 0, 0, "jump 0")
	for _, budget := range []int{0, 1, 2, impl.MaxBudget - 1, impl.MaxBudget} {
		r := runsTo(t, "endless", endless, nil, budget, impl.RnBudget, make([]int, budget))
		if len(r.Picks) != budget {
			t.Error("picks", r.Picks)
		}
	}
	// A fault counts though all others are done, and though others could go on.
	last := written(0, 0, 0, "spawn 1", "add")
	runsTo(t, "a fault when the others are done", last, nil, 3, impl.RnFault, []int{0, 0, 1})
	runsTo(t, "a fault when another one could go on", last, []int{0, 1}, 9, impl.RnFault, []int{0, 1})
	// One that sleeps for ever is not done, though no other is left.
	sleeper := written(0, 1, 1, "spawn 1", "lock 0; wait 0 0")
	runsTo(t, "one asleep", sleeper, nil, 9, impl.RnStuck, []int{0, 0, 1, 1})
	// A budget that ends with the very last step leaves the run done.
	for budget := range 6 {
		runsTo(t, "cut short", joiner(), nil, budget, impl.RnBudget, []int{0, 1, 1, 1, 0, 0}[:budget])
	}
	runsTo(t, "just enough", joiner(), nil, 6, impl.RnDone, []int{0, 1, 1, 1, 0, 0})
	runsTo(t, "more than enough", joiner(), nil, 7, impl.RnDone, []int{0, 1, 1, 1, 0, 0})
}

// TestPicksAreModuloHowManyCanGo has each pick there is with each number of threads there may be.
func TestPicksAreModuloHowManyCanGo(t *testing.T) {
	for many := 1; many <= impl.MaxThreads; many++ {
		p := loopers(many)
		// While the threads are spawned thread 0 has the place 0; a pick of 60 is that with any number of threads.
		ahead := slices.Repeat([]int{60}, many-1)
		for pick := range 1000 {
			r, ok := impl.RunPicks(p, append(slices.Clone(ahead), pick), many)
			want := append(make([]int, many-1), pick%many)
			if l, _ := impl.ThreadsOf(r); !ok || r.Code != impl.RnBudget || !slices.Equal(r.Picks, want) || !slices.Equal(l, want) {
				t.Fatalf("pick %d of %d: %v %v", pick, many, r, ok)
			}
		}
	}
}

// TestPicksArePlacesNotThreads has a thread that can't go ahead of those that can.
func TestPicksArePlacesNotThreads(t *testing.T) {
	p := written(0, 0, 0, "spawn 1; spawn 1; join", "jump 0")
	picks := []int{0, 0, 0, 1, 2, 3, 998, 999}
	r := runsTo(t, "thread 0 waits", p, picks, 8, impl.RnBudget, []int{0, 0, 1, 2, 1, 2, 1, 2})
	if !slices.Equal(r.Picks, []int{0, 0, 0, 1, 0, 1, 0, 1}) {
		t.Error("the places are not told", r.Picks)
	}
}

func TestFewerAndMorePicksThanSteps(t *testing.T) {
	p := loopers(3)
	runsTo(t, "no picks", p, nil, 5, impl.RnBudget, []int{0, 0, 0, 0, 0})
	runsTo(t, "an empty list of them", p, []int{}, 5, impl.RnBudget, []int{0, 0, 0, 0, 0})
	r := runsTo(t, "fewer", p, []int{0, 0, 5, 4}, 7, impl.RnBudget, []int{0, 0, 2, 1, 0, 0, 0})
	if !slices.Equal(r.Picks, []int{0, 0, 2, 1, 0, 0, 0}) {
		t.Error("picks", r.Picks)
	}
	runsTo(t, "as many", p, []int{0, 0, 5, 4}, 4, impl.RnBudget, []int{0, 0, 2, 1})
	r = runsTo(t, "more", p, []int{0, 0, 5, 4}, 3, impl.RnBudget, []int{0, 0, 2})
	if !slices.Equal(r.Picks, []int{0, 0, 2}) {
		t.Error("picks", r.Picks)
	}
	r = runsTo(t, "more, but done", joiner(), slices.Repeat([]int{999}, impl.MaxBudget), impl.MaxBudget, impl.RnDone, []int{0, 1, 1, 1, 0, 0})
	if !slices.Equal(r.Picks, make([]int, 6)) {
		t.Error("picks", r.Picks)
	}
}

// noRun asks for the zero answer of RunPicks.
func noRun(t *testing.T, name string, p impl.Prog, picks []int, budget int) {
	t.Helper()
	if r, ok := impl.RunPicks(p, picks, budget); ok || !sameRun(r, impl.Run{}) {
		t.Errorf("%s: %v %v", name, r, ok)
	}
}

func TestLimitsOfRunPicks(t *testing.T) {
	p := loopers(2)
	for _, many := range []int{0, 1, impl.MaxBudget - 1, impl.MaxBudget} {
		for _, budget := range []int{0, 1, impl.MaxBudget} {
			for _, pick := range []int{0, 1, 999} {
				picks := slices.Repeat([]int{pick}, many)
				if r, ok := impl.RunPicks(p, picks, budget); !ok || !sameRun(r, byHand(p, picks, budget)) || len(r.Trace) != budget {
					t.Errorf("%d picks of %d, budget %d: %v %v", many, pick, budget, r, ok)
				}
			}
		}
	}
	for _, budget := range []int{0, 1, impl.MaxBudget} {
		noRun(t, "a pick too many", p, make([]int, impl.MaxBudget+1), budget)
		for _, pick := range []int{leastInt, -1000, -1, 1000, 1001, greatestInt} {
			for _, place := range []int{0, 1, impl.MaxBudget - 1} {
				// A pick that the run has no need of is looked at too.
				picks := make([]int, place+1)
				picks[place] = pick
				noRun(t, "no pick", p, picks, budget)
				noRun(t, "no pick, behind the end", written(0, 0, 0, ""), picks, budget)
			}
		}
	}
	for _, budget := range []int{leastInt, -1, impl.MaxBudget + 1, greatestInt} {
		noRun(t, "no budget", p, nil, budget)
		noRun(t, "no budget", p, []int{1}, budget)
		noRun(t, "no budget", written(0, 0, 0, ""), nil, budget)
	}
	for _, q := range wrongProgs() {
		noRun(t, "no program", q, nil, 0)
		noRun(t, "no program", q, []int{1}, 5)
	}
}

// goesBy asks for a run of given threads.
func goesBy(t *testing.T, name string, p impl.Prog, threads []int, code int, picks []int) {
	t.Helper()
	r, ok := impl.RunThreads(p, threads)
	if l, _ := impl.ThreadsOf(r); !ok || r.Code != code || !slices.Equal(r.Picks, picks) || !slices.Equal(l, threads) {
		t.Errorf("%s: %v %v, not code %d of picks %v", name, r, ok, code, picks)
	}
	if again := byHand(p, picks, len(picks)); !sameRun(r, again) {
		t.Errorf("%s: %v, not %v", name, r, again)
	}
}

// goesNot asks for the zero answer of RunThreads.
func goesNot(t *testing.T, name string, p impl.Prog, threads []int) {
	t.Helper()
	if r, ok := impl.RunThreads(p, threads); ok || !sameRun(r, impl.Run{}) {
		t.Errorf("%s: %v %v", name, r, ok)
	}
}

func TestCodesBehindTheLastThread(t *testing.T) {
	goesBy(t, "none", joiner(), nil, impl.RnBudget, nil)
	goesBy(t, "an empty list of them", joiner(), []int{}, impl.RnBudget, nil)
	goesBy(t, "none, no ops", written(0, 0, 0, ""), nil, impl.RnBudget, nil)
	goesBy(t, "no ops", written(0, 0, 0, ""), []int{0}, impl.RnDone, []int{0})
	goesBy(t, "not yet", joiner(), []int{0, 1, 1, 1, 0}, impl.RnBudget, []int{0, 0, 0, 0, 0})
	goesBy(t, "done", joiner(), []int{0, 1, 1, 1, 0, 0}, impl.RnDone, []int{0, 0, 0, 0, 0, 0})
	goesBy(t, "stuck", crossed(), []int{0, 0, 0, 1, 2}, impl.RnStuck, []int{0, 0, 0, 0, 1})
	goesBy(t, "not stuck", crossed(), []int{0, 0, 2, 2, 2, 1, 0}, impl.RnBudget, []int{0, 0, 2, 2, 1, 1, 0})
	goesBy(t, "a fault", written(0, 0, 0, "spawn 1", "add"), []int{0, 1}, impl.RnFault, []int{0, 1})
	goesBy(t, "places of threads behind one that waits", written(0, 0, 0, "spawn 1; spawn 1; join", "jump 0"),
		[]int{0, 0, 2, 1}, impl.RnBudget, []int{0, 0, 1, 0})
	five := loopers(impl.MaxThreads)
	goesBy(t, "all there may be", five, []int{0, 0, 0, 0, 4, 3, 2, 1, 0}, impl.RnBudget, []int{0, 0, 0, 0, 4, 3, 2, 1, 0})
}

func TestThreadsThatCanNotGo(t *testing.T) {
	goesNot(t, "not spawned yet", joiner(), []int{1})
	goesNot(t, "one that joins", joiner(), []int{0, 0})
	goesNot(t, "one that is done", joiner(), []int{0, 1, 1, 1, 1})
	goesNot(t, "one more when all are done", joiner(), []int{0, 1, 1, 1, 0, 0, 0})
	goesNot(t, "one more when all are done", written(0, 0, 0, ""), []int{0, 0})
	goesNot(t, "one whose lock is had", crossed(), []int{0, 0, 0, 1, 1, 2})
	goesNot(t, "one more when stuck", crossed(), []int{0, 0, 0, 1, 2, 1})
	goesNot(t, "one more when stuck, no thread", crossed(), []int{0, 0, 0, 1, 2, -1})
	goesNot(t, "one behind a fault", written(0, 0, 0, "spawn 1", "add"), []int{0, 1, 0})
	goesNot(t, "the one with the fault", written(0, 0, 0, "spawn 1", "add"), []int{0, 1, 1})
	goesNot(t, "one that sleeps", written(0, 1, 1, "spawn 1", "lock 0; wait 0 0"), []int{0, 1, 1, 1})
	for _, thread := range []int{leastInt, -2, -1, 3, impl.MaxThreads, impl.MaxThreads + 1, 1000, greatestInt} {
		goesNot(t, "no thread, first", loopers(3), []int{thread})
		goesNot(t, "no thread, last", loopers(3), []int{0, 0, 2, 1, thread})
		goesNot(t, "no thread, in between", loopers(3), []int{0, 0, thread, 1})
	}
	for _, thread := range []int{-1, impl.MaxThreads} {
		goesNot(t, "no thread when all are there", loopers(impl.MaxThreads), []int{0, 0, 0, 0, 4, thread})
	}
}

func TestLimitsOfRunThreads(t *testing.T) {
	all := append(make([]int, 4), slices.Repeat([]int{4, 0, 3, 1}, 49)...)
	goesBy(t, "as many as may be", loopers(5), all, impl.RnBudget, all)
	goesBy(t, "one less", loopers(5), all[:impl.MaxBudget-1], impl.RnBudget, all[:impl.MaxBudget-1])
	goesNot(t, "one more", loopers(5), append(slices.Clone(all), 0))
	goesBy(t, "as many as may be", written(0, 0, 0, "jump 0"), make([]int, impl.MaxBudget), impl.RnBudget, make([]int, impl.MaxBudget))
	goesNot(t, "one more", written(0, 0, 0, "jump 0"), make([]int, impl.MaxBudget+1))
	goesNot(t, "one more, of no thread", written(0, 0, 0, "jump 0"), append(make([]int, impl.MaxBudget), -1))
	for _, p := range wrongProgs() {
		goesNot(t, "no program", p, nil)
		goesNot(t, "no program", p, []int{0})
	}
}
