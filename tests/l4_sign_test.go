package tests

import (
	"fmt"
	"math"
	"slices"
	"strings"
	"testing"

	"loop.example/g00696/impl"
)

// isRun asks for both answers of IsRun.
func isRun(t *testing.T, name string, p impl.Prog, r impl.Run, want bool, wantOk bool) {
	t.Helper()
	if is, ok := impl.IsRun(p, r); is != want || ok != wantOk {
		t.Errorf("%s: IsRun(%v) %v %v, not %v %v", name, r, is, ok, want, wantOk)
	}
	if want {
		return
	}
	// What is no run has no sign, and nobody is dead in it.
	if s, ok := impl.SignOf(p, r); ok || s != "" {
		t.Errorf("%s: SignOf(%v) %q %v", name, r, s, ok)
	}
	if l, ok := impl.DeadIn(p, r); ok || len(l) != 0 {
		t.Errorf("%s: DeadIn(%v) %v %v", name, r, l, ok)
	}
}

// hasSign asks for what SignOf and DeadIn tell of a run by picks, as far as it goes.
func hasSign(t *testing.T, name string, p impl.Prog, picks []int, sign string, dead ...int) {
	t.Helper()
	r, ok := impl.RunPicks(p, picks, impl.MaxBudget)
	if !ok {
		t.Fatal(name, "no run")
	}
	isRun(t, name, p, r, true, true)
	if s, ok := impl.SignOf(p, r); !ok || s != sign {
		t.Errorf("%s: SignOf(%v) %q %v, not %q", name, r, s, ok, sign)
	}
	if l, ok := impl.DeadIn(p, r); ok != (len(dead) > 0) || !slices.Equal(l, dead) {
		t.Errorf("%s: DeadIn(%v) %v %v, not %v", name, r, l, ok, dead)
	}
}

func TestSignsOfRunsThatEnd(t *testing.T) {
	hasSign(t, "done", joiner(), nil, "done")
	hasSign(t, "done at once", written(0, 0, 0, ""), nil, "done")
	hasSign(t, "budget", written(0, 0, 0, "jump 0"), nil, "budget")
	for budget := range 6 {
		r, _ := impl.RunPicks(joiner(), nil, budget)
		if s, ok := impl.SignOf(joiner(), r); !ok || s != "budget" {
			t.Errorf("a budget of %d: %q %v", budget, s, ok)
		}
	}
}

func TestSignsOfFaults(t *testing.T) {
	hasSign(t, "a stack too short", written(0, 0, 0, "add"), nil, "fault 1 0 0 0")
	hasSign(t, "a stack too full", written(0, 0, 0, "jump 1; push 0; jump 1"), nil, "fault 1 0 0 1")
	hasSign(t, "a lock that it has not", written(0, 1, 0, "jump 2; push 0; unlock 0"), nil, "fault 2 0 0 2")
	hasSign(t, "a wait with a lock that it has not", written(0, 1, 1, "wait 0 0"), nil, "fault 2 0 0 0")
	hasSign(t, "a join of no thread", written(0, 0, 0, "push 1p1; join"), nil, "fault 3 0 0 1")
	hasSign(t, "threads too many", written(0, 0, 0, "spawn 0; jump 0"), nil, "fault 4 0 0 0")
	hasSign(t, "threads too many, by the last one", written(0, 0, 0, "spawn 0"), []int{0, 1, 2, 3, 4}, "fault 4 4 0 0")
	unlike := written(0, 1, 0, "spawn 1; spawn 3", "", "", "push 0; push 0; push 0; push 0; unlock 0")
	hasSign(t, "all four unlike", unlike, []int{0, 1, 0, 1, 1, 1, 1, 1}, "fault 2 2 3 4")
	far := "jump 23" + strings.Repeat("; push 0", impl.MaxOps-2) + "; store 0"
	hasSign(t, "a place of two digits", written(1, 0, 0, far), nil, "fault 1 0 0 23")
	// The last event counts, not the highest thread, nor the place that the thread is at in the end.
	both := written(0, 0, 0, "spawn 1; spawn 2", "add", "push 0; add")
	hasSign(t, "of two the first", both, []int{0, 0, 2, 1}, "fault 1 1 1 0")
	hasSign(t, "of two the second", both, []int{0, 0, 2, 2}, "fault 1 2 2 1")
}

func TestSignsOfStuckRuns(t *testing.T) {
	hasSign(t, "the lock that it has", written(0, 1, 0, "lock 0; lock 0"), nil, "stuck 0", 0)
	hasSign(t, "a join of itself", written(0, 0, 0, "push 0; join"), nil, "stuck 0", 0)
	hasSign(t, "a join of itself by -0", written(0, 0, 0, "push -0; join"), nil, "stuck 0", 0)
	hasSign(t, "joins of each other", written(0, 0, 0, "spawn 1; join", "push 0; join"), nil, "stuck 0,1", 0, 1)
	hasSign(t, "two locks", crossed(), []int{0, 0, 0, 0, 1}, "stuck 1,2", 1, 2)
	hasSign(t, "two locks, one behind the other", crossed(), nil, "done")
	joined := written(0, 2, 0, "spawn 1; spawn 2; join", "lock 0; lock 1", "lock 1; lock 0")
	hasSign(t, "one that waits for a cycle is none of it", joined, []int{0, 0, 0, 1}, "stuck 1,2", 1, 2)
	three := written(0, 3, 0, "spawn 1; spawn 2; spawn 3", "lock 0; lock 1", "lock 1; lock 2", "lock 2; lock 0")
	hasSign(t, "three locks", three, []int{0, 0, 0, 0, 0, 1, 1}, "stuck 1,2,3", 1, 2, 3)
	other := written(0, 3, 0, "spawn 1; spawn 2; spawn 3", "lock 0; lock 2", "lock 1; lock 0", "lock 2; lock 1")
	hasSign(t, "three locks, the other way", other, []int{0, 0, 0, 0, 0, 1, 1}, "stuck 1,3,2", 1, 3, 2)
	two := written(0, 3, 0, "spawn 1; spawn 2; lock 2; lock 2", "lock 0; lock 1", "lock 1; lock 0")
	hasSign(t, "of two cycles the one with the least", two, []int{0, 0, 2, 1, 0}, "stuck 0", 0)
	woken := written(0, 2, 1, "spawn 1; spawn 2", "lock 1; lock 0; wait 0 0", "lock 0; signal 0; lock 1")
	hasSign(t, "one that was woken", woken, []int{0, 0, 0, 0, 0, 0, 0, 0}, "stuck 1,2", 1, 2)
}

func TestSignsOfStuckRunsWithNoCycle(t *testing.T) {
	hasSign(t, "asleep", written(0, 1, 1, "lock 0; wait 0 0"), nil, "stuck -")
	hasSign(t, "joins one that sleeps", written(0, 1, 1, "spawn 1; join", "lock 0; wait 0 0"), nil, "stuck -")
	hasSign(t, "a lock that one has who is done", written(0, 1, 0, "spawn 1; lock 0", "lock 0"), nil, "stuck -")
	hasSign(t, "the others are done", written(0, 1, 0, "spawn 1; lock 0", "lock 0"), []int{0, 1, 1}, "stuck -")
}

// runsOfEachCode are runs with events of many kinds, and with NaN, 0 and -0 in their ends.
func runsOfEachCode(see func(name string, p impl.Prog, r impl.Run)) {
	body := "push nan; store 0; push -0; store 1; load 0; load 1; load 2; spawn 1; "
	for name, tail := range map[string]string{
		"done": "join", "budget": "jump 8", "fault": "unlock 0", "stuck": "lock 0; wait 0 0", "stuck by itself": "lock 0; lock 0",
	} {
		p := written(3, 2, 1, body+tail, "lock 1")
		r, ok := impl.RunPicks(p, []int{0, 0, 0, 0, 0, 0, 0, 0, 1, 1}, 13)
		if s, is := impl.SignOf(p, r); !ok || !is || s[:4] != name[:4] {
			panic(fmt.Sprint(name, " is not what comes of it: ", s))
		}
		see(name, p, r)
	}
}

// isNot asks that a run is none once it is changed; its Picks stay such as are said.
func isNot(t *testing.T, name string, p impl.Prog, r impl.Run, change func(*impl.Run)) {
	t.Helper()
	other := copyOfRun(r)
	change(&other)
	isRun(t, name, p, other, false, true)
}

func TestRunsWithAnotherCodeOrTrace(t *testing.T) {
	runsOfEachCode(func(name string, p impl.Prog, r impl.Run) {
		isRun(t, name, p, r, true, true)
		for _, code := range []int{leastInt, -1, 0, impl.RnDone, impl.RnFault, impl.RnStuck, impl.RnBudget, 5, greatestInt} {
			if code != r.Code {
				isNot(t, name+" code", p, r, func(r *impl.Run) { r.Code = code })
			}
		}
		for i := range r.Trace {
			isNot(t, name+" Thread", p, r, func(r *impl.Run) { r.Trace[i].Thread++ })
			isNot(t, name+" Thread", p, r, func(r *impl.Run) { r.Trace[i].Thread = leastInt })
			isNot(t, name+" Kind", p, r, func(r *impl.Run) { r.Trace[i].Kind++ })
			isNot(t, name+" Obj", p, r, func(r *impl.Run) { r.Trace[i].Obj++ })
			isNot(t, name+" Lock", p, r, func(r *impl.Run) { r.Trace[i].Lock-- })
			isNot(t, name+" Pc", p, r, func(r *impl.Run) { r.Trace[i].Pc++ })
			isNot(t, name+" event left out", p, r, func(r *impl.Run) { r.Trace = slices.Delete(r.Trace, i, i+1) })
			isNot(t, name+" event twice", p, r, func(r *impl.Run) { r.Trace = slices.Insert(r.Trace, i, r.Trace[i]) })
		}
		isNot(t, name+" no trace", p, r, func(r *impl.Run) { r.Trace = nil })
		isNot(t, name+" zero event behind", p, r, func(r *impl.Run) { r.Trace = append(r.Trace, impl.Event{}) })
		isNot(t, name+" events that changed places", p, r, func(r *impl.Run) { r.Trace[0], r.Trace[1] = r.Trace[1], r.Trace[0] })
		isNot(t, name+" all events there may be", p, r, func(r *impl.Run) {
			r.Trace = append(r.Trace, make([]impl.Event, impl.MaxBudget-len(r.Trace))...)
		})
	})
}

func TestRunsWithOtherPicks(t *testing.T) {
	runsOfEachCode(func(name string, p impl.Prog, r impl.Run) {
		for i := range r.Picks {
			// Picks of the same thread are no places: 60 more is the same modulo any number of threads.
			isNot(t, name+" pick that is no place", p, r, func(r *impl.Run) { r.Picks[i] += 60 })
			isNot(t, name+" another pick", p, r, func(r *impl.Run) { r.Picks[i]++ })
			isNot(t, name+" pick left out", p, r, func(r *impl.Run) { r.Picks = slices.Delete(r.Picks, i, i+1) })
			for _, pick := range []int{leastInt, -60, -1, 1000, 1020, greatestInt} {
				other := copyOfRun(r)
				other.Picks[i] = pick
				isRun(t, name+" no picks", p, other, false, false)
			}
		}
		isNot(t, name+" no picks at all", p, r, func(r *impl.Run) { r.Picks = nil })
		isNot(t, name+" greatest pick", p, r, func(r *impl.Run) { r.Picks[0] = 999 })
		isNot(t, name+" a pick more", p, r, func(r *impl.Run) { r.Picks = append(r.Picks, 0) })
		isNot(t, name+" as many picks as may be", p, r, func(r *impl.Run) {
			r.Picks = append(r.Picks, make([]int, impl.MaxBudget-len(r.Picks))...)
		})
		other := copyOfRun(r)
		other.Picks = append(other.Picks, make([]int, impl.MaxBudget+1-len(other.Picks))...)
		isRun(t, name+" picks too many", p, other, false, false)
	})
}

func TestRunsWithAnotherEnd(t *testing.T) {
	changes := map[string]func(s *impl.State){
		"NaN is a number":        func(s *impl.State) { s.Cells[0] = 1 },
		"NaN is 0":               func(s *impl.State) { s.Cells[0] = 0 },
		"-0 is 0":                func(s *impl.State) { s.Cells[1] = 0 },
		"-0 is NaN":              func(s *impl.State) { s.Cells[1] = math.NaN() },
		"0 is -0":                func(s *impl.State) { s.Cells[2] = minusZero },
		"0 is the least number":  func(s *impl.State) { s.Cells[2] = leastAboveZero },
		"NaN on the stack":       func(s *impl.State) { s.Threads[0].Stack[0] = infAbove },
		"-0 on the stack":        func(s *impl.State) { s.Threads[0].Stack[1] = 0 },
		"0 on the stack":         func(s *impl.State) { s.Threads[0].Stack[2] = minusZero },
		"a number less":          func(s *impl.State) { s.Threads[0].Stack = s.Threads[0].Stack[:2] },
		"a number more":          func(s *impl.State) { s.Threads[0].Stack = append(s.Threads[0].Stack, 0) },
		"no cells":               func(s *impl.State) { s.Cells = nil },
		"a cell more":            func(s *impl.State) { s.Cells = append(s.Cells, 0) },
		"no locks":               func(s *impl.State) { s.Owner = nil },
		"a lock that was had":    func(s *impl.State) { s.Owner[1] = -1 },
		"a lock that was free":   func(s *impl.State) { s.Owner[0] = 1 },
		"no thread":              func(s *impl.State) { s.Threads = nil },
		"a thread less":          func(s *impl.State) { s.Threads = s.Threads[:1] },
		"a thread more":          func(s *impl.State) { s.Threads = append(s.Threads, isDone(1)) },
		"another routine":        func(s *impl.State) { s.Threads[1].Routine = 0 },
		"a routine there is not": func(s *impl.State) { s.Threads[1].Routine = greatestInt },
		"another place":          func(s *impl.State) { s.Threads[1].Pc = 0 },
		"another State":          func(s *impl.State) { s.Threads[1].State = impl.ThRun },
		"a cond":                 func(s *impl.State) { s.Threads[1].Cond = 0 },
		"a lock":                 func(s *impl.State) { s.Threads[1].Lock = 0 },
		"another fault":          func(s *impl.State) { s.Fault++ },
		"zero":                   func(s *impl.State) { *s = impl.State{} },
	}
	runsOfEachCode(func(name string, p impl.Prog, r impl.Run) {
		for what, change := range changes {
			isNot(t, name+": "+what, p, r, func(r *impl.Run) { change(&r.End) })
		}
		// All NaNs are one.
		for _, nan := range nans() {
			other := copyOfRun(r)
			other.End.Cells[0], other.End.Threads[0].Stack[0] = nan, nan
			isRun(t, name+": another NaN", p, other, true, true)
		}
	})
}

func TestEmptyListsOfARun(t *testing.T) {
	p := written(0, 0, 0, "")
	r, _ := impl.RunPicks(p, nil, 0)
	r.Trace, r.Picks, r.End.Cells, r.End.Owner, r.End.Threads[0].Stack = nil, nil, nil, nil, nil
	isRun(t, "nil lists", p, r, true, true)
	r.Trace, r.Picks, r.End.Cells, r.End.Owner, r.End.Threads[0].Stack = []impl.Event{}, []int{}, []float64{}, []int{}, []float64{}
	isRun(t, "empty lists", p, r, true, true)
	isRun(t, "zero run", p, impl.Run{}, false, true)
	isRun(t, "zero run with a code", p, impl.Run{Code: impl.RnBudget}, false, true)
}

func TestLimitsOfIsRun(t *testing.T) {
	p := written(0, 0, 0, "jump 0")
	r, _ := impl.RunPicks(p, nil, impl.MaxBudget)
	isRun(t, "as long as can be", p, r, true, true)
	longer := copyOfRun(r)
	longer.Trace = append(longer.Trace, r.Trace[0])
	isRun(t, "an event too many", p, longer, false, false)
	longer.Picks = append(longer.Picks, 0)
	isRun(t, "a step too many", p, longer, false, false)
	longer.Trace = r.Trace
	isRun(t, "a pick too many", p, longer, false, false)
	isRun(t, "events too many, no picks", p, impl.Run{Trace: make([]impl.Event, impl.MaxBudget+1)}, false, false)
	isRun(t, "events that are none, no picks", p, impl.Run{Trace: make([]impl.Event, impl.MaxBudget)}, false, true)
	for _, q := range wrongProgs() {
		isRun(t, "no program", q, impl.Run{}, false, false)
		isRun(t, "no program", q, r, false, false)
	}
	// A run is one of its own program alone.
	isRun(t, "another program", loopers(2), r, false, true)
	s, _ := impl.RunPicks(loopers(2), nil, 5)
	isRun(t, "another program", p, s, false, true)
}

func TestThreadsOf(t *testing.T) {
	for _, threads := range [][]int{nil, {0}, {3, 0, 0, 4}, {leastInt, -1, 5, 999, greatestInt}, make([]int, impl.MaxBudget)} {
		var r impl.Run
		for i, thread := range threads {
			r.Trace = append(r.Trace, impl.Event{Thread: thread, Kind: i, Obj: -i, Lock: 7, Pc: 99})
		}
		// Nothing but the Trace is looked at.
		for _, code := range []int{0, impl.RnDone, 77} {
			r.Code, r.Picks = code, make([]int, 500)
			if l, ok := impl.ThreadsOf(r); !ok || !slices.Equal(l, threads) {
				t.Errorf("ThreadsOf %v: %v %v", threads, l, ok)
			}
		}
	}
	if l, ok := impl.ThreadsOf(impl.Run{Trace: make([]impl.Event, impl.MaxBudget+1)}); ok || len(l) != 0 {
		t.Error("an event too many", l, ok)
	}
}
