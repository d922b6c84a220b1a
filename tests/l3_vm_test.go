package tests

import (
	"slices"
	"testing"

	"loop.example/g00696/impl"
)

// atOp is a program whose routine 0 has the op at place 1, between two others, and which has as many things as there may be.
func atOp(o impl.Op) impl.Prog {
	add := impl.Op{Code: impl.OpAdd}
	return impl.Prog{Cells: impl.MaxCells, Locks: impl.MaxLocks, Conds: impl.MaxConds, Routines: [][]impl.Op{
		{add, o, add},
		{{Code: impl.OpPush, V: 7}, {Code: impl.OpStore}},
		{},
	}}
}

func running(routine int, pc int, stack ...float64) impl.Thread {
	return impl.Thread{Routine: routine, Pc: pc, State: impl.ThRun, Cond: -1, Lock: -1, Stack: stack}
}

func isDone(routine int) impl.Thread {
	return impl.Thread{Routine: routine, State: impl.ThDone, Cond: -1, Lock: -1}
}

func asleep(routine int, pc int, cond int, lock int) impl.Thread {
	return impl.Thread{Routine: routine, Pc: pc, State: impl.ThAsleep, Cond: cond, Lock: lock}
}

func woken(routine int, pc int, cond int, lock int) impl.Thread {
	return impl.Thread{Routine: routine, Pc: pc, State: impl.ThWoken, Cond: cond, Lock: lock}
}

// with is the state of a program with these threads, all cells 0, and no lock had.
func with(p impl.Prog, threads ...impl.Thread) impl.State {
	return impl.State{Threads: threads, Cells: make([]float64, p.Cells), Owner: slices.Repeat([]int{-1}, p.Locks)}
}

func sameThread(x impl.Thread, y impl.Thread) bool {
	return x.Routine == y.Routine && x.Pc == y.Pc && x.State == y.State && x.Cond == y.Cond && x.Lock == y.Lock &&
		slices.EqualFunc(x.Stack, y.Stack, same)
}

// sameState is told without the function under test.
func sameState(a impl.State, b impl.State) bool {
	return slices.EqualFunc(a.Threads, b.Threads, sameThread) && slices.EqualFunc(a.Cells, b.Cells, same) &&
		slices.Equal(a.Owner, b.Owner) && a.Fault == b.Fault
}

func copyOfState(s impl.State) impl.State {
	s.Threads = slices.Clone(s.Threads)
	for i := range s.Threads {
		s.Threads[i].Stack = slices.Clone(s.Threads[i].Stack)
	}
	s.Cells = slices.Clone(s.Cells)
	s.Owner = slices.Clone(s.Owner)
	return s
}

// changed is a copy of a state with one change.
func changed(s impl.State, change func(*impl.State)) impl.State {
	s = copyOfState(s)
	if change != nil {
		change(&s)
	}
	return s
}

func TestNumbersOfTheMachine(t *testing.T) {
	if impl.MaxThreads != 5 || impl.MaxStack != 8 {
		t.Error("the limits are not those of the document")
	}
	for i, n := range []int{impl.ThRun, impl.ThDone, impl.ThAsleep, impl.ThWoken} {
		if n != i+1 {
			t.Error("State", i, n)
		}
	}
	for i, n := range []int{impl.FtNone, impl.FtStack, impl.FtLock, impl.FtJoin, impl.FtMany} {
		if n != i {
			t.Error("Fault", i, n)
		}
	}
	for i, n := range []int{
		impl.EvLocal, impl.EvLoad, impl.EvStore, impl.EvLock, impl.EvUnlock, impl.EvSpawn, impl.EvJoin, impl.EvWait,
		impl.EvWake, impl.EvSignal, impl.EvEnd, impl.EvFault,
	} {
		if n != i+1 {
			t.Error("Kind", i, n)
		}
	}
}

func TestNewState(t *testing.T) {
	for _, p := range []impl.Prog{
		{Routines: [][]impl.Op{{}}}, {Cells: 1, Routines: [][]impl.Op{{}}}, {Locks: 1, Routines: [][]impl.Op{{}}},
		{Conds: 2, Routines: [][]impl.Op{{}}}, bigProg(), greatestProg(),
	} {
		want := with(p, running(0, 0))
		s, ok := impl.NewState(p)
		if !ok || !sameState(s, want) || !impl.GoodState(p, s) {
			t.Errorf("NewState(%v) %v %v", p, s, ok)
		}
	}
	for _, p := range wrongProgs() {
		if s, ok := impl.NewState(p); ok || !sameState(s, impl.State{}) {
			t.Errorf("NewState(%v) %v %v", p, s, ok)
		}
	}
}

func wrongProgs() []impl.Prog {
	return []impl.Prog{
		{}, {Cells: -1, Routines: [][]impl.Op{{}}}, {Cells: impl.MaxCells + 1, Routines: [][]impl.Op{{}}},
		{Locks: -1 << 63, Routines: [][]impl.Op{{}}}, {Locks: 1<<63 - 1, Routines: [][]impl.Op{{}}},
		{Conds: impl.MaxConds + 1, Routines: [][]impl.Op{{}}}, {Routines: [][]impl.Op{}},
		{Routines: make([][]impl.Op, impl.MaxRoutines+1)}, {Routines: [][]impl.Op{{{}}}},
		{Routines: [][]impl.Op{{{Code: impl.OpLoad}}}}, {Routines: [][]impl.Op{{}, {{Code: impl.OpJump, A: 2}}}},
	}
}

// fullState meets limits of a program that is atOp: as many threads and numbers as can be, each State.
func fullState(p impl.Prog) impl.State {
	s := with(p,
		running(0, 3, 1, 2, 3, 4, 5, 6, 7, 8), isDone(2), asleep(1, 2, 1, 3), woken(1, 0, 0, 0), running(2, 0, minusZero))
	s.Cells = []float64{nans()[0], infBelow, minusZero, greatest}
	s.Owner = []int{-1, 0, 4, 4}
	return s
}

func TestGoodStatesAtTheirLimits(t *testing.T) {
	p := atOp(impl.Op{Code: impl.OpAdd})
	full := fullState(p)
	for name, change := range map[string]func(*impl.State){
		"as it is":               nil,
		"one thread":             func(s *impl.State) { s.Threads, s.Owner = s.Threads[:1], []int{0, 0, -1, -1} },
		"the first fault":        func(s *impl.State) { s.Fault = impl.FtStack },
		"the last fault":         func(s *impl.State) { s.Fault = impl.FtMany },
		"all locks had":          func(s *impl.State) { s.Owner = []int{0, 1, 2, 3} },
		"had by the last thread": func(s *impl.State) { s.Owner = []int{4, 4, 4, 4} },
		"the last routine":       func(s *impl.State) { s.Threads[0] = running(2, 0) },
		"done in the middle":     func(s *impl.State) { s.Threads[0].Pc, s.Threads[0].State = 1, impl.ThDone },
		"asleep at the end":      func(s *impl.State) { s.Threads[0] = asleep(0, 3, 0, 0) },
		"woken at the end":       func(s *impl.State) { s.Threads[0] = woken(0, 3, 1, 3) },
		"woken with its lock":    func(s *impl.State) { s.Owner[0] = 3 },
		"asleep with numbers":    func(s *impl.State) { s.Threads[2].Stack = make([]float64, impl.MaxStack) },
	} {
		if s := changed(full, change); !impl.GoodState(p, s) {
			t.Errorf("%s: not good: %v", name, s)
		}
	}
}

// beyondLimits are changes of a fullState, each of which goes just beyond one limit.
func beyondLimits() map[string]func(*impl.State) {
	return map[string]func(*impl.State){
		"no thread":             func(s *impl.State) { s.Threads, s.Owner = nil, []int{-1, -1, -1, -1} },
		"a thread more":         func(s *impl.State) { s.Threads = append(s.Threads, isDone(0)) },
		"a cell less":           func(s *impl.State) { s.Cells = s.Cells[:3] },
		"a cell more":           func(s *impl.State) { s.Cells = append(s.Cells, 0) },
		"no cells":              func(s *impl.State) { s.Cells = nil },
		"a lock less":           func(s *impl.State) { s.Owner = s.Owner[:3] },
		"a lock more":           func(s *impl.State) { s.Owner = append(s.Owner, -1) },
		"no locks":              func(s *impl.State) { s.Owner = nil },
		"had by less than none": func(s *impl.State) { s.Owner[0] = -2 },
		"had by no thread":      func(s *impl.State) { s.Owner[3] = 5 },
		"had by one far off":    func(s *impl.State) { s.Owner[1] = 1<<63 - 1 },
		"a fault below":         func(s *impl.State) { s.Fault = impl.FtNone - 1 },
		"a fault above":         func(s *impl.State) { s.Fault = impl.FtMany + 1 },
		"a routine below":       func(s *impl.State) { s.Threads[1].Routine = -1 },
		"a routine above":       func(s *impl.State) { s.Threads[1].Routine = 3 },
		"a place below":         func(s *impl.State) { s.Threads[0].Pc = -1 },
		"a place above":         func(s *impl.State) { s.Threads[0].Pc = 4 },
		"a place of another":    func(s *impl.State) { s.Threads[4].Pc = 1 },
		"a place when done":     func(s *impl.State) { s.Threads[1].Pc = 1 },
		"a State below":         func(s *impl.State) { s.Threads[0].State = impl.ThRun - 1 },
		"a State above":         func(s *impl.State) { s.Threads[3].State = impl.ThWoken + 1 },
		"a number more":         func(s *impl.State) { s.Threads[0].Stack = append(s.Threads[0].Stack, 9) },
		"a cond that runs":      func(s *impl.State) { s.Threads[0].Cond = 0 },
		"a lock that runs":      func(s *impl.State) { s.Threads[0].Lock = 0 },
		"both that run":         func(s *impl.State) { s.Threads[4].Cond, s.Threads[4].Lock = 0, 0 },
		"less than none":        func(s *impl.State) { s.Threads[0].Cond = -2 },
		"a cond that is done":   func(s *impl.State) { s.Threads[1].Cond = 1 },
		"a lock that is done":   func(s *impl.State) { s.Threads[1].Lock = 1 },
		"asleep without cond":   func(s *impl.State) { s.Threads[2].Cond = -1 },
		"asleep without lock":   func(s *impl.State) { s.Threads[2].Lock = -1 },
		"asleep, cond above":    func(s *impl.State) { s.Threads[2].Cond = 2 },
		"asleep, lock above":    func(s *impl.State) { s.Threads[2].Lock = 4 },
		"woken without cond":    func(s *impl.State) { s.Threads[3].Cond = -1 },
		"woken without lock":    func(s *impl.State) { s.Threads[3].Lock = -1 },
		"woken, cond above":     func(s *impl.State) { s.Threads[3].Cond = 2 },
		"woken, lock above":     func(s *impl.State) { s.Threads[3].Lock = 4 },
		"zero":                  func(s *impl.State) { *s = impl.State{} },
	}
}

// notOfState asks for the zero answers of a state that has to be none of the program.
func notOfState(t *testing.T, name string, p impl.Prog, s impl.State) {
	t.Helper()
	if impl.GoodState(p, s) {
		t.Errorf("%s: good: %v", name, s)
	}
	if l, ok := impl.EnabledIn(p, s); ok || len(l) != 0 {
		t.Errorf("%s: EnabledIn %v %v", name, l, ok)
	}
	if l, ok := impl.WaitsFor(p, s); ok || len(l) != 0 {
		t.Errorf("%s: WaitsFor %v %v", name, l, ok)
	}
	for thread := -1; thread <= impl.MaxThreads+1; thread++ {
		refuses(t, name, p, s, thread)
	}
}

func refuses(t *testing.T, name string, p impl.Prog, s impl.State, thread int) {
	t.Helper()
	if after, e, ok := impl.StepState(p, s, thread); ok || !sameState(after, impl.State{}) || e != (impl.Event{}) {
		t.Errorf("%s: StepState of %d %v %v %v", name, thread, after, e, ok)
	}
}

func TestStatesThatAreNotGood(t *testing.T) {
	p := atOp(impl.Op{Code: impl.OpAdd})
	for name, change := range beyondLimits() {
		notOfState(t, name, p, changed(fullState(p), change))
	}
	for _, q := range wrongProgs() {
		notOfState(t, "a wrong program", q, with(impl.Prog{}, running(0, 0)))
		notOfState(t, "a wrong program", q, fullState(p))
		notOfState(t, "a wrong program", q, impl.State{})
	}
	// What is named must be there in the very program.
	few := impl.Prog{Locks: 1, Conds: 1, Routines: [][]impl.Op{{}}}
	if !impl.GoodState(few, with(few, woken(0, 0, 0, 0))) {
		t.Error("the one cond and the one lock")
	}
	notOfState(t, "no such cond", few, with(few, woken(0, 0, 1, 0)))
	notOfState(t, "no such lock", few, with(few, asleep(0, 0, 0, 1)))
	none := impl.Prog{Routines: [][]impl.Op{{}}}
	notOfState(t, "no cond at all", none, with(none, asleep(0, 0, 0, 0)))
}

func TestSameState(t *testing.T) {
	p := atOp(impl.Op{Code: impl.OpAdd})
	full := fullState(p)
	if !impl.SameState(full, copyOfState(full)) || !impl.SameState(impl.State{}, impl.State{}) {
		t.Error("not the same as itself")
	}
	all := beyondLimits()
	all["another number on the stack"] = func(s *impl.State) { s.Threads[0].Stack[7] = 9 }
	all["a number less"] = func(s *impl.State) { s.Threads[0].Stack = s.Threads[0].Stack[:7] }
	all["0 for -0 on the stack"] = func(s *impl.State) { s.Threads[4].Stack[0] = 0 }
	all["0 for -0 in a cell"] = func(s *impl.State) { s.Cells[2] = 0 }
	all["a number for NaN"] = func(s *impl.State) { s.Cells[0] = 1 }
	all["NaN for a number"] = func(s *impl.State) { s.Cells[3] = nans()[0] }
	all["another owner"] = func(s *impl.State) { s.Owner[0] = 0 }
	all["another fault"] = func(s *impl.State) { s.Fault = impl.FtJoin }
	all["another State"] = func(s *impl.State) { s.Threads[2].State = impl.ThWoken }
	all["another routine"] = func(s *impl.State) { s.Threads[4].Routine = 1 }
	all["another place"] = func(s *impl.State) { s.Threads[0].Pc = 2 }
	all["another cond"] = func(s *impl.State) { s.Threads[2].Cond = 0 }
	all["another lock"] = func(s *impl.State) { s.Threads[2].Lock = 2 }
	all["threads that changed places"] = func(s *impl.State) { s.Threads[0], s.Threads[4] = s.Threads[4], s.Threads[0] }
	for name, change := range all {
		other := changed(full, change)
		if impl.SameState(full, other) || impl.SameState(other, full) {
			t.Errorf("%s: the same", name)
		}
		if !impl.SameState(other, copyOfState(other)) {
			t.Errorf("%s: not the same as itself", name)
		}
	}
}

func TestSameStateByNumbers(t *testing.T) {
	for _, x := range append(inOrder(), nans()...) {
		for _, y := range append(inOrder(), nans()...) {
			cells := func(v float64) impl.State { return impl.State{Cells: []float64{1, v}} }
			stack := func(v float64) impl.State { return impl.State{Threads: []impl.Thread{{Stack: []float64{v}}}} }
			if impl.SameState(cells(x), cells(y)) != same(x, y) || impl.SameState(stack(x), stack(y)) != same(x, y) {
				t.Errorf("SameState with %v and %v", x, y)
			}
		}
	}
	empty := impl.State{Threads: []impl.Thread{}, Cells: []float64{}, Owner: []int{}}
	if !impl.SameState(empty, impl.State{}) || !impl.SameState(impl.State{}, empty) {
		t.Error("the empty list and the nil list are not the same")
	}
	if !impl.SameState(impl.State{Threads: []impl.Thread{{Stack: []float64{}}}}, impl.State{Threads: []impl.Thread{{}}}) {
		t.Error("the empty stack and the nil stack are not the same")
	}
}

// goAndWait asks for what EnabledIn and WaitsFor tell.
func goAndWait(t *testing.T, name string, p impl.Prog, s impl.State, enabled []int, waits [][]int) {
	t.Helper()
	if !impl.GoodState(p, s) {
		t.Fatalf("%s: not good: %v", name, s)
	}
	if l, ok := impl.EnabledIn(p, s); !ok || !slices.Equal(l, enabled) {
		t.Errorf("%s: EnabledIn %v %v, not %v", name, l, ok, enabled)
	}
	if l, ok := impl.WaitsFor(p, s); !ok || !slices.EqualFunc(l, waits, slices.Equal[[]int]) {
		t.Errorf("%s: WaitsFor %v %v, not %v", name, l, ok, waits)
	}
	for thread := -1; thread <= impl.MaxThreads+1; thread++ {
		if _, _, ok := impl.StepState(p, s, thread); ok != slices.Contains(enabled, thread) {
			t.Errorf("%s: StepState of %d tells %v", name, thread, ok)
		}
		if !slices.Contains(enabled, thread) {
			refuses(t, name, p, s, thread)
		}
	}
}

func TestEveryStateOfAThread(t *testing.T) {
	p := atOp(impl.Op{Code: impl.OpAdd})
	for pc := range 4 {
		goAndWait(t, "running", p, with(p, running(0, pc)), []int{0}, nil)
		goAndWait(t, "asleep", p, with(p, asleep(0, pc, 0, 0)), nil, nil)
		goAndWait(t, "woken", p, with(p, woken(0, pc, 0, 0)), []int{0}, nil)
		end := isDone(0)
		end.Pc = pc
		goAndWait(t, "done", p, with(p, end), nil, nil)
	}
	all := with(p, running(2, 0), asleep(0, 0, 0, 0), woken(0, 0, 1, 1), isDone(0), running(0, 1, 1))
	goAndWait(t, "all together", p, all, []int{0, 2, 4}, nil)
}

func TestEveryOpButTwoCanGo(t *testing.T) {
	for _, c := range codes {
		p := atOp(impl.Op{Code: c.code})
		s := with(p, isDone(2), running(0, 1))
		goAndWait(t, c.word, p, s, []int{1}, nil)
		// Locks that others have, and numbers on the stack, hold up no op but those two.
		s = with(p, isDone(2), running(0, 1, 1))
		s.Owner = []int{0, 0, 0, 0}
		switch c.code {
		case impl.OpLock:
			goAndWait(t, c.word, p, s, nil, [][]int{{1, 0}})
		case impl.OpJoin:
			goAndWait(t, c.word, p, s, nil, [][]int{{1, 1}})
		default:
			goAndWait(t, c.word, p, s, []int{1}, nil)
		}
	}
}

func TestWhoWaitsForALock(t *testing.T) {
	p := atOp(impl.Op{Code: impl.OpLock, A: 2})
	s := with(p, running(2, 0), running(0, 1), isDone(2))
	goAndWait(t, "had by none", p, s, []int{0, 1}, nil)
	for owner, waits := range map[int][][]int{0: {{1, 0}}, 1: {{1, 1}}, 2: {{1, 2}}} {
		goAndWait(t, "had", p, changed(s, func(s *impl.State) { s.Owner[2] = owner }), []int{0}, waits)
	}
	goAndWait(t, "another lock had", p, changed(s, func(s *impl.State) { s.Owner = []int{0, 0, -1, 0} }), []int{0, 1}, nil)
	late := with(p, running(0, 1), running(0, 1), running(0, 2))
	late.Owner[2] = 2
	goAndWait(t, "two for one", p, late, []int{2}, [][]int{{0, 2}, {1, 2}})
	// Only one that runs is held up by its op.
	for name, thread := range map[string]impl.Thread{"asleep": asleep(0, 1, 0, 0), "done": {Pc: 1, State: impl.ThDone, Cond: -1, Lock: -1}} {
		held := with(p, thread)
		held.Owner[2] = 0
		goAndWait(t, name, p, held, nil, nil)
	}
}

func TestWhoWaitsWhenWoken(t *testing.T) {
	p := atOp(impl.Op{Code: impl.OpLock, A: 2})
	for pc := range 4 {
		s := with(p, running(2, 0), woken(0, pc, 1, 3), asleep(0, 0, 1, 3))
		goAndWait(t, "had by none", p, s, []int{0, 1}, nil)
		for owner, waits := range map[int][][]int{0: {{1, 0}}, 1: {{1, 1}}, 2: {{1, 2}}} {
			goAndWait(t, "had", p, changed(s, func(s *impl.State) { s.Owner[3] = owner }), []int{0}, waits)
		}
		goAndWait(t, "another lock had", p, changed(s, func(s *impl.State) { s.Owner = []int{0, 0, 0, -1} }), []int{0, 1}, nil)
	}
}

func TestWhoWaitsForAThread(t *testing.T) {
	p := atOp(impl.Op{Code: impl.OpJoin})
	s := with(p, running(2, 0), running(0, 1), isDone(2), asleep(0, 0, 0, 0), woken(0, 0, 0, 0))
	s.Owner[0] = 2
	goAndWait(t, "an empty stack", p, s, []int{0, 1}, [][]int{{4, 2}})
	on := func(x float64) impl.State {
		return changed(s, func(s *impl.State) { s.Threads[1].Stack = []float64{2, x} })
	}
	goAndWait(t, "one that runs", p, on(0), []int{0}, [][]int{{1, 0}, {4, 2}})
	goAndWait(t, "one that runs, by -0", p, on(minusZero), []int{0}, [][]int{{1, 0}, {4, 2}})
	goAndWait(t, "itself", p, on(1), []int{0}, [][]int{{1, 1}, {4, 2}})
	goAndWait(t, "one that is done", p, on(2), []int{0, 1}, [][]int{{4, 2}})
	goAndWait(t, "one that is asleep", p, on(3), []int{0}, [][]int{{1, 3}, {4, 2}})
	goAndWait(t, "one that is woken", p, on(4), []int{0}, [][]int{{1, 4}, {4, 2}})
	for _, x := range noThread() {
		goAndWait(t, impl.NumText(x), p, on(x), []int{0, 1}, [][]int{{4, 2}})
	}
	for i, thread := range []impl.Thread{asleep(0, 1, 0, 0), {Pc: 1, State: impl.ThDone, Cond: -1, Lock: -1}} {
		thread.Stack = []float64{0}
		other := changed(s, func(s *impl.State) { s.Threads[1] = thread })
		goAndWait(t, []string{"asleep", "done"}[i], p, other, []int{0}, [][]int{{4, 2}})
	}
}

// noThread are numbers that tell none of MaxThreads threads.
func noThread() []float64 {
	return append(nans(), infAbove, infBelow, -1, -leastAboveZero, leastAboveZero, 0.5, 1.5, 3.5, 4.5, impl.MaxThreads, 999, 1000, 1<<53, greatest, -greatest)
}

func TestNoneGoBehindAFaultThoughTheyWait(t *testing.T) {
	p := atOp(impl.Op{Code: impl.OpLock})
	s := with(p, running(0, 1), running(2, 0), woken(0, 0, 0, 1), running(0, 1))
	s.Owner = []int{1, 3, -1, -1}
	goAndWait(t, "no fault", p, s, []int{1}, [][]int{{0, 1}, {2, 3}, {3, 1}})
	for fault := impl.FtStack; fault <= impl.FtMany; fault++ {
		s.Fault = fault
		goAndWait(t, "a fault", p, s, nil, [][]int{{0, 1}, {2, 3}, {3, 1}})
	}
}
