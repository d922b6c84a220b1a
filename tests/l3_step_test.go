package tests

import (
	"fmt"
	"math"
	"slices"
	"testing"

	"loop.example/g00696/impl"
)

// draws counts up numbers that look made up, the same ones each time.
type draws uint64

func (d *draws) below(n int) int {
	*d = *d*6364136223846793005 + 1442695040888963407
	return int(uint64(*d) >> 33 % uint64(n))
}

// standing is a state of a program that is atOp: thread 1 is at the op, between one that runs and one that is done.
func standing(p impl.Prog, stack ...float64) impl.State {
	s := with(p, running(1, 0, 11), running(0, 1, stack...), isDone(2))
	s.Cells = []float64{1.5, 2, minusZero, nans()[0]}
	return s
}

// goesTo asks for one step: the state behind it, and its event.
func goesTo(t *testing.T, name string, p impl.Prog, s impl.State, thread int, want impl.State, event impl.Event) {
	t.Helper()
	if !impl.GoodState(p, s) || !impl.GoodState(p, want) {
		t.Fatalf("%s: not good: %v, %v", name, s, want)
	}
	kept := copyOfState(s)
	after, e, ok := impl.StepState(p, s, thread)
	if !ok || e != event || !sameState(after, want) {
		t.Errorf("%s: %v %v %v, not %v %v", name, after, e, ok, want, event)
	}
	if !sameState(s, kept) {
		t.Errorf("%s: the state was changed: %v", name, s)
	}
}

func event(kind int, obj int, lock int) impl.Event {
	return impl.Event{Thread: 1, Kind: kind, Obj: obj, Lock: lock, Pc: 1}
}

func TestEveryOp(t *testing.T) {
	type states = func(*impl.State)
	owns := func(lock int, owner int) states { return func(s *impl.State) { s.Owner[lock] = owner } }
	stack := func(nums ...float64) states { return func(s *impl.State) { s.Threads[1].Stack = nums } }
	for _, c := range []struct {
		name   string
		op     impl.Op
		before states
		after  states
		event  impl.Event
	}{
		{"push", impl.Op{Code: impl.OpPush, V: 2.5}, nil, stack(5, 3, 2.5), event(impl.EvLocal, -1, -1)},
		{"push -0", impl.Op{Code: impl.OpPush, V: minusZero}, nil, stack(5, 3, minusZero), event(impl.EvLocal, -1, -1)},
		{"push nan", impl.Op{Code: impl.OpPush, V: nans()[0]}, nil, stack(5, 3, nans()[0]), event(impl.EvLocal, -1, -1)},
		{"load 0", impl.Op{Code: impl.OpLoad}, nil, stack(5, 3, 1.5), event(impl.EvLoad, 0, -1)},
		{"load 2", impl.Op{Code: impl.OpLoad, A: 2}, nil, stack(5, 3, minusZero), event(impl.EvLoad, 2, -1)},
		{"load 3", impl.Op{Code: impl.OpLoad, A: 3}, nil, stack(5, 3, nans()[0]), event(impl.EvLoad, 3, -1)},
		{"store 0", impl.Op{Code: impl.OpStore}, nil, func(s *impl.State) {
			s.Threads[1].Stack, s.Cells[0] = []float64{5}, 3
		}, event(impl.EvStore, 0, -1)},
		{"store 3", impl.Op{Code: impl.OpStore, A: 3}, stack(minusZero), func(s *impl.State) {
			s.Threads[1].Stack, s.Cells[3] = nil, minusZero
		}, event(impl.EvStore, 3, -1)},
		{"add", impl.Op{Code: impl.OpAdd}, nil, stack(8), event(impl.EvLocal, -1, -1)},
		{"sub", impl.Op{Code: impl.OpSub}, nil, stack(2), event(impl.EvLocal, -1, -1)},
		{"mul", impl.Op{Code: impl.OpMul}, nil, stack(15), event(impl.EvLocal, -1, -1)},
		{"div", impl.Op{Code: impl.OpDiv}, stack(9, 5, 2), stack(9, 2.5), event(impl.EvLocal, -1, -1)},
		{"less, no", impl.Op{Code: impl.OpLess}, nil, stack(0), event(impl.EvLocal, -1, -1)},
		{"less, yes", impl.Op{Code: impl.OpLess}, stack(3, 5), stack(1), event(impl.EvLocal, -1, -1)},
		{"same, no", impl.Op{Code: impl.OpSame}, nil, stack(0), event(impl.EvLocal, -1, -1)},
		{"same, yes", impl.Op{Code: impl.OpSame}, stack(1, 3, 3), stack(1, 1), event(impl.EvLocal, -1, -1)},
		{"lock", impl.Op{Code: impl.OpLock, A: 2}, nil, owns(2, 1), event(impl.EvLock, 2, -1)},
		{"lock among others", impl.Op{Code: impl.OpLock}, owns(3, 1), owns(0, 1), event(impl.EvLock, 0, -1)},
		{"unlock", impl.Op{Code: impl.OpUnlock, A: 3}, owns(3, 1), owns(3, -1), event(impl.EvUnlock, 3, -1)},
		{"unlock of one that is waited for", impl.Op{Code: impl.OpUnlock}, func(s *impl.State) {
			s.Owner[0], s.Threads[0] = 1, woken(0, 1, 0, 0)
		}, owns(0, -1), event(impl.EvUnlock, 0, -1)},
		{"spawn", impl.Op{Code: impl.OpSpawn, A: 1}, nil, func(s *impl.State) {
			s.Threads = append(s.Threads, running(1, 0))
			s.Threads[1].Stack = []float64{5, 3, 3}
		}, event(impl.EvSpawn, 3, -1)},
		{"spawn of its own routine", impl.Op{Code: impl.OpSpawn}, nil, func(s *impl.State) {
			s.Threads = append(s.Threads, running(0, 0))
			s.Threads[1].Stack = []float64{5, 3, 3}
		}, event(impl.EvSpawn, 3, -1)},
		{"spawn of the last thread", impl.Op{Code: impl.OpSpawn, A: 2}, func(s *impl.State) {
			s.Threads = append(s.Threads, isDone(0))
		}, func(s *impl.State) {
			s.Threads = append(s.Threads, running(2, 0))
			s.Threads[1].Stack = []float64{5, 3, 4}
		}, event(impl.EvSpawn, 4, -1)},
		{"join", impl.Op{Code: impl.OpJoin}, stack(5, 2), stack(5), event(impl.EvJoin, 2, -1)},
		{"join of thread 0", impl.Op{Code: impl.OpJoin}, func(s *impl.State) {
			s.Threads[0], s.Threads[1].Stack = isDone(1), []float64{0}
		}, stack(), event(impl.EvJoin, 0, -1)},
		{"join of thread 0 by -0", impl.Op{Code: impl.OpJoin}, func(s *impl.State) {
			s.Threads[0], s.Threads[1].Stack = isDone(1), []float64{5, minusZero}
		}, stack(5), event(impl.EvJoin, 0, -1)},
	} {
		p := atOp(c.op)
		s := changed(standing(p, 5, 3), c.before)
		want := changed(s, c.after)
		want.Threads[1].Pc = 2
		goesTo(t, c.name, p, s, 1, want, c.event)
	}
}

func TestWait(t *testing.T) {
	for cond := range impl.MaxConds {
		for lock := range impl.MaxLocks {
			p := atOp(impl.Op{Code: impl.OpWait, A: cond, B: lock})
			s := standing(p, 5, 3)
			s.Owner = []int{1, 1, 1, 1}
			want := copyOfState(s)
			want.Owner[lock] = -1
			want.Threads[1].State, want.Threads[1].Cond, want.Threads[1].Lock = impl.ThAsleep, cond, lock
			goesTo(t, "wait", p, s, 1, want, event(impl.EvWait, cond, lock))
		}
	}
}

func TestSignal(t *testing.T) {
	p := atOp(impl.Op{Code: impl.OpSignal, A: 1})
	for _, c := range []struct {
		name   string
		others [4]impl.Thread
		woken  int
	}{
		{"none asleep", [4]impl.Thread{running(1, 0), isDone(0), running(2, 0), isDone(2)}, -1},
		{"none asleep there", [4]impl.Thread{asleep(1, 0, 0, 0), asleep(1, 0, 0, 1), isDone(2), running(1, 2)}, -1},
		{"only woken ones there", [4]impl.Thread{woken(1, 0, 1, 0), woken(1, 0, 1, 0), isDone(2), woken(1, 2, 1, 1)}, -1},
		{"the first", [4]impl.Thread{asleep(1, 0, 1, 3), asleep(1, 0, 1, 3), asleep(1, 0, 1, 3), asleep(1, 0, 1, 3)}, 0},
		{"behind another cond", [4]impl.Thread{asleep(1, 0, 0, 3), asleep(1, 1, 1, 3), asleep(1, 0, 1, 2), isDone(0)}, 2},
		{"behind a woken one", [4]impl.Thread{woken(1, 0, 1, 3), isDone(0), asleep(0, 1, 1, 0), asleep(2, 0, 1, 2)}, 3},
		{"the last", [4]impl.Thread{woken(1, 0, 1, 3), running(0, 3), asleep(0, 1, 0, 0), asleep(0, 3, 1, 2)}, 4},
	} {
		s := with(p, c.others[0], running(0, 1, 5), c.others[1], c.others[2], c.others[3])
		s.Owner = []int{1, 1, 0, 3}
		want := copyOfState(s)
		want.Threads[1].Pc = 2
		if c.woken >= 0 {
			want.Threads[c.woken].State = impl.ThWoken
		}
		goesTo(t, c.name, p, s, 1, want, event(impl.EvSignal, 1, c.woken))
	}
}

func TestNumbersAtTheirEdges(t *testing.T) {
	nan := nans()[0]
	for _, c := range []struct {
		code    int
		x, y, z float64
	}{
		{impl.OpAdd, infAbove, infBelow, nan}, {impl.OpAdd, 0, minusZero, 0}, {impl.OpAdd, minusZero, minusZero, minusZero},
		{impl.OpAdd, nan, 1, nan}, {impl.OpAdd, greatest, greatest, infAbove}, {impl.OpAdd, 1, -1, 0},
		{impl.OpSub, infAbove, infAbove, nan}, {impl.OpSub, 0, 0, 0}, {impl.OpSub, minusZero, 0, minusZero},
		{impl.OpSub, minusZero, minusZero, 0}, {impl.OpSub, 1, infAbove, infBelow}, {impl.OpSub, leastNormal, greatestUnder, leastAboveZero},
		{impl.OpMul, 0, infAbove, nan}, {impl.OpMul, minusZero, 5, minusZero}, {impl.OpMul, minusZero, -5, 0},
		{impl.OpMul, leastAboveZero, 0.25, 0}, {impl.OpMul, -leastAboveZero, 0.25, minusZero}, {impl.OpMul, greatest, -2, infBelow},
		{impl.OpDiv, 0, 0, nan}, {impl.OpDiv, 1, 0, infAbove}, {impl.OpDiv, 1, minusZero, infBelow}, {impl.OpDiv, -1, 0, infBelow},
		{impl.OpDiv, infAbove, infAbove, nan}, {impl.OpDiv, 1, infBelow, minusZero}, {impl.OpDiv, minusZero, 3, minusZero},
		{impl.OpLess, nan, 1, 0}, {impl.OpLess, 1, nan, 0}, {impl.OpLess, nan, nan, 0}, {impl.OpLess, minusZero, 0, 0},
		{impl.OpLess, 0, minusZero, 0}, {impl.OpLess, infBelow, infAbove, 1}, {impl.OpLess, infAbove, infAbove, 0},
		{impl.OpLess, infAbove, nan, 0}, {impl.OpLess, 0, leastAboveZero, 1}, {impl.OpLess, 2, 2, 0},
		{impl.OpSame, nan, nan, 1}, {impl.OpSame, nan, nans()[4], 1}, {impl.OpSame, nan, 1, 0}, {impl.OpSame, 0, minusZero, 0},
		{impl.OpSame, minusZero, 0, 0}, {impl.OpSame, minusZero, minusZero, 1}, {impl.OpSame, 0, 0, 1},
		{impl.OpSame, infAbove, infAbove, 1}, {impl.OpSame, infAbove, infBelow, 0}, {impl.OpSame, 2, 2, 1},
	} {
		comesOut(t, c.code, c.x, c.y, c.z)
	}
}

func comesOut(t *testing.T, code int, x float64, y float64, z float64) {
	t.Helper()
	p := atOp(impl.Op{Code: code})
	s := standing(p, 9, x, y)
	want := standing(p, 9, z)
	want.Threads[1].Pc = 2
	goesTo(t, fmt.Sprint(code, x, y), p, s, 1, want, event(impl.EvLocal, -1, -1))
}

func TestAllPairsOfNumbers(t *testing.T) {
	one := func(holds bool) float64 {
		if holds {
			return 1
		}
		return 0
	}
	for _, x := range append(inOrder(), nans()...) {
		for _, y := range append(inOrder(), nans()...) {
			comesOut(t, impl.OpAdd, x, y, x+y)
			comesOut(t, impl.OpSub, x, y, x-y)
			comesOut(t, impl.OpMul, x, y, x*y)
			comesOut(t, impl.OpDiv, x, y, x/y)
			comesOut(t, impl.OpLess, x, y, one(x < y))
			comesOut(t, impl.OpSame, x, y, one(same(x, y)))
		}
	}
}

// TestJumps goes to each place of the routine, its own and the end among them.
func TestJumps(t *testing.T) {
	for a := range 4 {
		jump := atOp(impl.Op{Code: impl.OpJump, A: a})
		want := standing(jump, 5)
		want.Threads[1].Pc = a
		goesTo(t, "jump", jump, standing(jump, 5), 1, want, event(impl.EvLocal, -1, -1))
		unless := atOp(impl.Op{Code: impl.OpUnless, A: a})
		for _, x := range append(inOrder(), nans()...) {
			want := standing(unless, 5)
			want.Threads[1].Pc = 2
			if x == 0 || math.IsNaN(x) {
				want.Threads[1].Pc = a
			}
			goesTo(t, "unless "+impl.NumText(x), unless, standing(unless, 5, x), 1, want, event(impl.EvLocal, -1, -1))
		}
	}
}

func TestJumpToTheEnd(t *testing.T) {
	p := atOp(impl.Op{Code: impl.OpJump, A: 3})
	s, e, ok := impl.StepState(p, standing(p, 5), 1)
	if !ok || e != event(impl.EvLocal, -1, -1) || s.Threads[1].Pc != 3 || s.Threads[1].State != impl.ThRun {
		t.Error("jump", s, e, ok)
	}
	want := copyOfState(s)
	want.Threads[1].State = impl.ThDone
	goesTo(t, "end", p, s, 1, want, impl.Event{Thread: 1, Kind: impl.EvEnd, Obj: -1, Lock: -1, Pc: 3})
	goAndWait(t, "behind the end", p, want, []int{0}, nil)
}

// TestEnd leaves the stack and the locks of a thread that ends as they are.
func TestEnd(t *testing.T) {
	p := atOp(impl.Op{Code: impl.OpAdd})
	for thread, at := range []impl.Thread{running(2, 0), running(0, 3, 1, 2, 3, 4, 5, 6, 7, 8), running(1, 2, minusZero)} {
		s := with(p, running(1, 1), running(1, 1), running(1, 1), isDone(0))
		s.Threads[thread] = at
		s.Owner = []int{thread, thread, -1, 3}
		want := copyOfState(s)
		want.Threads[thread].State = impl.ThDone
		goesTo(t, "end", p, s, thread, want, impl.Event{Thread: thread, Kind: impl.EvEnd, Obj: -1, Lock: -1, Pc: at.Pc})
	}
}

// TestWokenOnesTakeTheirLock has a woken thread at each op, and at its routine's end: whatever stands there is not done.
func TestWokenOnesTakeTheirLock(t *testing.T) {
	for _, c := range codes {
		for _, pc := range []int{0, 1, 2, 3} {
			p := atOp(impl.Op{Code: c.code})
			s := standing(p)
			s.Threads[1] = woken(0, pc, 1, 2)
			s.Threads[1].Stack = []float64{1, 2, 3, 4, 5, 6, 7, 8}
			s.Owner = []int{0, 1, -1, 2}
			want := copyOfState(s)
			want.Threads[1] = running(0, min(pc+1, 3), 1, 2, 3, 4, 5, 6, 7, 8)
			want.Owner[2] = 1
			goesTo(t, "woken at "+c.word, p, s, 1, want, impl.Event{Thread: 1, Kind: impl.EvWake, Obj: 1, Lock: 2, Pc: pc})
			for owner := range 3 {
				s.Owner[2] = owner
				refuses(t, "its lock is had", p, s, 1)
			}
		}
	}
	p := impl.Prog{Locks: 1, Conds: 1, Routines: [][]impl.Op{{}}}
	want := with(p, running(0, 0))
	want.Owner[0] = 0
	goesTo(t, "no ops at all", p, with(p, woken(0, 0, 0, 0)), 0, want, impl.Event{Kind: impl.EvWake})
}

func TestSleepAndWake(t *testing.T) {
	p := impl.Prog{Locks: 1, Conds: 1, Routines: [][]impl.Op{
		{{Code: impl.OpSpawn, A: 1}, {Code: impl.OpLock}, {Code: impl.OpWait}, {Code: impl.OpUnlock}, {Code: impl.OpJoin}},
		{{Code: impl.OpLock}, {Code: impl.OpSignal}, {Code: impl.OpUnlock}},
	}}
	s, _ := impl.NewState(p)
	for i, c := range []struct {
		event   impl.Event
		enabled []int
		owner   int
	}{
		{impl.Event{Thread: 0, Kind: impl.EvSpawn, Obj: 1, Lock: -1, Pc: 0}, []int{0, 1}, -1},
		{impl.Event{Thread: 0, Kind: impl.EvLock, Obj: 0, Lock: -1, Pc: 1}, []int{0}, 0},
		{impl.Event{Thread: 0, Kind: impl.EvWait, Obj: 0, Lock: 0, Pc: 2}, []int{1}, -1},
		{impl.Event{Thread: 1, Kind: impl.EvLock, Obj: 0, Lock: -1, Pc: 0}, []int{1}, 1},
		{impl.Event{Thread: 1, Kind: impl.EvSignal, Obj: 0, Lock: 0, Pc: 1}, []int{1}, 1},
		{impl.Event{Thread: 1, Kind: impl.EvUnlock, Obj: 0, Lock: -1, Pc: 2}, []int{0, 1}, -1},
		{impl.Event{Thread: 0, Kind: impl.EvWake, Obj: 0, Lock: 0, Pc: 2}, []int{0, 1}, 0},
		{impl.Event{Thread: 0, Kind: impl.EvUnlock, Obj: 0, Lock: -1, Pc: 3}, []int{1}, -1},
		{impl.Event{Thread: 1, Kind: impl.EvEnd, Obj: -1, Lock: -1, Pc: 3}, []int{0}, -1},
		{impl.Event{Thread: 0, Kind: impl.EvJoin, Obj: 1, Lock: -1, Pc: 4}, []int{0}, -1},
		{impl.Event{Thread: 0, Kind: impl.EvEnd, Obj: -1, Lock: -1, Pc: 5}, nil, -1},
	} {
		var e impl.Event
		var ok bool
		s, e, ok = impl.StepState(p, s, c.event.Thread)
		l, _ := impl.EnabledIn(p, s)
		if !ok || e != c.event || !slices.Equal(l, c.enabled) || s.Owner[0] != c.owner {
			t.Fatalf("step %d: %v %v %v, enabled %v", i, s, e, ok, l)
		}
	}
}

// givesUp asks for a fault: all is as it was but for that, and none goes on.
func givesUp(t *testing.T, name string, p impl.Prog, s impl.State, thread int, fault int) {
	t.Helper()
	want := copyOfState(s)
	want.Fault = fault
	pc := s.Threads[thread].Pc
	goesTo(t, name, p, s, thread, want, impl.Event{Thread: thread, Kind: impl.EvFault, Obj: fault, Lock: -1, Pc: pc})
	after, _, _ := impl.StepState(p, s, thread)
	if l, ok := impl.EnabledIn(p, after); !ok || len(l) != 0 {
		t.Errorf("%s: %v can go behind a fault, %v", name, l, ok)
	}
	for other := range after.Threads {
		refuses(t, name, p, after, other)
	}
}

// stackUse tells how many numbers each code takes, and how many it puts.
func stackUse(code int) (int, int) {
	switch {
	case code == impl.OpPush || code == impl.OpLoad || code == impl.OpSpawn:
		return 0, 1
	case code == impl.OpStore || code == impl.OpUnless || code == impl.OpJoin:
		return 1, 0
	case code >= impl.OpAdd && code <= impl.OpSame:
		return 2, 1
	}
	return 0, 0
}

// TestStackTooShortOrFull has each op with each length of the stack. The numbers there tell thread 2, which is done.
func TestStackTooShortOrFull(t *testing.T) {
	for _, c := range codes {
		takes, puts := stackUse(c.code)
		for many := range impl.MaxStack + 1 {
			p := atOp(impl.Op{Code: c.code})
			s := standing(p, slices.Repeat([]float64{2}, many)...)
			if c.code != impl.OpLock {
				s.Owner[0] = 1
			}
			if many < takes || many-takes+puts > impl.MaxStack {
				givesUp(t, fmt.Sprint(c.word, many), p, s, 1, impl.FtStack)
				continue
			}
			after, e, ok := impl.StepState(p, s, 1)
			if !ok || e.Kind == impl.EvFault || len(after.Threads[1].Stack) != many-takes+puts || !impl.GoodState(p, after) {
				t.Errorf("%s with %d numbers: %v %v %v", c.word, many, after, e, ok)
			}
		}
	}
}

func TestLocksThatItHasNot(t *testing.T) {
	for lock := range impl.MaxLocks {
		for name, o := range map[string]impl.Op{"unlock": {Code: impl.OpUnlock, A: lock}, "wait": {Code: impl.OpWait, A: 1, B: lock}} {
			p := atOp(o)
			s := standing(p, 5)
			s.Owner = []int{1, 1, 1, 1}
			for _, owner := range []int{-1, 0, 2} {
				s.Owner[lock] = owner
				givesUp(t, name, p, s, 1, impl.FtLock)
			}
		}
	}
}

func TestJoinsOfNoThread(t *testing.T) {
	p := atOp(impl.Op{Code: impl.OpJoin})
	for _, x := range noThread() {
		s := with(p, isDone(0), running(0, 1, 2, x), isDone(0), isDone(1), isDone(2))
		givesUp(t, "join of "+impl.NumText(x), p, s, 1, impl.FtJoin)
	}
	for many := 2; many <= impl.MaxThreads; many++ {
		threads := slices.Repeat([]impl.Thread{isDone(0)}, many)
		threads[1] = running(0, 1, 1, float64(many))
		givesUp(t, "join of one behind the last", p, with(p, threads...), 1, impl.FtJoin)
	}
}

func TestThreadsMoreThanThereMayBe(t *testing.T) {
	for routine := range 3 {
		p := atOp(impl.Op{Code: impl.OpSpawn, A: routine})
		s := standing(p, 1, 2, 3, 4, 5, 6, 7)
		s.Threads = append(s.Threads, isDone(0), asleep(0, 0, 0, 0))
		givesUp(t, "spawn", p, s, 1, impl.FtMany)
		s.Threads[1].Stack = nil
		givesUp(t, "spawn with an empty stack", p, s, 1, impl.FtMany)
		s.Threads[1].Stack = make([]float64, impl.MaxStack)
		givesUp(t, "both at once", p, s, 1, impl.FtStack)
	}
}

// madeUpProg is a good program of few ops, with all codes that it has things for.
func madeUpProg(d *draws) impl.Prog {
	p := impl.Prog{Cells: d.below(3), Locks: d.below(3), Conds: d.below(3), Routines: make([][]impl.Op, 1+d.below(3))}
	for r := range p.Routines {
		ops := 1 + d.below(6)
		for range ops {
			o := impl.Op{Code: impl.OpPush + d.below(impl.OpSignal), A: d.below(3), B: d.below(2)}
			one := impl.Prog{Cells: p.Cells, Locks: p.Locks, Conds: p.Conds, Routines: make([][]impl.Op, len(p.Routines))}
			for _, c := range codes {
				if c.code == o.Code && !c.a {
					o.A = 0
				}
				if c.code == o.Code && !c.b {
					o.B = 0
				}
			}
			if o.Code == impl.OpPush {
				o.V = float64(d.below(4))
			}
			one.Routines[0] = slices.Repeat([]impl.Op{o}, ops)
			if !impl.GoodProg(one) {
				o = impl.Op{Code: impl.OpPush, V: edgeNums[d.below(len(edgeNums))]}
			}
			p.Routines[r] = append(p.Routines[r], o)
		}
	}
	return p
}

var edgeNums = []float64{0, minusZero, 1, 2, -1, 0.5, infAbove, infBelow, math.NaN(), greatest}

func madeUpState(d *draws, p impl.Prog) impl.State {
	var s impl.State
	for range 1 + d.below(impl.MaxThreads) {
		r := d.below(len(p.Routines))
		thread := running(r, d.below(len(p.Routines[r])+1))
		thread.State = impl.ThRun + d.below(2)
		if p.Conds > 0 && p.Locks > 0 && d.below(2) == 0 {
			thread.State, thread.Cond, thread.Lock = impl.ThAsleep+d.below(2), d.below(p.Conds), d.below(p.Locks)
		}
		for range d.below(impl.MaxStack + 1) {
			thread.Stack = append(thread.Stack, edgeNums[d.below(len(edgeNums))])
		}
		s.Threads = append(s.Threads, thread)
	}
	for range p.Cells {
		s.Cells = append(s.Cells, edgeNums[d.below(len(edgeNums))])
	}
	for range p.Locks {
		s.Owner = append(s.Owner, d.below(len(s.Threads)+1)-1)
	}
	return s
}

// keepsPromise asks for promise 3 of all steps from one state, and hands on the states behind them.
func keepsPromise(t *testing.T, p impl.Prog, s impl.State, see func(impl.State)) {
	t.Helper()
	kept, keptProg := copyOfState(s), copyOfProg(p)
	enabled, ok := impl.EnabledIn(p, s)
	if !ok || !slices.IsSorted(enabled) || len(slices.Compact(slices.Clone(enabled))) != len(enabled) {
		t.Fatalf("EnabledIn(%v, %v) %v %v", p, s, enabled, ok)
	}
	byWords(t, p, s, enabled)
	for thread := -1; thread <= len(s.Threads); thread++ {
		after, e, ok := impl.StepState(p, s, thread)
		if ok != slices.Contains(enabled, thread) {
			t.Fatalf("StepState(%v, %v, %d) %v", p, s, thread, ok)
		}
		if !ok {
			refuses(t, "not enabled", p, s, thread)
			continue
		}
		if !impl.GoodState(p, after) || e.Thread != thread || e.Pc != s.Threads[thread].Pc {
			t.Fatalf("StepState(%v, %v, %d) %v %v", p, s, thread, after, e)
		}
		onlyThose(t, s, after, e)
		if (e.Kind == impl.EvFault) != (after.Fault != impl.FtNone) {
			t.Fatalf("StepState(%v, %v, %d) %v %v", p, s, thread, after, e)
		}
		if e.Kind == impl.EvFault {
			givesUp(t, "fault", p, s, thread, e.Obj)
		}
		see(after)
	}
	if !sameState(s, kept) || !sameProg(p, keptProg) {
		t.Fatalf("an argument was changed: %v %v", p, s)
	}
}

// byWords holds those that can go, and those that wait, against what the document says of each thread.
func byWords(t *testing.T, p impl.Prog, s impl.State, enabled []int) {
	t.Helper()
	var waits [][]int
	for i, thread := range s.Threads {
		var next impl.Op
		if ops := p.Routines[thread.Routine]; thread.State == impl.ThRun && thread.Pc < len(ops) {
			next = ops[thread.Pc]
		}
		other := -1
		if thread.State == impl.ThWoken {
			other = s.Owner[thread.Lock]
		}
		if next.Code == impl.OpLock {
			other = s.Owner[next.A]
		}
		if next.Code == impl.OpJoin && len(thread.Stack) > 0 {
			for k := range s.Threads {
				if thread.Stack[len(thread.Stack)-1] == float64(k) && s.Threads[k].State != impl.ThDone {
					other = k
				}
			}
		}
		if other >= 0 {
			waits = append(waits, []int{i, other})
		}
		can := other < 0 && s.Fault == impl.FtNone && (thread.State == impl.ThRun || thread.State == impl.ThWoken)
		if can != slices.Contains(enabled, i) {
			t.Fatalf("EnabledIn(%v, %v) %v", p, s, enabled)
		}
	}
	if l, ok := impl.WaitsFor(p, s); !ok || !slices.EqualFunc(l, waits, slices.Equal[[]int]) {
		t.Fatalf("WaitsFor(%v, %v) %v %v, not %v", p, s, l, ok, waits)
	}
}

// onlyThose lets no thread be changed but the one that goes, one that is spawned, and one that is woken.
func onlyThose(t *testing.T, s impl.State, after impl.State, e impl.Event) {
	t.Helper()
	many := len(s.Threads)
	if e.Kind == impl.EvSpawn {
		many++
		if e.Obj != len(s.Threads) || !sameThread(after.Threads[e.Obj], running(after.Threads[e.Obj].Routine, 0)) {
			t.Fatalf("spawned from %v: %v %v", s, after, e)
		}
	}
	if len(after.Threads) != many {
		t.Fatalf("from %v to %v by %v", s, after, e)
	}
	for i, thread := range s.Threads {
		if e.Kind == impl.EvSignal && i == e.Lock && thread.State == impl.ThAsleep {
			thread.State = impl.ThWoken
		}
		if i != e.Thread && !sameThread(thread, after.Threads[i]) {
			t.Fatalf("thread %d was changed from %v to %v by %v", i, s, after, e)
		}
	}
}

func TestStepsFromMadeUpStates(t *testing.T) {
	d := draws(3)
	kinds := map[int]int{}
	for range 4000 {
		p := madeUpProg(&d)
		if !impl.GoodProg(p) {
			t.Fatalf("not good: %v", p)
		}
		for range 5 {
			s := madeUpState(&d, p)
			if !impl.GoodState(p, s) {
				t.Fatalf("not good: %v %v", p, s)
			}
			keepsPromise(t, p, s, func(after impl.State) { kinds[after.Fault]++ })
			s.Fault = impl.FtStack + d.below(impl.FtMany)
			if l, ok := impl.EnabledIn(p, s); !ok || len(l) != 0 {
				t.Fatalf("EnabledIn(%v, %v) %v %v", p, s, l, ok)
			}
		}
	}
	for fault := impl.FtNone; fault <= impl.FtMany; fault++ {
		if kinds[fault] == 0 {
			t.Errorf("no step came to the fault %d", fault)
		}
	}
}

// TestStepsFromTheBeginning goes through states that are reached from NewState, in all orders of threads.
func TestStepsFromTheBeginning(t *testing.T) {
	d := draws(5)
	progs := []impl.Prog{bigProg(), greatestProg()}
	for range 300 {
		progs = append(progs, madeUpProg(&d))
	}
	for _, p := range progs {
		first, _ := impl.NewState(p)
		states := []impl.State{first}
		known := map[string]bool{fmt.Sprint(first): true}
		for i := 0; i < len(states) && i < 150; i++ {
			keepsPromise(t, p, states[i], func(after impl.State) {
				if text := fmt.Sprint(after); !known[text] {
					known[text] = true
					states = append(states, after)
				}
			})
		}
	}
}
