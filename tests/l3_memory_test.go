package tests

import (
	"slices"
	"testing"

	"loop.example/g00696/impl"
)

const (
	mark  = 77
	spare = 4
)

// marked is a copy of a list with marks behind its length, which nobody may read, write or hand out.
func marked[T any](list []T, m T) []T {
	long := slices.Grow(slices.Clone(list), spare)
	for i := range spare {
		long = append(long[:len(list)+i], m)
	}
	return long[:len(list)]
}

func markedState(s impl.State) impl.State {
	s.Threads = marked(s.Threads, impl.Thread{Routine: mark, Stack: []float64{mark}})
	for i := range s.Threads {
		s.Threads[i].Stack = marked(s.Threads[i].Stack, mark)
	}
	s.Cells = marked(s.Cells, mark)
	s.Owner = marked(s.Owner, mark)
	return s
}

func marksStay(s impl.State) bool {
	stay := true
	for i := range spare {
		for _, thread := range s.Threads {
			stay = stay && thread.Stack[:len(thread.Stack)+spare][len(thread.Stack)+i] == mark
		}
		stay = stay && s.Threads[:len(s.Threads)+spare][len(s.Threads)+i].Routine == mark
		stay = stay && s.Cells[:len(s.Cells)+spare][len(s.Cells)+i] == mark
		stay = stay && s.Owner[:len(s.Owner)+spare][len(s.Owner)+i] == mark
	}
	return stay
}

func handsOutMarks(s impl.State) bool {
	out := slices.Contains(s.Cells[:cap(s.Cells)], mark) || slices.Contains(s.Owner[:cap(s.Owner)], mark)
	for _, thread := range s.Threads[:cap(s.Threads)] {
		out = out || thread.Routine == mark || slices.Contains(thread.Stack[:cap(thread.Stack)], mark)
	}
	return out
}

// writeAll writes into each list of a state, and goes on behind its length as far as its memory goes.
func writeAll(s impl.State) {
	for i := range s.Threads {
		for k := range s.Threads[i].Stack[:cap(s.Threads[i].Stack)] {
			s.Threads[i].Stack[:cap(s.Threads[i].Stack)][k] = mark
		}
	}
	for i := range s.Threads[:cap(s.Threads)] {
		s.Threads[:cap(s.Threads)][i] = impl.Thread{Routine: mark, Stack: s.Threads[:cap(s.Threads)][i].Stack}
	}
	for i := range s.Cells[:cap(s.Cells)] {
		s.Cells[:cap(s.Cells)][i] = mark
	}
	for i := range s.Owner[:cap(s.Owner)] {
		s.Owner[:cap(s.Owner)][i] = mark
	}
}

// eachStep hands on a state for each op, for one that is woken, for one that ends, and for each fault.
func eachStep(see func(name string, p impl.Prog, s impl.State)) {
	for _, c := range codes {
		p := atOp(impl.Op{Code: c.code})
		for many := range impl.MaxStack + 1 {
			s := standing(p, slices.Repeat([]float64{2}, many)...)
			if c.code != impl.OpLock {
				s.Owner[0] = 1
			}
			s.Threads[0].State, s.Threads[0].Cond, s.Threads[0].Lock = impl.ThAsleep, 0, 0
			see(c.word, p, s)
			s.Owner[0] = -1
			see(c.word+" without the lock", p, s)
		}
		s := standing(p, 9)
		see(c.word+" of a number that tells no thread", p, s)
		s.Threads = append(s.Threads, isDone(0), isDone(0))
		see(c.word+" with all threads", p, s)
		s.Threads[1] = woken(0, 1, 0, 0)
		see("woken", p, s)
		s.Threads[1] = running(0, 3)
		see("end", p, s)
	}
}

func TestStatesAreNotWrittenInto(t *testing.T) {
	eachStep(func(name string, p impl.Prog, s impl.State) {
		held := markedState(s)
		heldProg := p
		heldProg.Routines = marked(p.Routines, []impl.Op{{Code: mark}})
		for i := range heldProg.Routines {
			heldProg.Routines[i] = marked(heldProg.Routines[i], impl.Op{Code: mark})
		}
		after, _, ok := impl.StepState(heldProg, held, 1)
		impl.GoodState(heldProg, held)
		impl.EnabledIn(heldProg, held)
		impl.WaitsFor(heldProg, held)
		impl.SameState(held, held)
		impl.NewState(heldProg)
		if !ok || !sameState(held, s) || !sameProg(heldProg, p) || !marksStay(held) {
			t.Errorf("%s: an argument was changed: %v %v %v", name, heldProg, held, ok)
		}
		if handsOutMarks(after) {
			t.Errorf("%s: a mark behind a list was handed out: %v", name, after)
		}
	})
}

func TestStatesAreMemoryOfTheirOwn(t *testing.T) {
	eachStep(func(name string, p impl.Prog, s impl.State) {
		held := copyOfState(s)
		first, e, _ := impl.StepState(p, held, 1)
		kept := copyOfState(first)
		writeAll(first)
		if !sameState(held, s) {
			t.Errorf("%s: the answer shares memory with the state", name)
		}
		second, again, ok := impl.StepState(p, held, 1)
		if !ok || e != again || !sameState(second, kept) {
			t.Errorf("%s: something is kept from call to call", name)
		}
		writeAll(held)
		if !sameState(second, kept) {
			t.Errorf("%s: the state is handed out", name)
		}
	})
}

// TestNumbersThatAreTakenAreGone looks behind the stack that is told.
func TestNumbersThatAreTakenAreGone(t *testing.T) {
	for _, code := range []int{impl.OpStore, impl.OpUnless} {
		p := atOp(impl.Op{Code: code})
		after, _, ok := impl.StepState(p, standing(p, 5, mark), 1)
		stack := after.Threads[1].Stack
		if !ok || len(stack) != 1 || slices.Contains(stack[:cap(stack)], mark) {
			t.Errorf("%v lies behind %v", stack[:cap(stack)], stack)
		}
	}
}

// TestStacksOfOneAnswer goes on behind each stack: were two one piece of memory, that would write into the next.
func TestStacksOfOneAnswer(t *testing.T) {
	shared := slices.Repeat([]float64{2}, impl.MaxStack)
	eachStep(func(name string, p impl.Prog, s impl.State) {
		for i := range s.Threads {
			// Even where the stacks of the argument are one piece of memory, those of the answer are not.
			s.Threads[i].Stack = shared[:min(len(s.Threads[i].Stack), 7)]
		}
		after, _, ok := impl.StepState(p, s, 1)
		if !ok {
			return
		}
		kept := copyOfState(after)
		for i := range after.Threads {
			for k := range after.Threads[i].Stack[:cap(after.Threads[i].Stack)] {
				after.Threads[i].Stack[:cap(after.Threads[i].Stack)][k] = mark
			}
			for j := i + 1; j < len(after.Threads); j++ {
				if !sameThread(after.Threads[j], kept.Threads[j]) {
					t.Errorf("%s: the stacks of %d and %d share memory", name, i, j)
				}
			}
		}
		if slices.Contains(shared, mark) {
			t.Errorf("%s: a stack of the argument is handed out", name)
		}
	})
}

func TestOtherAnswersAreMemoryOfTheirOwn(t *testing.T) {
	p := atOp(impl.Op{Code: impl.OpLock})
	first, _ := impl.NewState(p)
	second, _ := impl.NewState(p)
	writeAll(first)
	third, _ := impl.NewState(p)
	if !sameState(second, with(p, running(0, 0))) || !sameState(third, second) {
		t.Error("NewState", second, third)
	}
	s := with(p, running(0, 1), running(0, 1), running(0, 2))
	s.Owner[0] = 2
	enabled, _ := impl.EnabledIn(p, s)
	waits, _ := impl.WaitsFor(p, s)
	clear(enabled)
	_ = append(waits[0], mark, mark)
	if !slices.Equal(waits[1], []int{1, 2}) {
		t.Error("two pairs share memory", waits)
	}
	for _, pair := range waits {
		pair[0], pair[1] = mark, mark
	}
	goAndWait(t, "asked again", p, s, []int{2}, [][]int{{0, 2}, {1, 2}})
}

// TestThreadsThatAreNone asks for threads that no list has.
func TestThreadsThatAreNone(t *testing.T) {
	p := atOp(impl.Op{Code: impl.OpPush})
	s := standing(p)
	for _, thread := range []int{-1 << 63, -1, 2, 3, 4, 5, 1<<63 - 1} {
		refuses(t, "no such thread, or done", p, s, thread)
	}
}
