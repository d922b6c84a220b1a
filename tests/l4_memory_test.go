package tests

import (
	"slices"
	"testing"

	"loop.example/g00696/impl"
)

func markedRun(r impl.Run) impl.Run {
	r.Trace = marked(r.Trace, impl.Event{Thread: mark})
	r.Picks = marked(r.Picks, mark)
	r.End = markedState(r.End)
	return r
}

func markedProg(p impl.Prog) impl.Prog {
	p.Routines = marked(p.Routines, []impl.Op{{Code: mark}})
	for i := range p.Routines {
		p.Routines[i] = marked(p.Routines[i], impl.Op{Code: mark})
	}
	return p
}

func marksOfRunStay(r impl.Run) bool {
	stay := marksStay(r.End)
	for i := range spare {
		stay = stay && r.Trace[:len(r.Trace)+spare][len(r.Trace)+i].Thread == mark
		stay = stay && r.Picks[:len(r.Picks)+spare][len(r.Picks)+i] == mark
	}
	return stay
}

func marksOfProgStay(p impl.Prog) bool {
	stay := true
	for i := range spare {
		stay = stay && p.Routines[:len(p.Routines)+spare][len(p.Routines)+i][0].Code == mark
		for _, ops := range p.Routines {
			stay = stay && ops[:len(ops)+spare][len(ops)+i].Code == mark
		}
	}
	return stay
}

func runHandsOutMarks(r impl.Run) bool {
	traced := slices.ContainsFunc(r.Trace[:cap(r.Trace)], func(e impl.Event) bool { return e.Thread == mark })
	return traced || slices.Contains(r.Picks[:cap(r.Picks)], mark) || handsOutMarks(r.End)
}

func TestRunsAreNotWrittenInto(t *testing.T) {
	runsOfEachCode(func(name string, p impl.Prog, r impl.Run) {
		heldProg, held := markedProg(p), markedRun(r)
		threads, _ := impl.ThreadsOf(r)
		heldThreads := marked(threads, mark)
		// A last pick that is greater than how many can go is told as its place, in memory of its own.
		heldPicks := marked(append(slices.Clone(r.Picks[:len(r.Picks)-1]), r.Picks[len(r.Picks)-1]+60), mark)
		keptPicks := slices.Clone(heldPicks)
		first, ok := impl.RunPicks(heldProg, heldPicks, len(heldPicks))
		second, is := impl.RunThreads(heldProg, heldThreads)
		if !ok || !is || !sameRun(first, r) || !sameRun(second, r) {
			t.Errorf("%s: what lies behind a list was read: %v %v", name, first, second)
		}
		if runHandsOutMarks(first) || runHandsOutMarks(second) {
			t.Errorf("%s: a mark was handed out: %v %v", name, first, second)
		}
		// A budget beyond the picks would read behind them, were they not cut off at their length.
		if long, ok := impl.RunPicks(heldProg, heldPicks[:2], 13); !ok || !sameRun(long, byHand(p, heldPicks[:2], 13)) {
			t.Errorf("%s: picks behind the list were taken: %v", name, long)
		}
		whole, _ := impl.IsRun(heldProg, held)
		told, _ := impl.ThreadsOf(held)
		sign, _ := impl.SignOf(heldProg, held)
		dead, _ := impl.DeadIn(heldProg, held)
		if !whole || !slices.Equal(told, threads) || sign != signByHand(p, r) || slices.Contains(told[:cap(told)], mark) || slices.Contains(dead, mark) {
			t.Errorf("%s: what lies behind a list was read: %v %v %q %v", name, whole, told, sign, dead)
		}
		if !sameRun(held, r) || !sameProg(heldProg, p) || !slices.Equal(heldPicks, keptPicks) || !slices.Equal(heldThreads, threads) {
			t.Errorf("%s: an argument was changed", name)
		}
		if !marksOfRunStay(held) || !marksOfProgStay(heldProg) || heldPicks[:cap(heldPicks)][len(heldPicks)] != mark || heldThreads[:cap(heldThreads)][len(threads)] != mark {
			t.Errorf("%s: something was written behind a list", name)
		}
	})
}

func writeAllOfRun(r impl.Run) {
	for i := range r.Trace[:cap(r.Trace)] {
		r.Trace[:cap(r.Trace)][i] = impl.Event{Thread: mark}
	}
	for i := range r.Picks[:cap(r.Picks)] {
		r.Picks[:cap(r.Picks)][i] = mark
	}
	writeAll(r.End)
}

func TestRunsAreMemoryOfTheirOwn(t *testing.T) {
	runsOfEachCode(func(name string, p impl.Prog, r impl.Run) {
		kept, keptProg := copyOfRun(r), copyOfProg(p)
		threads, _ := impl.ThreadsOf(r)
		keptThreads := slices.Clone(threads)
		byPicks, _ := impl.RunPicks(p, r.Picks, len(r.Picks))
		writeAllOfRun(byPicks)
		byThreads, _ := impl.RunThreads(p, threads)
		writeAllOfRun(byThreads)
		if !sameRun(r, kept) || !sameProg(p, keptProg) || !slices.Equal(threads, keptThreads) {
			t.Errorf("%s: an answer shares memory with an argument", name)
		}
		for i := range threads[:cap(threads)] {
			threads[:cap(threads)][i] = mark
		}
		if dead, ok := impl.DeadIn(p, r); ok {
			clear(dead)
		}
		if again, ok := impl.ThreadsOf(r); !ok || !slices.Equal(again, keptThreads) || !sameRun(r, kept) {
			t.Errorf("%s: the threads share memory with the run", name)
		}
		again, _ := impl.RunPicks(p, kept.Picks, len(kept.Picks))
		other, _ := impl.RunThreads(p, keptThreads)
		if !sameRun(again, kept) || !sameRun(other, kept) {
			t.Errorf("%s: something is kept from call to call", name)
		}
	})
}

// TestListsOfOneRun writes into one list of numbers after the other, and behind it: no other one may change.
func TestListsOfOneRun(t *testing.T) {
	runsOfEachCode(func(name string, p impl.Prog, r impl.Run) {
		changes := []func(r *impl.Run){
			func(r *impl.Run) { fill(r.Picks); r.Picks = nil },
			func(r *impl.Run) { fill(r.End.Owner); r.End.Owner = nil },
			func(r *impl.Run) { fill(r.End.Cells); r.End.Cells = nil },
			func(r *impl.Run) { fill(r.End.Threads[0].Stack); r.End.Threads[0].Stack = nil },
			func(r *impl.Run) { fill(r.End.Threads[1].Stack); r.End.Threads[1].Stack = nil },
		}
		for i, change := range changes {
			written, _ := impl.RunPicks(p, r.Picks, len(r.Picks))
			want := copyOfRun(written)
			change(&written)
			change(&want)
			if !sameRun(written, want) {
				t.Errorf("%s: list %d shares memory with another one", name, i)
			}
		}
	})
}

func fill[T int | float64](list []T) {
	for i := range list[:cap(list)] {
		list[:cap(list)][i] = mark
	}
}
