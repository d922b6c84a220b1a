package tests

import (
	"fmt"
	"slices"
	"strings"
	"testing"

	"loop.example/g00696/impl"
)

func madeUpPicks(d *draws) []int {
	picks := make([]int, d.below(40))
	for i := range picks {
		picks[i] = d.below(1000)
	}
	return picks
}

// madeAgain asks for promise 4 of one run.
func madeAgain(t *testing.T, p impl.Prog, r impl.Run) {
	t.Helper()
	if again, ok := impl.RunPicks(p, r.Picks, len(r.Picks)); !ok || !sameRun(again, r) {
		t.Fatalf("by picks: %v %v, not %v", again, ok, r)
	}
	threads, ok := impl.ThreadsOf(r)
	if !ok || len(threads) != len(r.Trace) {
		t.Fatalf("threads: %v %v of %v", threads, ok, r)
	}
	if again, ok := impl.RunThreads(p, threads); !ok || !sameRun(again, r) {
		t.Fatalf("by threads: %v %v, not %v", again, ok, r)
	}
	if is, ok := impl.IsRun(p, r); !is || !ok {
		t.Fatalf("IsRun(%v, %v) %v %v", p, r, is, ok)
	}
	if sign, ok := impl.SignOf(p, r); !ok || sign != signByHand(p, r) {
		t.Fatalf("SignOf(%v, %v) %q %v", p, r, sign, ok)
	}
}

func signByHand(p impl.Prog, r impl.Run) string {
	switch r.Code {
	case impl.RnDone:
		return "done"
	case impl.RnBudget:
		return "budget"
	case impl.RnFault:
		last := r.Trace[len(r.Trace)-1]
		return fmt.Sprintf("fault %d %d %d %d", last.Obj, last.Thread, r.End.Threads[last.Thread].Routine, last.Pc)
	}
	waits, _ := impl.WaitsFor(p, r.End)
	dead, ok := impl.CycleIn(waits)
	if !ok {
		return "stuck -"
	}
	return "stuck " + strings.ReplaceAll(strings.Trim(fmt.Sprint(dead), "[]"), " ", ",")
}

// goesOn asks that a run with a greater budget begins with the one with a lesser budget, and goes on from there.
func goesOn(t *testing.T, p impl.Prog, less impl.Run, more impl.Run) {
	t.Helper()
	if less.Code != impl.RnBudget {
		if !sameRun(less, more) {
			t.Fatalf("%v came to its end, but goes on: %v", less, more)
		}
		return
	}
	many := len(less.Trace)
	if len(more.Trace) <= many || !slices.Equal(more.Trace[:many], less.Trace) || !slices.Equal(more.Picks[:many], less.Picks) {
		t.Fatalf("%v does not go on from %v", more, less)
	}
	s := less.End
	for _, e := range more.Trace[many:] {
		after, again, ok := impl.StepState(p, s, e.Thread)
		if !ok || again != e {
			t.Fatalf("%v %v, not %v", again, ok, e)
		}
		s = after
	}
	if !sameState(s, more.End) {
		t.Fatalf("%v is not the end of %v", s, more)
	}
}

func TestRunsAreMadeAgain(t *testing.T) {
	d := draws(41)
	var codes [impl.RnBudget + 1]int
	cycles := 0
	for range 1500 {
		p := madeUpProg(&d)
		picks := madeUpPicks(&d)
		kept, keptProg := slices.Clone(picks), copyOfProg(p)
		var ahead *impl.Run
		for _, budget := range []int{0, 1, 2, 3, 5 + d.below(5), 11 + d.below(30), 50, impl.MaxBudget} {
			r, ok := impl.RunPicks(p, picks, budget)
			if !ok || !sameRun(r, byHand(p, picks, budget)) {
				t.Fatalf("RunPicks(%v, %v, %d) %v %v", p, picks, budget, r, ok)
			}
			madeAgain(t, p, r)
			if ahead != nil {
				goesOn(t, p, *ahead, r)
			}
			ahead = &r
			codes[r.Code]++
			if l, _ := impl.DeadIn(p, r); len(l) > 0 {
				cycles++
			}
		}
		if !slices.Equal(picks, kept) || !sameProg(p, keptProg) {
			t.Fatal("an argument was changed")
		}
	}
	if codes[0] > 0 || slices.Min(codes[1:]) < 20 || cycles < 20 {
		t.Errorf("too few runs of some code: %v, cycles %d", codes, cycles)
	}
}

// TestRunsOfAllOrders goes through all runs of small programs, by threads.
func TestRunsOfAllOrders(t *testing.T) {
	for _, p := range []impl.Prog{joiner(), crossed(), written(1, 1, 1, "spawn 1; lock 0; wait 0 0", "lock 0; signal 0; unlock 0; add")} {
		signs := map[string]int{}
		var try func(threads []int)
		try = func(threads []int) {
			r, ok := impl.RunThreads(p, threads)
			if !ok {
				return
			}
			madeAgain(t, p, r)
			if r.Code != impl.RnBudget {
				signs[signByHand(p, r)]++
				return
			}
			for thread := -1; thread <= impl.MaxThreads; thread++ {
				enabled, _ := impl.EnabledIn(p, r.End)
				longer := append(slices.Clone(threads), thread)
				if _, ok := impl.RunThreads(p, longer); ok != slices.Contains(enabled, thread) {
					t.Fatalf("RunThreads(%v, %v) %v", p, longer, ok)
				}
				try(longer)
			}
		}
		try(nil)
		if len(signs) == 0 {
			t.Error("no run comes to its end", p)
		}
	}
}
