package tests

import (
	"slices"
	"testing"

	"loop.example/g00696/impl"
)

// byRank is a run as the document says it, by the functions of chapter 3 alone.
func byRank(p impl.Prog, s impl.Pct, budget int) impl.Run {
	ranks := map[int]int{}
	for thread, rank := range s.Ranks {
		ranks[thread] = rank
	}
	state, _ := impl.NewState(p)
	var picks []int
	for step := range budget {
		enabled, _ := impl.EnabledIn(p, state)
		if len(enabled) == 0 {
			break
		}
		toGo := func() int {
			return slices.MaxFunc(enabled, func(a int, b int) int { return ranks[a] - ranks[b] })
		}
		for k, change := range s.Changes {
			if change == step {
				ranks[toGo()] = -1 - k
			}
		}
		picks = append(picks, slices.Index(enabled, toGo()))
		state, _, _ = impl.StepState(p, state, enabled[picks[step]])
	}
	return byHand(p, picks, budget)
}

// madeUpPct is a good schedule, most of whose changes are of the first steps.
func madeUpPct(d *draws) impl.Pct {
	s := ranked(inOwnOrder())
	for i := range s.Ranks {
		k := d.below(i + 1)
		s.Ranks[i], s.Ranks[k] = s.Ranks[k], s.Ranks[i]
	}
	for range d.below(impl.MaxChanges + 1) {
		s.Changes = append(s.Changes, d.below(8+d.below(2)*(impl.MaxBudget-8)))
	}
	slices.Sort(s.Changes)
	s.Changes = slices.Compact(s.Changes)
	return s
}

// isARun asks for promise 5 of one run by rank.
func isARun(t *testing.T, p impl.Prog, s impl.Pct, budget int) impl.Run {
	t.Helper()
	r, ok := impl.RunPct(p, s, budget)
	if !ok || !sameRun(r, byRank(p, s, budget)) {
		t.Fatalf("RunPct(%v, %v, %d) %v %v", p, s, budget, r, ok)
	}
	if is, ok := impl.IsRun(p, r); !is || !ok {
		t.Fatalf("IsRun(%v, %v) %v %v", p, r, is, ok)
	}
	if again, ok := impl.RunPicks(p, r.Picks, budget); !ok || !sameRun(again, r) {
		t.Fatalf("by picks: %v %v, not %v", again, ok, r)
	}
	madeAgain(t, p, r)
	return r
}

func TestRunsByRankAreRuns(t *testing.T) {
	d := draws(51)
	var codes [impl.RnBudget + 1]int
	unlike := 0
	for range 1500 {
		p, s := madeUpProg(&d), madeUpPct(&d)
		kept, keptProg := copyOfPct(s), copyOfProg(p)
		var ahead *impl.Run
		for _, budget := range []int{0, 1, 2, 3, 4 + d.below(8), 12 + d.below(80), impl.MaxBudget - 1, impl.MaxBudget} {
			r := isARun(t, p, s, budget)
			if ahead != nil {
				goesOn(t, p, *ahead, r)
			}
			ahead = &r
			codes[r.Code]++
		}
		if plain, _ := impl.RunPct(p, ranked(s.Ranks), impl.MaxBudget); !sameRun(plain, *ahead) {
			unlike++
		}
		if !samePct(s, kept) || !sameProg(p, keptProg) {
			t.Fatal("an argument was changed")
		}
	}
	if codes[0] > 0 || slices.Min(codes[1:]) < 20 || unlike < 20 {
		t.Errorf("too few runs of some code, or that a change makes: %v, %d", codes, unlike)
	}
}

// TestAllSchedulesOfSmallPrograms asks for promise 5 with all ranks, and all changes of the first steps.
func TestAllSchedulesOfSmallPrograms(t *testing.T) {
	for _, p := range []impl.Prog{joiner(), crossed(), written(0, 0, 0, "spawn 1; spawn 1; spawn 1; spawn 1; jump 4", "jump 0; add")} {
		for changes := range 3 {
			for _, s := range schedulesByTrying(impl.MaxThreads, 5, changes) {
				isARun(t, p, s, 12)
			}
		}
		for _, changes := range append(changesByTrying(9, 3), changesByTrying(9, 4)...) {
			isARun(t, p, ranked([]int{2, 4, 1, 3, 0}, changes...), impl.MaxBudget)
		}
	}
}
