package tests

import (
	"slices"
	"testing"

	"loop.example/g00696/impl"
)

// ranked is the schedule with these ranks, and these changes.
func ranked(ranks []int, changes ...int) impl.Pct {
	return impl.Pct{Ranks: ranks, Changes: changes}
}

// inOwnOrder are ranks by which the least thread goes first.
func inOwnOrder() []int {
	return []int{4, 3, 2, 1, 0}
}

func samePct(a impl.Pct, b impl.Pct) bool {
	return slices.Equal(a.Ranks, b.Ranks) && slices.Equal(a.Changes, b.Changes)
}

func copyOfPct(s impl.Pct) impl.Pct {
	return impl.Pct{Ranks: slices.Clone(s.Ranks), Changes: slices.Clone(s.Changes)}
}

// wrongPcts are schedules that are not good, each by one thing alone.
func wrongPcts() []impl.Pct {
	own := inOwnOrder()
	return []impl.Pct{
		{}, {Changes: []int{1}}, ranked([]int{}), ranked([]int{0}), ranked([]int{3, 2, 1, 0}), ranked([]int{4, 3, 2, 1}),
		ranked([]int{5, 4, 3, 2, 1, 0}), ranked([]int{4, 3, 2, 1, 0, 0}), ranked([]int{4, 3, 2, 1, 0, 5}), ranked(slices.Repeat(own, 2)),
		ranked([]int{4, 4, 2, 1, 0}), ranked([]int{4, 3, 2, 0, 0}), ranked([]int{0, 3, 2, 1, 0}), ranked(make([]int, impl.MaxThreads)),
		ranked([]int{4, 3, 2, 1, -1}), ranked([]int{-1, 3, 2, 1, 0}), ranked([]int{impl.MaxThreads, 3, 2, 1, 0}),
		ranked([]int{5, 4, 3, 2, 1}), ranked([]int{leastInt, 3, 2, 1, 0}), ranked([]int{4, 3, greatestInt, 1, 0}), ranked([]int{-4, -3, -2, -1, 0}),
		ranked(own, -1), ranked(own, leastInt), ranked(own, impl.MaxBudget), ranked(own, greatestInt),
		ranked(own, -1, 3), ranked(own, 3, impl.MaxBudget), ranked(own, 0, 1, 2, impl.MaxBudget),
		ranked(own, 3, 3), ranked(own, 0, 0), ranked(own, 4, 3), ranked(own, 0, 5, 4), ranked(own, 0, 5, 0), ranked(own, 1, 2, 3, 3),
		ranked(own, 0, 1, 2, 3, 4), ranked(own, 1, 2, 3, 4, impl.MaxBudget), ranked(own, make([]int, 300)...),
	}
}

// eachList hands on all lists of that many of some numbers; who gets one may not keep it.
func eachList(many int, of []int, see func(list []int)) {
	list := make([]int, many)
	var fillFrom func(at int)
	fillFrom = func(at int) {
		if at == many {
			see(list)
			return
		}
		for _, list[at] = range of {
			fillFrom(at + 1)
		}
	}
	fillFrom(0)
}

func TestNumbersOfSchedules(t *testing.T) {
	if impl.MaxChanges != 4 {
		t.Error("MaxChanges", impl.MaxChanges)
	}
}

func TestGoodRanks(t *testing.T) {
	good := 0
	for many := range impl.MaxThreads + 2 {
		eachList(many, []int{-1, 0, 1, 2, 3, 4, 5}, func(ranks []int) {
			want := many == impl.MaxThreads
			for rank := range impl.MaxThreads {
				want = want && slices.Contains(ranks, rank)
			}
			if want {
				good++
			}
			if impl.GoodPct(ranked(ranks)) != want || impl.GoodPct(ranked(ranks, 0, impl.MaxBudget-1)) != want {
				t.Fatalf("GoodPct of %v is not %v", ranks, want)
			}
		})
	}
	if good != 120 {
		t.Error("good ones", good)
	}
}

func TestGoodChanges(t *testing.T) {
	numbers := []int{-1, 0, 1, 2, impl.MaxBudget - 2, impl.MaxBudget - 1, impl.MaxBudget}
	good := 0
	for many := range impl.MaxChanges + 2 {
		eachList(many, numbers, func(changes []int) {
			want := many <= impl.MaxChanges
			for i, step := range changes {
				want = want && step >= 0 && step <= 199 && (i == 0 || step > changes[i-1])
			}
			if want {
				good++
			}
			if impl.GoodPct(ranked(inOwnOrder(), changes...)) != want {
				t.Fatalf("GoodPct of %v is not %v", changes, want)
			}
		})
	}
	if good != 1+5+10+10+5 {
		t.Error("good ones", good)
	}
}

func TestSchedulesThatAreNotGood(t *testing.T) {
	for _, s := range wrongPcts() {
		if impl.GoodPct(s) {
			t.Errorf("%v is good", s)
		}
		if text, ok := impl.PctText(s); ok || text != "" {
			t.Errorf("PctText(%v) %q %v", s, text, ok)
		}
		for _, budget := range []int{0, 1, impl.MaxBudget} {
			noRankedRun(t, "no schedule", joiner(), s, budget)
		}
	}
}

// noRankedRun asks for the zero answer of RunPct.
func noRankedRun(t *testing.T, name string, p impl.Prog, s impl.Pct, budget int) {
	t.Helper()
	if r, ok := impl.RunPct(p, s, budget); ok || !sameRun(r, impl.Run{}) {
		t.Errorf("%s: %v %v", name, r, ok)
	}
}

// goesByRank asks for a run of a schedule: its code, and the threads that go.
func goesByRank(t *testing.T, name string, p impl.Prog, s impl.Pct, budget int, code int, threads ...int) {
	t.Helper()
	r, ok := impl.RunPct(p, s, budget)
	if l, is := impl.ThreadsOf(r); !ok || !is || r.Code != code || !slices.Equal(l, threads) {
		t.Errorf("%s: %v %v, not code %d of %v", name, r, ok, code, threads)
	}
	if again, is := impl.RunThreads(p, threads); !is || !slices.Equal(r.Picks, again.Picks) || !sameState(r.End, again.End) {
		t.Errorf("%s: %v is not the run %v %v", name, r, again, is)
	}
}

func TestTheGreatestRankGoes(t *testing.T) {
	p := loopers(3)
	goesByRank(t, "thread 0", p, ranked([]int{4, 3, 2, 1, 0}), 6, impl.RnBudget, 0, 0, 0, 0, 0, 0)
	goesByRank(t, "thread 0, the least that can be", p, ranked([]int{2, 1, 0, 4, 3}), 6, impl.RnBudget, 0, 0, 0, 0, 0, 0)
	goesByRank(t, "thread 1, once it is there", p, ranked([]int{0, 1, 2, 3, 4}), 6, impl.RnBudget, 0, 1, 1, 1, 1, 1)
	goesByRank(t, "thread 2, once it is there", p, ranked([]int{1, 0, 2, 3, 4}), 6, impl.RnBudget, 0, 0, 2, 2, 2, 2)
	five := loopers(impl.MaxThreads)
	goesByRank(t, "the last thread", five, ranked([]int{3, 2, 1, 0, 4}), 7, impl.RnBudget, 0, 0, 0, 0, 4, 4, 4)
	goesByRank(t, "the last thread that is there", five, ranked([]int{0, 1, 2, 3, 4}), 4, impl.RnBudget, 0, 1, 1, 1)
	// One that waits is passed over, however great its rank, and goes again when it can.
	goesByRank(t, "one that joins", joiner(), ranked([]int{4, 3, 2, 1, 0}), 9, impl.RnDone, 0, 1, 1, 1, 0, 0)
	goesByRank(t, "one that is joined", joiner(), ranked([]int{0, 1, 2, 3, 4}), 9, impl.RnDone, 0, 1, 1, 1, 0, 0)
	late := written(0, 0, 0, "spawn 1; spawn 1; join; jump 3", "")
	goesByRank(t, "one that joins the last", late, ranked([]int{4, 3, 2, 1, 0}), 7, impl.RnBudget, 0, 0, 1, 2, 0, 0, 0)
	goesByRank(t, "one that joins the last, which goes first", late, ranked([]int{4, 2, 3, 1, 0}), 7, impl.RnBudget, 0, 0, 2, 0, 0, 0, 0)
}

func TestRanksOfThreadsThatAreNotThere(t *testing.T) {
	// All that have greater ranks than the two that are there.
	goesByRank(t, "two", loopers(2), ranked([]int{1, 0, 2, 3, 4}), 4, impl.RnBudget, 0, 0, 0, 0)
	goesByRank(t, "two, the other way", loopers(2), ranked([]int{0, 1, 4, 3, 2}), 4, impl.RnBudget, 0, 1, 1, 1)
	goesByRank(t, "one alone", written(0, 0, 0, "jump 0"), ranked([]int{0, 4, 3, 2, 1}, 0, 1), 3, impl.RnBudget, 0, 0, 0)
}

func TestOneFalls(t *testing.T) {
	p := loopers(3)
	own := []int{2, 1, 0, 4, 3}
	goesByRank(t, "at one step", p, ranked(own, 2), 6, impl.RnBudget, 0, 0, 1, 1, 1, 1)
	goesByRank(t, "at the step behind", p, ranked(own, 3), 6, impl.RnBudget, 0, 0, 0, 1, 1, 1)
	goesByRank(t, "with the last of the budget", p, ranked(own, 5), 6, impl.RnBudget, 0, 0, 0, 0, 0, 1)
	goesByRank(t, "behind the budget", p, ranked(own, 6), 6, impl.RnBudget, 0, 0, 0, 0, 0, 0)
	goesByRank(t, "when no other is there yet", p, ranked(own, 0), 6, impl.RnBudget, 0, 1, 1, 1, 1, 1)
	goesByRank(t, "below rank 0", p, ranked([]int{1, 2, 0, 4, 3}, 1), 6, impl.RnBudget, 0, 0, 0, 0, 0, 0)
	goesByRank(t, "below one that comes later", p, ranked([]int{3, 4, 0, 1, 2}, 0, 1), 6, impl.RnBudget, 0, 0, 2, 2, 2, 2)
	goesByRank(t, "when it is alone, again and again", written(0, 0, 0, "jump 0"), ranked(own, 0, 1, 2, 3), 5, impl.RnBudget, 0, 0, 0, 0, 0)
}

func TestMoreThanOneFall(t *testing.T) {
	p := loopers(3)
	own := []int{2, 1, 0, 4, 3}
	goesByRank(t, "two", p, ranked(own, 2, 4), 8, impl.RnBudget, 0, 0, 1, 1, 2, 2, 2, 2)
	goesByRank(t, "the first stands above the second", p, ranked(own, 2, 4, 6), 9, impl.RnBudget, 0, 0, 1, 1, 2, 2, 0, 0, 0)
	goesByRank(t, "the second above the third", p, ranked(own, 2, 4, 6, 7), 10, impl.RnBudget, 0, 0, 1, 1, 2, 2, 0, 1, 1, 1)
	goesByRank(t, "two, at once", p, ranked(own, 2, 3), 6, impl.RnBudget, 0, 0, 1, 2, 2, 2)
	goesByRank(t, "the same one twice", loopers(2), ranked(own, 0, 1, 2), 5, impl.RnBudget, 0, 0, 1, 1, 1)
	goesByRank(t, "all there may be, from the first step on", p, ranked(own, 0, 1, 2, 3), 6, impl.RnBudget, 0, 0, 0, 1, 1, 1)
	end := impl.MaxBudget - 1
	r, ok := impl.RunPct(loopers(2), ranked(own, end), impl.MaxBudget)
	want := append(make([]int, end), 1)
	if l, _ := impl.ThreadsOf(r); !ok || !slices.Equal(l, want) {
		t.Error("at the last step there may be", r, ok)
	}
}

// TestTheOneThatWasToGoFalls has threads that can't go, and whose ranks are greater than that of the one that falls.
func TestTheOneThatWasToGoFalls(t *testing.T) {
	late := written(0, 0, 0, "spawn 1; spawn 1; join; jump 3", "")
	goesByRank(t, "not one that joins", late, ranked(inOwnOrder(), 2), 6, impl.RnBudget, 0, 0, 2, 0, 0, 0)
	goesByRank(t, "it alone can go", joiner(), ranked(inOwnOrder(), 1, 2, 3), 9, impl.RnDone, 0, 1, 1, 1, 0, 0)
	locked := written(0, 1, 0, "lock 0; spawn 1; spawn 2; jump 3", "lock 0", "jump 0")
	goesByRank(t, "not one whose lock is had", locked, ranked([]int{3, 4, 2, 1, 0}, 3), 6, impl.RnBudget, 0, 0, 0, 2, 2, 2)
	asleep := written(0, 1, 1, "spawn 1; jump 1", "lock 0; wait 0 0")
	goesByRank(t, "not one that sleeps", asleep, ranked([]int{0, 1, 2, 3, 4}, 4), 6, impl.RnBudget, 0, 1, 1, 0, 0, 0)
	goesByRank(t, "not one that is done", written(0, 0, 0, "spawn 1; jump 1", ""), ranked([]int{0, 1, 2, 3, 4}, 2), 5, impl.RnBudget, 0, 1, 0, 0, 0)
	// The fall takes no thread along that would be next.
	goesByRank(t, "one falls, not two", loopers(3), ranked([]int{2, 1, 0, 4, 3}, 2, 3, 4), 6, impl.RnBudget, 0, 0, 1, 2, 0, 0)
}

func TestChangesThatTheRunDoesNotComeTo(t *testing.T) {
	plain, _ := impl.RunPct(joiner(), ranked(inOwnOrder()), impl.MaxBudget)
	for step := len(plain.Trace); step < impl.MaxBudget; step++ {
		r, ok := impl.RunPct(joiner(), ranked(inOwnOrder(), step), impl.MaxBudget)
		if !ok || !sameRun(r, plain) {
			t.Errorf("a change at step %d: %v %v", step, r, ok)
		}
	}
	// Those that come behind one that the run comes to.
	goesByRank(t, "one of three", crossed(), ranked(inOwnOrder(), 4, 190, 199), impl.MaxBudget, impl.RnStuck, 0, 0, 0, 1, 2)
}

func TestCodesOfRunsByRank(t *testing.T) {
	own := ranked(inOwnOrder())
	goesByRank(t, "no budget", joiner(), own, 0, impl.RnBudget)
	goesByRank(t, "no ops, no budget", written(0, 0, 0, ""), own, 0, impl.RnBudget)
	goesByRank(t, "no ops", written(0, 0, 0, ""), own, 1, impl.RnDone, 0)
	goesByRank(t, "one less than it takes", joiner(), own, 5, impl.RnBudget, 0, 1, 1, 1, 0)
	goesByRank(t, "just enough", joiner(), own, 6, impl.RnDone, 0, 1, 1, 1, 0, 0)
	goesByRank(t, "a fault", written(0, 0, 0, "spawn 1; jump 1", "add"), ranked([]int{0, 1, 2, 3, 4}), 2, impl.RnFault, 0, 1)
	goesByRank(t, "no fault as yet", written(0, 0, 0, "spawn 1; jump 1", "add"), own, 3, impl.RnBudget, 0, 0, 0)
	goesByRank(t, "a fault of the one that was next", written(0, 0, 0, "spawn 1; jump 1", "add"), ranked(inOwnOrder(), 2), 9, impl.RnFault, 0, 0, 1)
	goesByRank(t, "stuck", crossed(), ranked(inOwnOrder(), 4), impl.MaxBudget, impl.RnStuck, 0, 0, 0, 1, 2)
	goesByRank(t, "not stuck", crossed(), own, impl.MaxBudget, impl.RnDone, 0, 0, 0, 1, 1, 1, 1, 1, 2, 2, 2, 2, 2)
	goesByRank(t, "as long as may be", written(0, 0, 0, "jump 0"), own, impl.MaxBudget, impl.RnBudget, make([]int, impl.MaxBudget)...)
}

func TestLimitsOfRunPct(t *testing.T) {
	own := ranked(inOwnOrder(), 0, 1)
	for _, budget := range []int{leastInt, -1, impl.MaxBudget + 1, greatestInt} {
		noRankedRun(t, "no budget", joiner(), own, budget)
		noRankedRun(t, "no budget", written(0, 0, 0, ""), own, budget)
		noRankedRun(t, "nothing good", impl.Prog{}, impl.Pct{}, budget)
	}
	for _, p := range wrongProgs() {
		for _, budget := range []int{0, 1, impl.MaxBudget} {
			noRankedRun(t, "no program", p, own, budget)
		}
	}
}
