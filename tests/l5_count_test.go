package tests

import (
	"fmt"
	"math/big"
	"slices"
	"testing"

	"loop.example/g00696/impl"
)

// ranksByTrying are all good ranks, rising, in which the threads from that number on have their own.
func ranksByTrying(threads int) [][]int {
	var all [][]int
	eachList(impl.MaxThreads, []int{0, 1, 2, 3, 4}, func(ranks []int) {
		good := true
		for t := range impl.MaxThreads {
			good = good && slices.Contains(ranks, t) && (t < threads || ranks[t] == t)
		}
		if good {
			all = append(all, slices.Clone(ranks))
		}
	})
	return all
}

// changesByTrying are all rising lists of that many numbers less than steps, rising, by the sets that there are.
func changesByTrying(steps int, changes int) [][]int {
	var all [][]int
	for set := range 1 << steps {
		var list []int
		for step := range steps {
			if set>>step&1 == 1 {
				list = append(list, step)
			}
		}
		if len(list) == changes {
			all = append(all, list)
		}
	}
	slices.SortFunc(all, slices.Compare)
	return all
}

func schedulesByTrying(threads int, steps int, changes int) []impl.Pct {
	var all []impl.Pct
	lists := changesByTrying(steps, changes)
	for _, ranks := range ranksByTrying(threads) {
		for _, list := range lists {
			all = append(all, ranked(ranks, list...))
		}
	}
	return all
}

func TestCountsOfSchedules(t *testing.T) {
	for threads := 1; threads <= impl.MaxThreads; threads++ {
		for steps := range 21 {
			for changes := range 3 {
				orders := new(big.Int).MulRange(1, int64(threads))
				want := orders.Mul(orders, new(big.Int).Binomial(int64(steps), int64(changes))).Int64()
				if n, ok := impl.CountPct(threads, steps, changes); !ok || int64(n) != want {
					t.Errorf("CountPct(%d, %d, %d) %d %v, not %d", threads, steps, changes, n, ok, want)
				}
			}
		}
	}
}

// hasNoPcts asks that there is neither a count nor a schedule.
func hasNoPcts(t *testing.T, threads int, steps int, changes int) {
	t.Helper()
	if n, ok := impl.CountPct(threads, steps, changes); ok || n != 0 {
		t.Errorf("CountPct(%d, %d, %d) %d %v", threads, steps, changes, n, ok)
	}
	for _, no := range []int{leastInt, -1, 0, 1, greatestInt} {
		hasNoPct(t, threads, steps, changes, no)
	}
}

func hasNoPct(t *testing.T, threads int, steps int, changes int, no int) {
	t.Helper()
	if s, ok := impl.PctAt(threads, steps, changes, no); ok || !samePct(s, impl.Pct{}) {
		t.Errorf("PctAt(%d, %d, %d, %d) %v %v", threads, steps, changes, no, s, ok)
	}
}

func TestLimitsOfCountPct(t *testing.T) {
	for _, threads := range []int{leastInt, -1, 0, impl.MaxThreads + 1, greatestInt} {
		hasNoPcts(t, threads, 0, 0)
		hasNoPcts(t, threads, 20, 2)
	}
	for _, steps := range []int{leastInt, -1, 21, 22, greatestInt} {
		hasNoPcts(t, 1, steps, 0)
		hasNoPcts(t, impl.MaxThreads, steps, 2)
	}
	for _, changes := range []int{leastInt, -1, 3, 4, greatestInt} {
		hasNoPcts(t, 1, 0, changes)
		hasNoPcts(t, impl.MaxThreads, 20, changes)
	}
}

// TestMoreChangesThanSteps has none to tell of, and yet tells that.
func TestMoreChangesThanSteps(t *testing.T) {
	for threads := 1; threads <= impl.MaxThreads; threads++ {
		for _, c := range [][2]int{{0, 1}, {0, 2}, {1, 2}} {
			if n, ok := impl.CountPct(threads, c[0], c[1]); !ok || n != 0 {
				t.Errorf("CountPct(%d, %d, %d) %d %v", threads, c[0], c[1], n, ok)
			}
			for _, no := range []int{-1, 0, 1} {
				hasNoPct(t, threads, c[0], c[1], no)
			}
		}
	}
}

func TestSchedulesInTheirOrder(t *testing.T) {
	for threads := 1; threads <= impl.MaxThreads; threads++ {
		for _, steps := range []int{0, 1, 2, 3, 6} {
			for changes := range 3 {
				allPctsAre(t, threads, steps, changes)
			}
		}
	}
	allPctsAre(t, 1, 20, 2)
	allPctsAre(t, 3, 20, 2)
	allPctsAre(t, impl.MaxThreads, 20, 1)
}

// allPctsAre asks for each number, and for those just beyond.
func allPctsAre(t *testing.T, threads int, steps int, changes int) {
	t.Helper()
	want := schedulesByTrying(threads, steps, changes)
	for no, s := range want {
		if at, ok := impl.PctAt(threads, steps, changes, no); !ok || !samePct(at, s) || !impl.GoodPct(at) {
			t.Fatalf("PctAt(%d, %d, %d, %d) %v %v, not %v", threads, steps, changes, no, at, ok, s)
		}
	}
	for _, no := range []int{leastInt, -1, len(want), len(want) + 1, greatestInt} {
		hasNoPct(t, threads, steps, changes, no)
	}
}

func TestSchedulesByNumber(t *testing.T) {
	for _, c := range []struct {
		threads, steps, changes, no int
		want                        impl.Pct
	}{
		{1, 0, 0, 0, ranked([]int{0, 1, 2, 3, 4})},
		{1, 20, 2, 189, ranked([]int{0, 1, 2, 3, 4}, 18, 19)},
		{2, 3, 1, 2, ranked([]int{0, 1, 2, 3, 4}, 2)},
		{2, 3, 1, 3, ranked([]int{1, 0, 2, 3, 4}, 0)},
		{3, 0, 0, 3, ranked([]int{1, 2, 0, 3, 4})},
		{3, 4, 2, 8, ranked([]int{0, 2, 1, 3, 4}, 0, 3)},
		{4, 2, 1, 47, ranked([]int{3, 2, 1, 0, 4}, 1)},
		{5, 20, 2, 0, ranked([]int{0, 1, 2, 3, 4}, 0, 1)},
		{5, 20, 2, 190, ranked([]int{0, 1, 2, 4, 3}, 0, 1)},
		{5, 20, 2, 22799, ranked([]int{4, 3, 2, 1, 0}, 18, 19)},
	} {
		if s, ok := impl.PctAt(c.threads, c.steps, c.changes, c.no); !ok || !samePct(s, c.want) {
			t.Errorf("PctAt(%d, %d, %d, %d) %v %v, not %v", c.threads, c.steps, c.changes, c.no, s, ok, c.want)
		}
	}
	hasNoPct(t, 5, 20, 2, 22800)
	hasNoPct(t, 1, 20, 2, 190)
	hasNoPct(t, 1, 0, 0, 1)
}

// hits asks for both answers of HitsOf.
func hits(t *testing.T, name string, p impl.Prog, steps int, changes int, sign string, want int) {
	t.Helper()
	if n, ok := impl.HitsOf(p, steps, changes, sign); !ok || n != want {
		t.Errorf("%s: HitsOf(%d, %d, %q) %d %v, not %d", name, steps, changes, sign, n, ok, want)
	}
}

// hitsByHand are the signs of all schedules, with how many have each.
func hitsByHand(p impl.Prog, steps int, changes int) map[string]int {
	signs := map[string]int{}
	for _, s := range schedulesByTrying(impl.MaxThreads, steps, changes) {
		signs[signByHand(p, byRank(p, s, impl.MaxBudget))]++
	}
	return signs
}

func TestSignsThatAllOrNoneHave(t *testing.T) {
	for _, steps := range []int{0, 1, 6} {
		for changes := range 2 {
			all := 120
			if changes == 1 {
				all = 120 * steps
			}
			hits(t, "all are done", joiner(), steps, changes, "done", all)
			hits(t, "all go on", loopers(2), steps, changes, "budget", all)
			hits(t, "all have a fault", written(0, 0, 0, "push 0; add"), steps, changes, "fault 1 0 0 1", all)
			hits(t, "all are stuck", written(0, 1, 0, "lock 0; lock 0"), steps, changes, "stuck 0", all)
			hits(t, "all sleep", written(0, 1, 1, "lock 0; wait 0 0"), steps, changes, "stuck -", all)
			for _, sign := range []string{"", " ", "done ", "Done", "don", "budget", "stuck", "fault", "fault 1 0 0 1", "\xff"} {
				hits(t, "no such sign", joiner(), steps, changes, sign, 0)
			}
			hits(t, "no sign", loopers(3), steps, changes, "", 0)
		}
	}
}

func TestHitsOfSome(t *testing.T) {
	// Thread 1 goes as soon as it is there, if its rank is above that of thread 0; then thread 2 likewise.
	either := written(1, 0, 0, "spawn 1; spawn 2; jump 2", "add", "store 0")
	hits(t, "1 above 0", either, 0, 0, "fault 1 1 1 0", 60)
	hits(t, "2 above 0, 0 above 1", either, 0, 0, "fault 1 2 2 0", 20)
	hits(t, "0 above both", either, 0, 0, "budget", 40)
	// Without a change one thread takes both locks ahead of the other.
	hits(t, "no change", crossed(), 6, 0, "stuck 1,2", 0)
	hits(t, "no step to change at", crossed(), 0, 1, "stuck 1,2", 0)
	hits(t, "none that comes in between", crossed(), 2, 1, "stuck 1,2", 0)
	for _, p := range []impl.Prog{either, crossed(), written(2, 1, 1, "spawn 1; lock 0; wait 0 0; unlock 0; add", "lock 0; signal 0; unlock 0; load 0")} {
		for _, steps := range []int{0, 1, 5, 6} {
			for changes := range 2 {
				sum := 0
				for sign, want := range hitsByHand(p, steps, changes) {
					hits(t, "by hand", p, steps, changes, sign, want)
					sum += want
				}
				if all, _ := impl.CountPct(impl.MaxThreads, steps, changes); sum != all {
					t.Errorf("%d of %d have a sign", sum, all)
				}
			}
		}
	}
	if signs := hitsByHand(crossed(), 6, 1); signs["stuck 1,2"] == 0 || signs["done"] == 0 {
		t.Error("no schedule finds the locks that wait for each other", signs)
	}
}

// endsAfter is done with just that many steps, 198 at least.
func endsAfter(steps int) impl.Prog {
	ahead := steps - 198
	text := ""
	for at := range ahead {
		text += fmt.Sprintf("jump %d; ", at+1)
	}
	text += "push 7p2; store 0; load 0; push -1p0; add; store 0; load 0; "
	return written(1, 0, 0, text+fmt.Sprintf("unless %d; jump %d", ahead+9, ahead+2))
}

func TestHitsWithTheWholeBudget(t *testing.T) {
	hits(t, "one step less", endsAfter(impl.MaxBudget-1), 6, 0, "done", 120)
	hits(t, "all steps of the budget", endsAfter(impl.MaxBudget), 6, 0, "done", 120)
	hits(t, "a step more", endsAfter(impl.MaxBudget+1), 6, 0, "done", 0)
	hits(t, "a step more", endsAfter(impl.MaxBudget+1), 6, 0, "budget", 120)
}

func TestLimitsOfHitsOf(t *testing.T) {
	none := func(name string, p impl.Prog, steps int, changes int) {
		t.Helper()
		for _, sign := range []string{"", "done", "budget"} {
			if n, ok := impl.HitsOf(p, steps, changes, sign); ok || n != 0 {
				t.Errorf("%s: HitsOf(%d, %d, %q) %d %v", name, steps, changes, sign, n, ok)
			}
		}
	}
	for changes := range 2 {
		for _, steps := range []int{leastInt, -1, 7, 20, greatestInt} {
			none("no steps", joiner(), steps, changes)
		}
	}
	for _, changes := range []int{leastInt, -1, 2, greatestInt} {
		for _, steps := range []int{0, 6} {
			none("no changes", joiner(), steps, changes)
		}
	}
	for _, p := range wrongProgs() {
		none("no program", p, 6, 1)
		none("no program, and no schedule", p, 0, 1)
		none("no program", p, 0, 0)
	}
}
