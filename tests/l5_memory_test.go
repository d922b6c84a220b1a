package tests

import (
	"slices"
	"testing"

	"loop.example/g00696/impl"
)

func markedPct(s impl.Pct) impl.Pct {
	return impl.Pct{Ranks: marked(s.Ranks, mark), Changes: marked(s.Changes, mark)}
}

func marksOfPctStay(s impl.Pct) bool {
	stay := true
	for i := range spare {
		stay = stay && s.Ranks[:len(s.Ranks)+spare][len(s.Ranks)+i] == mark
		stay = stay && s.Changes[:len(s.Changes)+spare][len(s.Changes)+i] == mark
	}
	return stay
}

func TestSchedulesAreNotWrittenInto(t *testing.T) {
	d := draws(52)
	for range 200 {
		p, s := madeUpProg(&d), madeUpPct(&d)
		heldProg, held := markedProg(p), markedPct(s)
		r, ok := impl.RunPct(heldProg, held, impl.MaxBudget)
		if !ok || !sameRun(r, byRank(p, s, impl.MaxBudget)) || runHandsOutMarks(r) {
			t.Errorf("what lies behind a list was read: %v %v", r, ok)
		}
		text, _ := impl.PctText(held)
		want, _ := impl.PctText(s)
		if !impl.GoodPct(held) || text != want {
			t.Errorf("what lies behind a list was read: %q, not %q", text, want)
		}
		if !samePct(held, s) || !sameProg(heldProg, p) {
			t.Error("an argument was changed")
		}
		if !marksOfPctStay(held) || !marksOfProgStay(heldProg) {
			t.Error("something was written behind a list")
		}
	}
	p := markedProg(crossed())
	n, ok := impl.HitsOf(p, 6, 1, "done")
	if want := hitsByHand(crossed(), 6, 1)["done"]; !ok || n != want || !sameProg(p, crossed()) || !marksOfProgStay(p) {
		t.Errorf("HitsOf %d %v, not %d, or what it was given was changed", n, ok, want)
	}
}

// TestListsCutShort have behind their length what would make them good.
func TestListsCutShort(t *testing.T) {
	own := inOwnOrder()
	for many := range own {
		if impl.GoodPct(ranked(own[:many])) {
			t.Error("ranks behind the list were read", many)
		}
		noRankedRun(t, "ranks behind the list", joiner(), ranked(own[:many]), 5)
	}
	changes := []int{4, 3, 2}
	goesByRank(t, "changes behind the list", crossed(), ranked(own, changes[:1]...), impl.MaxBudget, impl.RnStuck, 0, 0, 0, 1, 2)
	if !slices.Equal(own, inOwnOrder()) || !slices.Equal(changes, []int{4, 3, 2}) {
		t.Error("an argument was changed", own, changes)
	}
}

func TestRunsByRankAreMemoryOfTheirOwn(t *testing.T) {
	for _, p := range []impl.Prog{joiner(), crossed(), loopers(3)} {
		s := ranked([]int{2, 1, 3, 0, 4}, 2, 4, 5)
		kept, keptProg := copyOfPct(s), copyOfProg(p)
		want := byRank(p, s, 20)
		first, _ := impl.RunPct(p, s, 20)
		second, _ := impl.RunPct(p, s, 20)
		writeAllOfRun(first)
		third, _ := impl.RunPct(p, s, 20)
		if !samePct(s, kept) || !sameProg(p, keptProg) || !sameRun(second, want) || !sameRun(third, want) {
			t.Errorf("a run shares memory: %v %v %v %v", s, p, second, third)
		}
		clear(s.Ranks)
		clear(s.Changes)
		if !sameRun(second, want) || !sameRun(third, want) {
			t.Error("the schedule is handed out")
		}
	}
}

// asked are the answers that have lists of a schedule.
func asked() map[string]func() (impl.Pct, bool) {
	return map[string]func() (impl.Pct, bool){
		"ReadPct":                   func() (impl.Pct, bool) { return impl.ReadPct("2,4,0,3,1/3,10,150") },
		"ReadPct without a change":  func() (impl.Pct, bool) { return impl.ReadPct("2,4,0,3,1/") },
		"PctAt":                     func() (impl.Pct, bool) { return impl.PctAt(5, 20, 2, 11111) },
		"PctAt of the first":        func() (impl.Pct, bool) { return impl.PctAt(5, 20, 1, 0) },
		"PctAt without a change":    func() (impl.Pct, bool) { return impl.PctAt(3, 20, 0, 5) },
		"PctAt of the last of two":  func() (impl.Pct, bool) { return impl.PctAt(2, 2, 2, 1) },
		"PctAt of one thread alone": func() (impl.Pct, bool) { return impl.PctAt(1, 0, 0, 0) },
	}
}

func TestSchedulesAreMemoryOfTheirOwn(t *testing.T) {
	for name, ask := range asked() {
		want, ok := ask()
		want = copyOfPct(want)
		if !ok {
			t.Fatal(name, "tells none")
		}
		first, _ := ask()
		second, _ := ask()
		fill(first.Ranks)
		if !slices.Equal(first.Changes, want.Changes) {
			t.Errorf("%s: the ranks share memory with the changes", name)
		}
		first, _ = ask()
		fill(first.Changes)
		if !slices.Equal(first.Ranks, want.Ranks) {
			t.Errorf("%s: the changes share memory with the ranks", name)
		}
		third, _ := ask()
		if !samePct(second, want) || !samePct(third, want) {
			t.Errorf("%s: something is kept from call to call: %v %v, not %v", name, second, third, want)
		}
	}
}
