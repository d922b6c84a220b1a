package tests

import (
	"slices"
	"testing"

	"loop.example/g00696/impl"
)

func tellsCycle(t *testing.T, edges [][]int, want []int) {
	t.Helper()
	if c, ok := impl.CycleIn(edges); !slices.Equal(c, want) || ok != (len(want) > 0) {
		t.Errorf("CycleIn(%v) %v %v, not %v", edges, c, ok, want)
	}
}

func TestCycleIn(t *testing.T) {
	for _, c := range []struct {
		edges [][]int
		want  []int
	}{
		{nil, nil},
		{[][]int{}, nil},
		{[][]int{{0, 1}}, nil},
		{[][]int{{0, 1}, {0, 1}}, nil},
		{[][]int{{0, 1}, {1, 2}, {0, 2}}, nil},
		{[][]int{{0, 0}}, []int{0}},
		{[][]int{{99, 99}}, []int{99}},
		{[][]int{{7, 7}, {7, 7}}, []int{7}},
		{[][]int{{0, 99}, {99, 0}}, []int{0, 99}},
		{[][]int{{99, 0}, {0, 99}}, []int{0, 99}},
		{[][]int{{2, 0}, {1, 2}, {0, 1}}, []int{0, 1, 2}},
		// The least number counts ahead of the length.
		{[][]int{{9, 9}, {1, 5}, {5, 4}, {4, 1}}, []int{1, 5, 4}},
		// A number that only leads to a cycle is on none.
		{[][]int{{0, 3}, {3, 4}, {4, 3}}, []int{3, 4}},
		{[][]int{{3, 4}, {4, 3}, {3, 0}}, []int{3, 4}},
		// The short way counts ahead of the lesser numbers.
		{[][]int{{0, 1}, {1, 2}, {2, 0}, {0, 9}, {9, 0}}, []int{0, 9}},
		{[][]int{{0, 1}, {1, 0}, {0, 0}}, []int{0}},
		// Of ways as short, the least: the first unlike number decides.
		{[][]int{{0, 8}, {8, 0}, {0, 3}, {3, 0}}, []int{0, 3}},
		{[][]int{{0, 5}, {5, 1}, {1, 0}, {0, 4}, {4, 9}, {9, 0}}, []int{0, 4, 9}},
		{[][]int{{0, 4}, {4, 9}, {9, 0}, {4, 2}, {2, 0}}, []int{0, 4, 2}},
		// A way with a lesser number that leads nowhere, or only round about, is not taken.
		{[][]int{{0, 1}, {0, 2}, {2, 0}}, []int{0, 2}},
		{[][]int{{0, 1}, {1, 3}, {3, 5}, {5, 0}, {0, 2}, {2, 4}, {4, 0}}, []int{0, 2, 4}},
		{[][]int{{0, 2}, {0, 2}, {2, 4}, {2, 4}, {4, 0}, {4, 0}}, []int{0, 2, 4}},
		{[][]int{{5, 6}, {6, 5}, {3, 5}, {2, 3}}, []int{5, 6}},
	} {
		tellsCycle(t, c.edges, c.want)
	}
}

// ring is a cycle through the numbers 0 to many - 1, told from the last pair on.
func ring(many int) ([][]int, []int) {
	var edges [][]int
	var through []int
	for i := many - 1; i >= 0; i-- {
		edges = append(edges, []int{i, (i + 1) % many})
	}
	for i := range many {
		through = append(through, i)
	}
	return edges, through
}

func TestCyclesAtTheLimits(t *testing.T) {
	for _, many := range []int{1, 2, 99, 100} {
		edges, through := ring(many)
		tellsCycle(t, edges, through)
		tellsCycle(t, edges[:many-1], nil)
	}
	full, through := ring(100)
	tellsCycle(t, append(full, []int{0, 1}), nil)
	few, _ := ring(2)
	tellsCycle(t, slices.Repeat(few, 50), []int{0, 1})
	tellsCycle(t, append(slices.Repeat(few, 50), []int{0, 1}), nil)
	tellsCycle(t, slices.Repeat(few, 5000), nil)
	if !slices.Equal(through[98:], []int{98, 99}) {
		t.Error("the ring is too short")
	}
}

func TestPairsThatAreNone(t *testing.T) {
	for _, wrong := range [][]int{
		nil, {}, {0}, {0, 0, 0}, {0, 1, 2}, {-1, 0}, {0, -1}, {100, 0}, {0, 100}, {-1 << 63, 0}, {0, 1<<63 - 1}, {-1, -1}, {100, 100},
	} {
		tellsCycle(t, [][]int{wrong}, nil)
		tellsCycle(t, [][]int{{0, 1}, {1, 0}, wrong}, nil)
		tellsCycle(t, [][]int{wrong, {0, 1}, {1, 0}}, nil)
	}
}

// cycleByTrying looks through all ways, the short ones first, of these the least first.
func cycleByTrying(edges [][]int, points int) []int {
	for start := range points {
		for length := 1; length <= points; length++ {
			if way := wayBack(edges, points, []int{start}, length); way != nil {
				return way
			}
		}
	}
	return nil
}

func wayBack(edges [][]int, points int, way []int, left int) []int {
	for next := range points {
		if !slices.ContainsFunc(edges, func(e []int) bool { return e[0] == way[len(way)-1] && e[1] == next }) {
			continue
		}
		if left == 1 && next == way[0] {
			return slices.Clone(way)
		}
		if left > 1 {
			if found := wayBack(edges, points, append(slices.Clone(way), next), left-1); found != nil {
				return found
			}
		}
	}
	return nil
}

func TestCyclesOfAllSmallGraphs(t *testing.T) {
	for set := range 1 << 9 {
		var edges [][]int
		for e := range 9 {
			if set>>e&1 == 1 {
				edges = append(edges, []int{e / 3, e % 3})
			}
		}
		tellsCycle(t, edges, cycleByTrying(edges, 3))
	}
}

func TestCyclesOfMadeUpGraphs(t *testing.T) {
	d := draws(1)
	for range 3000 {
		points := 2 + d.below(5)
		var edges [][]int
		for range d.below(2 * points) {
			edges = append(edges, []int{d.below(points), d.below(points)})
		}
		tellsCycle(t, edges, cycleByTrying(edges, points))
	}
}

func TestPairsAreNotWrittenInto(t *testing.T) {
	edges, _ := ring(9)
	slices.Reverse(edges)
	edges = append(edges, []int{0, 77})[:9]
	edges[3] = append(edges[3], 78)[:2]
	first, _ := impl.CycleIn(edges)
	for i, pair := range edges {
		if !slices.Equal(pair, []int{i, (i + 1) % 9}) {
			t.Error("a pair was changed", i, pair)
		}
	}
	if edges[:10][9][1] != 77 || edges[3][:3][2] != 78 {
		t.Error("what lies behind a list was changed")
	}
	for i := range first {
		first[i] = 77
	}
	tellsCycle(t, edges, []int{0, 1, 2, 3, 4, 5, 6, 7, 8})
	// What lies behind a pair's length is not read, either.
	tellsCycle(t, [][]int{[]int{0, 1}[:1]}, nil)
}
