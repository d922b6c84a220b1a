package tests

import (
	"fmt"
	"regexp"
	"strconv"
	"strings"
	"testing"

	"loop.example/g00696/impl"
)

// hasPctText asks that a good schedule has that text, and is read back from it.
func hasPctText(t *testing.T, s impl.Pct, want string) {
	t.Helper()
	if text, ok := impl.PctText(s); !ok || text != want {
		t.Errorf("PctText(%v) %q %v, not %q", s, text, ok, want)
	}
	if read, ok := impl.ReadPct(want); !ok || !samePct(read, s) {
		t.Errorf("ReadPct(%q) %v %v, not %v", want, read, ok, s)
	}
}

func TestTextsOfSchedules(t *testing.T) {
	hasPctText(t, ranked(inOwnOrder()), "4,3,2,1,0/")
	hasPctText(t, ranked(inOwnOrder(), []int{}...), "4,3,2,1,0/")
	hasPctText(t, ranked(inOwnOrder(), 0), "4,3,2,1,0/0")
	hasPctText(t, ranked([]int{0, 1, 2, 3, 4}, 9, 10), "0,1,2,3,4/9,10")
	hasPctText(t, ranked([]int{2, 4, 0, 3, 1}, 99, 100, impl.MaxBudget-1), "2,4,0,3,1/99,100,199")
	hasPctText(t, ranked([]int{1, 0, 4, 2, 3}, 0, 1, 2, 3), "1,0,4,2,3/0,1,2,3")
	hasPctText(t, ranked([]int{3, 1, 0, 2, 4}, 196, 197, 198, 199), "3,1,0,2,4/196,197,198,199")
}

func TestTextsOfAllRanksAndChanges(t *testing.T) {
	for _, ranks := range ranksByTrying(impl.MaxThreads) {
		text := strings.ReplaceAll(strings.Trim(fmt.Sprint(ranks), "[]"), " ", ",") + "/"
		hasPctText(t, ranked(ranks), text)
		hasPctText(t, ranked(ranks, 7, 150), text+"7,150")
	}
	for step := range impl.MaxBudget {
		text := "4,3,2,1,0/" + strconv.Itoa(step)
		hasPctText(t, ranked(inOwnOrder(), step), text)
		for later := step + 1; later < impl.MaxBudget; later++ {
			hasPctText(t, ranked(inOwnOrder(), step, later), text+","+strconv.Itoa(later))
		}
	}
}

func TestTextsOfNoSchedule(t *testing.T) {
	wrong := []string{
		"", "/", ",", "//", "0", "4", "4,3,2,1,0", "4,3,2,1,0,", "/4,3,2,1,0", "/1,2", "4,3,2,1,0//", "4,3,2,1,0/1/", "4,3,2,1,0/1/2",
		"/4,3,2,1,0/", "4,3,2/1,0/1", "4,3,2,1,0/4,3,2,1,0", "4,3,2,1,0 ", " 4,3,2,1,0/", "4,3,2,1,0/ ", "4,3,2,1,0/ 1", "4,3,2,1,0/1 ",
		"4,3, 2,1,0/", "4, 3, 2, 1, 0/", "4,3,2,1,0 /", "4 3 2 1 0/", "4,3,2,1,0/1 2", "4,3,2,1,0/1, 2", "4,3,2,1,0\n/", "4,3,2,1,0/\n", "4,3,2,1,0/\x00",
		"4,3,2,1,00/", "4,3,2,01,0/", "04,3,2,1,0/", "4,3,2,+1,0/", "+4,3,2,1,0/", "4,3,2,1,-0/", "-0,1,2,3,4/", "4,3,2,1,+0/",
		"4,3,2,1,0/01", "4,3,2,1,0/+1", "4,3,2,1,0/-0", "4,3,2,1,0/+0", "4,3,2,1,0/00", "4,3,2,1,0/1,02", "4,3,2,1,0/1,+2", "4,3,2,1,0/1_0",
		"4,3,2,1,0/0x1", "4,3,2,1,0/1.0", "4,3,2,1,0/1e1", "4,3,2,1,0/1p0", "4,3,2,1,0/a", "a,3,2,1,0/", "4,3,2,1,o/", "4,3,2,1,0/\u0661",
		"4,3,2,1/", "3,2,1,0/", "5,4,3,2,1,0/", "4,3,2,1,0,0/", "4,3,2,1,1/", "0,0,0,0,0/", "5,3,2,1,0/", "4,3,2,1,-1/", "-1,3,2,1,0/",
		"4,3,2,1,/", ",4,3,2,1/", ",3,2,1,4/", "4,,2,1,3/", ",,,,/", "4,3,2,1,0,/", "4;3;2;1;0/", "43210/", "4,3,2,1,0\\", "4,3,2,1,0|1",
		"4,3,2,1,0/,", "4,3,2,1,0/1,", "4,3,2,1,0/,1", "4,3,2,1,0/0,", "4,3,2,1,0/,,", "4,3,2,1,0/1,,2", "4,3,2,1,0/-",
		"4,3,2,1,0/-1", "4,3,2,1,0/200", "4,3,2,1,0/1,1", "4,3,2,1,0/2,1", "4,3,2,1,0/0,0", "4,3,2,1,0/199,200", "4,3,2,1,0/5,3,4",
		"4,3,2,1,0/0,1,2,3,4", "4,3,2,1,0/9223372036854775807", "4,3,2,1,0/9223372036854775808", "4,3,2,1,0/18446744073709551616",
		"4,3,2,1,18446744073709551616/", "4,3,2,1,-18446744073709551616/", "nan", "4,3,2,1,0/nan", "\xff", "\xff,3,2,1,0/", "4,3,2,1,0/\xff",
		strings.Repeat("4,3,2,1,0/", 2), strings.Repeat("0,", 100000) + "0/", "4,3,2,1,0/" + strings.Repeat("1,", 100000) + "2",
		strings.Repeat("0", 100000) + ",1,2,3,4/", "4,3,2,1,0/" + strings.Repeat("9", 100000), strings.Repeat("/", 100000),
	}
	for _, text := range wrong {
		if s, ok := impl.ReadPct(text); ok || !samePct(s, impl.Pct{}) {
			t.Errorf("ReadPct(%.60q) %v %v", text, s, ok)
		}
	}
}

var formOfPct = regexp.MustCompile(`\A[0-4](,[0-4]){4}/((0|[1-9][0-9]?|1[0-9][0-9])(,(0|[1-9][0-9]?|1[0-9][0-9])){0,3})?\z`)

// TestNoOtherTextIsASchedule changes texts of good schedules, byte by byte.
func TestNoOtherTextIsASchedule(t *testing.T) {
	for _, text := range []string{"4,3,2,1,0/", "0,1,2,3,4/0", "2,4,0,3,1/9,10", "1,0,4,2,3/19,20,99,199", "3,1,0,2,4/1,2,3"} {
		read := 0
		eachChange(text, func(other string) {
			s, ok := impl.ReadPct(other)
			if again, is := impl.PctText(s); ok && (!is || again != other || !formOfPct.MatchString(other)) {
				t.Errorf("ReadPct(%q) %v, whose text is %q", other, s, again)
			}
			if !ok && !samePct(s, impl.Pct{}) {
				t.Errorf("ReadPct(%q) %v and false", other, s)
			}
			if ok {
				read++
			}
		})
		if read < 10 {
			t.Errorf("only %d of the texts beside %q are read", read, text)
		}
	}
}
