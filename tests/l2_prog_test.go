package tests

import (
	"slices"
	"strings"
	"testing"

	"loop.example/g00696/impl"
)

// codes are all codes with their words, and which of V, A and B they name.
var codes = []struct {
	code int
	word string
	v    bool
	a    bool
	b    bool
}{
	{impl.OpPush, "push", true, false, false},
	{impl.OpLoad, "load", false, true, false},
	{impl.OpStore, "store", false, true, false},
	{impl.OpAdd, "add", false, false, false},
	{impl.OpSub, "sub", false, false, false},
	{impl.OpMul, "mul", false, false, false},
	{impl.OpDiv, "div", false, false, false},
	{impl.OpLess, "less", false, false, false},
	{impl.OpSame, "same", false, false, false},
	{impl.OpJump, "jump", false, true, false},
	{impl.OpUnless, "unless", false, true, false},
	{impl.OpLock, "lock", false, true, false},
	{impl.OpUnlock, "unlock", false, true, false},
	{impl.OpSpawn, "spawn", false, true, false},
	{impl.OpJoin, "join", false, false, false},
	{impl.OpWait, "wait", false, true, true},
	{impl.OpSignal, "signal", false, true, false},
}

const bigProgText = `prog 2 2 1
routine
push 1p0
push -3p-2
load 0
store 1
add
sub
mul
div
less
same
jump 24
unless 0
lock 0
unlock 1
spawn 1
join
wait 0 1
signal 0
push nan
push inf
push -inf
push 0
push -0
jump 23
routine
routine
spawn 2
spawn 1
jump 2
`

// bigProg is a program with each code, and the greatest numbers that it may name.
func bigProg() impl.Prog {
	return impl.Prog{Cells: 2, Locks: 2, Conds: 1, Routines: [][]impl.Op{
		{
			{Code: impl.OpPush, V: 1}, {Code: impl.OpPush, V: -0.75}, {Code: impl.OpLoad}, {Code: impl.OpStore, A: 1},
			{Code: impl.OpAdd}, {Code: impl.OpSub}, {Code: impl.OpMul}, {Code: impl.OpDiv}, {Code: impl.OpLess},
			{Code: impl.OpSame}, {Code: impl.OpJump, A: 24}, {Code: impl.OpUnless}, {Code: impl.OpLock},
			{Code: impl.OpUnlock, A: 1}, {Code: impl.OpSpawn, A: 1}, {Code: impl.OpJoin}, {Code: impl.OpWait, B: 1},
			{Code: impl.OpSignal}, {Code: impl.OpPush, V: nans()[0]}, {Code: impl.OpPush, V: infAbove},
			{Code: impl.OpPush, V: infBelow}, {Code: impl.OpPush}, {Code: impl.OpPush, V: minusZero},
			{Code: impl.OpJump, A: 23},
		},
		{},
		{{Code: impl.OpSpawn, A: 2}, {Code: impl.OpSpawn, A: 1}, {Code: impl.OpJump, A: 2}},
	}}
}

func sameOp(x impl.Op, y impl.Op) bool {
	return x.Code == y.Code && x.A == y.A && x.B == y.B && same(x.V, y.V)
}

func sameProg(p impl.Prog, q impl.Prog) bool {
	return p.Cells == q.Cells && p.Locks == q.Locks && p.Conds == q.Conds &&
		slices.EqualFunc(p.Routines, q.Routines, func(x []impl.Op, y []impl.Op) bool {
			return slices.EqualFunc(x, y, sameOp)
		})
}

func copyOfProg(p impl.Prog) impl.Prog {
	routines := p.Routines
	p.Routines = nil
	for _, ops := range routines {
		p.Routines = append(p.Routines, slices.Clone(ops))
	}
	return p
}

// oneOp is a program whose one routine has that op alone, and as many things as there may be.
func oneOp(o impl.Op) impl.Prog {
	return impl.Prog{Cells: impl.MaxCells, Locks: impl.MaxLocks, Conds: impl.MaxConds, Routines: [][]impl.Op{{o}}}
}

func emptyRoutines(many int) impl.Prog {
	return impl.Prog{Routines: make([][]impl.Op, many)}
}

func manyOps(o impl.Op, many int) []impl.Op {
	return slices.Repeat([]impl.Op{o}, many)
}

func TestNumbersOfPrograms(t *testing.T) {
	if impl.MaxRoutines != 4 || impl.MaxOps != 24 || impl.MaxCells != 4 || impl.MaxLocks != 4 || impl.MaxConds != 2 {
		t.Error("the limits are not those of the document")
	}
	for i, c := range codes {
		if c.code != i+1 {
			t.Errorf("the code of %s is %d, not %d", c.word, c.code, i+1)
		}
	}
}

// takesBack asks for promise 2 of one op.
func takesBack(t *testing.T, o impl.Op, text string) {
	t.Helper()
	if s, ok := impl.OpText(o); s != text || !ok {
		t.Errorf("OpText(%v) %q %v, not %q", o, s, ok, text)
	}
	if back, ok := impl.ReadOp(text); !sameOp(back, o) || !ok {
		t.Errorf("ReadOp(%q) %v %v, not %v", text, back, ok, o)
	}
}

func TestOpsAreReadBack(t *testing.T) {
	nums := map[int]string{0: " 0", 1: " 1", 9: " 9", 10: " 10", 99: " 99", 100: " 100", 998: " 998", 999: " 999"}
	for _, c := range codes {
		if !c.v && !c.a && !c.b {
			takesBack(t, impl.Op{Code: c.code}, c.word)
		}
		for a, textA := range nums {
			if c.a && !c.b {
				takesBack(t, impl.Op{Code: c.code, A: a}, c.word+textA)
			}
			for b, textB := range nums {
				if c.b {
					takesBack(t, impl.Op{Code: c.code, A: a, B: b}, c.word+textA+textB)
				}
			}
		}
	}
}

func TestPushesAreReadBack(t *testing.T) {
	for _, x := range spread() {
		takesBack(t, impl.Op{Code: impl.OpPush, V: x}, "push "+impl.NumText(x))
	}
	for text, x := range map[string]float64{
		"push nan": nans()[0], "push inf": infAbove, "push -inf": infBelow, "push 0": 0, "push -0": minusZero,
		"push 1p0": 1, "push -1p0": -1, "push 1p-1074": leastAboveZero, "push -1p-1074": -leastAboveZero,
		"push 9007199254740991p971": greatest, "push -9007199254740991p971": -greatest, "push 5p-1": 2.5,
	} {
		takesBack(t, impl.Op{Code: impl.OpPush, V: x}, text)
	}
}

func TestOpsThatHaveNoText(t *testing.T) {
	var wrong []impl.Op
	for _, code := range []int{-1 << 63, -1, 0, 18, 19, 1000, 1<<63 - 1} {
		wrong = append(wrong, impl.Op{Code: code})
	}
	for _, c := range codes {
		for _, n := range []int{-1 << 63, -1, 1000, 1<<63 - 1} {
			wrong = append(wrong, impl.Op{Code: c.code, A: n}, impl.Op{Code: c.code, B: n})
		}
		for _, n := range []int{1, 999} {
			if !c.a {
				wrong = append(wrong, impl.Op{Code: c.code, A: n})
			}
			if !c.b {
				wrong = append(wrong, impl.Op{Code: c.code, B: n})
			}
		}
		for _, x := range []float64{minusZero, 1, -1, leastAboveZero, infAbove, infBelow, nans()[0]} {
			if !c.v {
				wrong = append(wrong, impl.Op{Code: c.code, V: x})
			}
		}
	}
	for _, o := range wrong {
		if s, ok := impl.OpText(o); s != "" || ok {
			t.Errorf("OpText(%v) %q %v", o, s, ok)
		}
		if impl.GoodProg(oneOp(o)) {
			t.Errorf("a program with %v is good", o)
		}
	}
}

func TestTextsOfNoOp(t *testing.T) {
	wrong := []string{
		"", " ", "\n", "nop", "Push 0", "PUSH 0", "pus 0", "pushh 0", "routine", "prog 0 0 0",
		"push", "push ", "push  0", "push 0 ", " push 0", "push 0 0", "push 1", "push 00", "push +0", "push 0p0",
		"push 2p0", "push 1p1024", "push 1p-1075", "push NaN", "push +inf", "push 1.5", "push 01p0", "push 1p+0",
		"push 1p" + strings.Repeat("0", 40), "push\t0", "push 0\n", "push 0\x00",
		"load", "load ", "load -1", "load -0", "load +1", "load 01", "load 00", "load 1000", "load 1p0", "load  1",
		"load 1 ", "load 1 0", "load 1 2", "load x", "load 0x1", "load 1_0", "load 99999999999999999999", "load\t1",
		"load １", "add ", "add 0", "add 0 0", "add\n", "join 0", "wait", "wait ", "wait 0", "wait 0 ", "wait  0 1", "wait 0  1",
		"wait 0 1 ", "wait 0 1 2", "wait 00 1", "wait 0 01", "wait 1000 0", "wait 0 1000", "wait -1 0", "wait 0 -1",
		"wait 0,1", "signal", "signal 0 0", "spawn", "jump", "jump -1", "unless", "lock", "unlock",
	}
	for _, s := range wrong {
		if o, ok := impl.ReadOp(s); o != (impl.Op{}) || ok {
			t.Errorf("ReadOp(%q) %v %v", s, o, ok)
		}
	}
}

// eachChange hands on the texts that differ from s by one byte: changed, left out, or put in.
func eachChange(s string, see func(string)) {
	for i := 0; i <= len(s); i++ {
		for b := range 256 {
			see(s[:i] + string([]byte{byte(b)}) + s[i:])
			if i < len(s) && byte(b) != s[i] {
				see(s[:i] + string([]byte{byte(b)}) + s[i+1:])
			}
		}
		if i < len(s) {
			see(s[:i] + s[i+1:])
		}
	}
}

func TestNoOtherTextIsAnOp(t *testing.T) {
	for _, s := range []string{"push 5p-1", "push -0", "push nan", "load 10", "add", "wait 9 100", "jump 0", "signal 999"} {
		eachChange(s, func(other string) {
			o, ok := impl.ReadOp(other)
			if text, is := impl.OpText(o); ok && (!is || text != other) {
				t.Errorf("ReadOp(%q) %v, whose text is %q", other, o, text)
			}
			if !ok && o != (impl.Op{}) {
				t.Errorf("ReadOp(%q) %v and false", other, o)
			}
		})
	}
}

// readBack asks for promise 2 of one program that has to be good.
func readBack(t *testing.T, p impl.Prog) {
	t.Helper()
	if !impl.GoodProg(p) {
		t.Errorf("not good: %v", p)
	}
	text, ok := impl.ProgText(p)
	q, line, is := impl.ReadProg(text)
	if !ok || !is || line != 0 || !sameProg(p, q) {
		t.Errorf("%v has the text %q %v, read back as %v %d %v", p, text, ok, q, line, is)
	}
}

// notGood asks for the zero answers of a program that has to be none.
func notGood(t *testing.T, p impl.Prog) {
	t.Helper()
	if impl.GoodProg(p) {
		t.Errorf("good: %v", p)
	}
	if s, ok := impl.ProgText(p); s != "" || ok {
		t.Errorf("ProgText(%v) %q %v", p, s, ok)
	}
	if l, ok := impl.SpawnsIn(p); len(l) != 0 || ok {
		t.Errorf("SpawnsIn(%v) %v %v", p, l, ok)
	}
}

func TestProgText(t *testing.T) {
	if s, ok := impl.ProgText(bigProg()); s != bigProgText || !ok {
		t.Errorf("%q %v", s, ok)
	}
	if p, line, ok := impl.ReadProg(bigProgText); !sameProg(p, bigProg()) || line != 0 || !ok {
		t.Error(p, line, ok)
	}
	readBack(t, bigProg())
	least := impl.Prog{Routines: [][]impl.Op{nil}}
	if s, ok := impl.ProgText(least); s != "prog 0 0 0\nroutine\n" || !ok {
		t.Errorf("%q %v", s, ok)
	}
	readBack(t, least)
}

func TestLimitsOfPrograms(t *testing.T) {
	for cells := 0; cells <= impl.MaxCells; cells++ {
		readBack(t, impl.Prog{Cells: cells, Routines: [][]impl.Op{{}}})
	}
	for locks := 0; locks <= impl.MaxLocks; locks++ {
		readBack(t, impl.Prog{Locks: locks, Routines: [][]impl.Op{{}}})
	}
	for conds := 0; conds <= impl.MaxConds; conds++ {
		readBack(t, impl.Prog{Conds: conds, Routines: [][]impl.Op{{}}})
	}
	for _, n := range []int{-1 << 63, -1, 5, 6, 1<<63 - 1} {
		notGood(t, impl.Prog{Cells: n, Routines: [][]impl.Op{{}}})
		notGood(t, impl.Prog{Locks: n, Routines: [][]impl.Op{{}}})
		notGood(t, impl.Prog{Conds: n, Routines: [][]impl.Op{{}}})
	}
	notGood(t, impl.Prog{Conds: impl.MaxConds + 1, Routines: [][]impl.Op{{}}})
	for many := 1; many <= impl.MaxRoutines; many++ {
		readBack(t, emptyRoutines(many))
	}
	notGood(t, impl.Prog{})
	notGood(t, emptyRoutines(impl.MaxRoutines+1))
	for many := range impl.MaxOps + 1 {
		readBack(t, impl.Prog{Routines: [][]impl.Op{{}, manyOps(impl.Op{Code: impl.OpAdd}, many)}})
	}
	notGood(t, impl.Prog{Routines: [][]impl.Op{{}, manyOps(impl.Op{Code: impl.OpAdd}, impl.MaxOps+1)}})
}

// greatestProg meets all limits at once, with the longest text that a good program has.
func greatestProg() impl.Prog {
	p := impl.Prog{Cells: impl.MaxCells, Locks: impl.MaxLocks, Conds: impl.MaxConds}
	for range impl.MaxRoutines {
		p.Routines = append(p.Routines, manyOps(impl.Op{Code: impl.OpPush, V: -0x1.0000000000001p-1022}, impl.MaxOps))
	}
	return p
}

func TestGreatestProgram(t *testing.T) {
	readBack(t, greatestProg())
	for _, x := range inOrder() {
		p := greatestProg()
		p.Routines[impl.MaxRoutines-1][impl.MaxOps-1].V = x
		readBack(t, p)
	}
	p := greatestProg()
	p.Routines[impl.MaxRoutines-1][impl.MaxOps-1] = impl.Op{Code: impl.OpAdd, V: 1}
	notGood(t, p)
}

// TestWhatOpsName meets and goes beyond each limit of what A and B name.
func TestWhatOpsName(t *testing.T) {
	for cells := 0; cells <= impl.MaxCells; cells++ {
		for _, code := range []int{impl.OpLoad, impl.OpStore} {
			p := impl.Prog{Cells: cells, Locks: impl.MaxLocks, Conds: impl.MaxConds, Routines: [][]impl.Op{{{Code: code}}}}
			endsAt(t, p, cells)
		}
	}
	for locks := 0; locks <= impl.MaxLocks; locks++ {
		for _, code := range []int{impl.OpLock, impl.OpUnlock} {
			p := impl.Prog{Cells: impl.MaxCells, Locks: locks, Conds: impl.MaxConds, Routines: [][]impl.Op{{{Code: code}}}}
			endsAt(t, p, locks)
		}
	}
	for conds := 0; conds <= impl.MaxConds; conds++ {
		for _, code := range []int{impl.OpWait, impl.OpSignal} {
			p := impl.Prog{Cells: impl.MaxCells, Locks: impl.MaxLocks, Conds: conds, Routines: [][]impl.Op{{{Code: code}}}}
			endsAt(t, p, conds)
		}
	}
	for routines := 1; routines <= impl.MaxRoutines; routines++ {
		p := emptyRoutines(routines)
		p.Routines[0] = []impl.Op{{Code: impl.OpSpawn}}
		endsAt(t, p, routines)
	}
	for ops := 1; ops <= impl.MaxOps; ops++ {
		for _, code := range []int{impl.OpJump, impl.OpUnless} {
			p := impl.Prog{Routines: [][]impl.Op{manyOps(impl.Op{Code: code}, ops), manyOps(impl.Op{Code: impl.OpAdd}, 12)}}
			endsAt(t, p, ops+1)
		}
	}
}

// endsAt lets the first op name each number around end: just those of 0 to end, without it, are good.
func endsAt(t *testing.T, p impl.Prog, end int) {
	t.Helper()
	for a := -1; a <= end+2; a++ {
		q := copyOfProg(p)
		q.Routines[0][0].A = a
		if 0 <= a && a < end {
			readBack(t, q)
		} else {
			notGood(t, q)
		}
	}
}

func TestLocksThatWaitNames(t *testing.T) {
	for locks := 0; locks <= impl.MaxLocks; locks++ {
		for b := -1; b <= locks+1; b++ {
			p := impl.Prog{Cells: impl.MaxCells, Locks: locks, Conds: impl.MaxConds, Routines: [][]impl.Op{{{Code: impl.OpWait, A: 1, B: b}}}}
			if 0 <= b && b < locks {
				readBack(t, p)
			} else {
				notGood(t, p)
			}
		}
	}
}

func TestWrongOpsAnywhere(t *testing.T) {
	for r, ops := range bigProg().Routines {
		for i := range ops {
			p := bigProg()
			p.Routines[r][i] = impl.Op{}
			notGood(t, p)
			p.Routines[r][i] = impl.Op{Code: impl.OpAdd, V: minusZero}
			notGood(t, p)
			p.Routines[r][i] = impl.Op{Code: impl.OpAdd}
			readBack(t, p)
		}
	}
}

// wrongAt asks for a text that is none, with the number of that line.
func wrongAt(t *testing.T, s string, want int) {
	t.Helper()
	p, line, ok := impl.ReadProg(s)
	if line != want || ok || !sameProg(p, impl.Prog{}) || p.Routines != nil {
		t.Errorf("ReadProg(%q) %v %d %v, not %d", s, p, line, ok, want)
	}
}

func TestFirstLineThatIsWrong(t *testing.T) {
	for _, head := range []string{
		"", " ", "prog", "prog ", "prog 0", "prog 0 0", "prog 0 0 ", "prog 0 0 0 ", "prog 0 0 0 0", " prog 0 0 0", "prog  0 0 0",
		"prog 0  0 0", "prog 00 0 0", "prog 0 00 0", "prog 0 0 00", "prog 10 0 0", "prog 0 10 0", "prog 0 0 10", "prog -1 0 0",
		"prog +1 0 0", "prog x 0 0", "prog 0 x 0", "prog 0 0 x", "prog 0 0 /", "prog 0 0 :", "prog\t0\t0\t0", "prog 0,0,0",
		"Prog 0 0 0", "prig 0 0 0", "program 0 0 0", "prog0 0 0 ", "routine", "add", "prog 0 0 0\r", "prog 0 0 0p0",
	} {
		wrongAt(t, head+"\n", 1)
		wrongAt(t, head+"\nroutine\n", 1)
		wrongAt(t, head+"\nwrong\nwrong\n", 1)
	}
}

func TestLaterLinesThatAreWrong(t *testing.T) {
	for _, bad := range []string{
		"", " ", "wrong", "routine ", " routine", "Routine", "routines", "prog 0 0 0", "push", "push 1", "push 2p0", "push 00",
		"add 0", " add", "add ", "load 01", "load 1000", "wait 0", "jump -1", "load 0 0", "routine\r", "add\r",
	} {
		wrongAt(t, "prog 1 1 1\n"+bad+"\n", 2)
		wrongAt(t, "prog 1 1 1\nroutine\n"+bad+"\n", 3)
		wrongAt(t, "prog 1 1 1\nroutine\nadd\n"+bad+"\nroutine\n", 4)
		wrongAt(t, "prog 1 1 1\nroutine\nadd\nroutine\nadd\n"+bad+"\n"+bad+"\n", 6)
		wrongAt(t, "prog 9 9 9\nroutine\nload 999\n"+bad+"\n", 4)
	}
	lines := strings.SplitAfter(strings.TrimSuffix(bigProgText, "\n"), "\n")
	for i := range lines {
		wrong := slices.Clone(lines)
		wrong[i] = "wrong\n"
		wrongAt(t, strings.TrimSuffix(strings.Join(wrong, ""), "\n")+"\n", i+1)
	}
}

func TestOpsAheadOfTheFirstRoutine(t *testing.T) {
	for _, c := range codes {
		o := impl.Op{Code: c.code}
		text, _ := impl.OpText(o)
		wrongAt(t, "prog 4 4 2\n"+text+"\n", 2)
		wrongAt(t, "prog 4 4 2\n"+text+"\nroutine\n", 2)
		wrongAt(t, "prog 9 9 9\n"+text+"\nroutine\nwrong\n", 2)
		if _, line, ok := impl.ReadProg("prog 4 4 2\nroutine\n" + text + "\n"); line != 0 || !ok {
			t.Errorf("%q behind a routine is wrong at %d", text, line)
		}
	}
}

func TestTextsThatAreWrongAsAWhole(t *testing.T) {
	for _, s := range []string{
		"", "prog 0 0 0", "prog 0 0 0\nroutine", "prog 0 0 0\nroutine\nadd", "prog 0 0 0\nroutine\nadd\x00", "x", "x\ny", "\nx",
		"prog 0 0 0\nwrong\nroutine", "prog 0 0 0\r", "prog 0 0 0\n", "prog 5 0 0\nroutine\n", "prog 0 5 0\nroutine\n",
		"prog 0 0 3\nroutine\n", "prog 9 9 9\nroutine\n", "prog 0 0 0\n" + strings.Repeat("routine\n", 5),
		"prog 0 0 0\nroutine\n" + strings.Repeat("add\n", 25), "prog 1 0 0\nroutine\nload 1\n", "prog 0 0 0\nroutine\nspawn 1\n",
		"prog 0 0 0\nroutine\njump 2\n", "prog 0 0 0\nroutine\nadd\nroutine\njump 999\n", "prog 0 0 1\nroutine\nwait 0 0\n",
	} {
		wrongAt(t, s, 0)
	}
	for i := range len(bigProgText) {
		if bigProgText[max(i, 1)-1] != '\n' {
			wrongAt(t, bigProgText[:i], 0)
		}
	}
}

// TestTextsOf4000Bytes meets the bound with a line that is wrong, since no good program has so long a text.
func TestTextsOf4000Bytes(t *testing.T) {
	head := "prog 1 1 1\nroutine\n"
	for _, c := range []struct{ length, line int }{{3999, 3}, {4000, 3}, {4001, 0}, {9000, 0}} {
		s := head + strings.Repeat("x", c.length-len(head)-1) + "\n"
		wrongAt(t, s, c.line)
		wrongAt(t, "x"+s[1:], min(c.line, 1))
		wrongAt(t, s[:len(s)-1]+"x", 0)
	}
	full := head + strings.Repeat("add\n", (4000-len(head)-7)/4)
	wrongAt(t, full+"push 0\n", 0)
	wrongAt(t, full+"pushh\n", strings.Count(full, "\n")+1)
	if text, _ := impl.ProgText(greatestProg()); len(text) > 4000 {
		t.Errorf("a good program has a text of %d bytes", len(text))
	}
}

func TestNoOtherTextIsTheProgram(t *testing.T) {
	eachChange(bigProgText, func(other string) {
		p, line, ok := impl.ReadProg(other)
		text, is := impl.ProgText(p)
		if ok && (line != 0 || !is || text != other) {
			t.Errorf("%q is read as %v %d", other, p, line)
		}
		if !ok && (line < 0 || line > 1+strings.Count(other, "\n") || p.Routines != nil) {
			t.Errorf("%q is not read, with %v %d", other, p, line)
		}
	})
}

func TestSpawnsIn(t *testing.T) {
	spawn := func(routines ...int) []impl.Op {
		var ops []impl.Op
		for _, r := range routines {
			ops = append(ops, impl.Op{Code: impl.OpJump, A: 3}, impl.Op{Code: impl.OpSpawn, A: r}, impl.Op{Code: impl.OpAdd})
		}
		return ops
	}
	for _, c := range []struct {
		routines [][]impl.Op
		want     []int
	}{
		{[][]impl.Op{{}}, nil},
		{[][]impl.Op{{{Code: impl.OpJump, A: 1}}, {{Code: impl.OpAdd}}}, nil},
		{[][]impl.Op{spawn(0)}, []int{0}},
		{[][]impl.Op{spawn(3, 1), {}, {}, {}}, []int{1, 3}},
		{[][]impl.Op{spawn(2, 2, 0), spawn(2), {}}, []int{0, 2}},
		{[][]impl.Op{spawn(3), spawn(2), spawn(1), spawn(0)}, []int{0, 1, 2, 3}},
		{[][]impl.Op{{}, {}, {}, spawn(3, 2, 3, 2, 3)}, []int{2, 3}},
	} {
		p := impl.Prog{Routines: c.routines}
		if got, ok := impl.SpawnsIn(p); !slices.Equal(got, c.want) || !ok {
			t.Errorf("SpawnsIn(%v) %v %v, not %v", p, got, ok, c.want)
		}
	}
	bad := impl.Prog{Routines: [][]impl.Op{spawn(0, 1)}}
	notGood(t, bad)
}

func TestProgramsAreNotWrittenInto(t *testing.T) {
	p := bigProg()
	// What lies behind a list's length must stay as it is, too.
	p.Routines[0] = append(p.Routines[0], impl.Op{Code: 77})[:impl.MaxOps]
	p.Routines = append(p.Routines, []impl.Op{{Code: 78}})[:3]
	kept := copyOfProg(p)
	impl.GoodProg(p)
	impl.ProgText(p)
	impl.SpawnsIn(p)
	if !sameProg(p, kept) || p.Routines[0][:impl.MaxOps+1][impl.MaxOps].Code != 77 || p.Routines[:4][3][0].Code != 78 {
		t.Error("the program was changed", p)
	}
	readBack(t, p)
}

func TestAnswersAreMemoryOfTheirOwn(t *testing.T) {
	first, _, _ := impl.ReadProg(bigProgText)
	second, _, _ := impl.ReadProg(bigProgText)
	for r := range first.Routines {
		for i := range first.Routines[r] {
			first.Routines[r][i] = impl.Op{Code: 77}
		}
		// Were two lists one piece of memory, to go on behind one would write into the next.
		_ = append(first.Routines[r], manyOps(impl.Op{Code: 78}, impl.MaxOps)...)
	}
	third, _, _ := impl.ReadProg(bigProgText)
	if !sameProg(second, bigProg()) || !sameProg(third, bigProg()) {
		t.Error("an answer shares memory", second, third)
	}
	for _, ops := range first.Routines {
		for _, o := range ops {
			if o.Code != 77 {
				t.Error("two lists of one answer share memory")
			}
		}
	}
	spawns, _ := impl.SpawnsIn(bigProg())
	for i := range spawns {
		spawns[i] = 77
	}
	if again, _ := impl.SpawnsIn(bigProg()); !slices.Equal(again, []int{1, 2}) {
		t.Error("SpawnsIn keeps what it told", again)
	}
}
