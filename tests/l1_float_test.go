package tests

import (
	"math"
	"math/big"
	"regexp"
	"strconv"
	"strings"
	"testing"

	"loop.example/g00696/impl"
)

const (
	leastAboveZero = math.SmallestNonzeroFloat64
	greatest       = math.MaxFloat64
	greatestUnder  = 0x1p-1022 - 0x1p-1074 // the greatest number that has no leading 1 of its own
	leastNormal    = 0x1p-1022
	greatestPart   = 0x1p52 - 0.5
	mostManSize    = 1<<53 - 1
)

var (
	minusZero = math.Copysign(0, -1)
	infAbove  = math.Inf(1)
	infBelow  = math.Inf(-1)
)

// nans are NaNs with unlike bits: quiet, signalling, and both with the sign bit set.
func nans() []float64 {
	return []float64{
		math.NaN(),
		math.Float64frombits(0x7ff0000000000001),
		math.Float64frombits(0x7fffffffffffffff),
		math.Float64frombits(0xfff8000000000000),
		math.Float64frombits(0xffffffffffffffff),
	}
}

// inOrder are numbers by the order of the document, no two of them the same.
func inOrder() []float64 {
	above := []float64{
		leastAboveZero, 0x3p-1074, greatestUnder, leastNormal, 0x1.8p-1022, 0x1p-53, 0.1, 0.5,
		math.Nextafter(1, 0), 1, math.Nextafter(1, 2), 1.5, 2, 2.5, 3, 12, 999, 1000, 1001,
		greatestPart, 1 << 52, 1<<52 + 1, mostManSize, 1 << 53, 1<<53 + 2, 1 << 62, 1 << 63, 1 << 64, 1e300,
		math.Nextafter(greatest, 0), greatest,
	}
	all := []float64{infBelow}
	for i := len(above) - 1; i >= 0; i-- {
		all = append(all, -above[i])
	}
	all = append(all, minusZero, 0)
	all = append(all, above...)
	return append(all, infAbove, math.NaN())
}

// spread are many numbers: each exponent that there is, with man of several shapes, of both signs.
func spread() []float64 {
	all := append(inOrder(), nans()...)
	shapes := []uint64{0, 1, 2, 3, 1 << 20, 1 << 51, 1<<52 - 1, 1<<52 - 2, 0x5555555555555, 0xaaaaaaaaaaaaa, 0x8000000000001}
	for exp := uint64(0); exp < 1<<11; exp++ {
		for _, shape := range shapes {
			all = append(all, math.Float64frombits(exp<<52|shape), math.Float64frombits(1<<63|exp<<52|shape))
		}
	}
	return all
}

// same is told by the bits alone, so that no function under test stands behind it.
func same(x float64, y float64) bool {
	return x != x && y != y || math.Float64bits(x) == math.Float64bits(y)
}

func exactly(man int, exp int) *big.Float {
	return new(big.Float).SetMantExp(new(big.Float).SetPrec(64).SetInt64(int64(man)), exp)
}

func TestKindOf(t *testing.T) {
	if impl.KdNan != 0 || impl.KdInf != 1 || impl.KdZero != 2 || impl.KdWhole != 3 || impl.KdPart != 4 {
		t.Fatal("the kinds do not have the numbers of the document")
	}
	for _, c := range []struct {
		kind int
		nums []float64
	}{
		{impl.KdNan, nans()},
		{impl.KdInf, []float64{infAbove, infBelow}},
		{impl.KdZero, []float64{0, minusZero}},
		{impl.KdWhole, []float64{1, 12, 1 << 52, mostManSize, 1 << 53, 1 << 63, 1 << 64, 1e300, greatest}},
		{impl.KdPart, []float64{0.5, 2.5, 0.1, leastAboveZero, greatestUnder, leastNormal, greatestPart, math.Nextafter(1, 0)}},
	} {
		for _, x := range c.nums {
			if impl.KindOf(x) != c.kind || impl.KindOf(-x) != c.kind {
				t.Errorf("KindOf(%v) %d, of its minus %d, not %d", x, impl.KindOf(x), impl.KindOf(-x), c.kind)
			}
		}
	}
}

func TestKindOfAgainstExactNumbers(t *testing.T) {
	for _, x := range spread() {
		kind := impl.KindOf(x)
		if x != x || math.IsInf(x, 0) || x == 0 {
			if kind != impl.KdNan && kind != impl.KdInf && kind != impl.KdZero {
				t.Fatalf("KindOf(%v) %d", x, kind)
			}
			continue
		}
		want := impl.KdPart
		if big.NewFloat(x).IsInt() {
			want = impl.KdWhole
		}
		if kind != want {
			t.Fatalf("KindOf(%v) %d, not %d", x, kind, want)
		}
	}
}

func TestIsMinus(t *testing.T) {
	for _, x := range []float64{infBelow, -greatest, -12, -2.5, -leastAboveZero, minusZero} {
		if !impl.IsMinus(x) || impl.IsMinus(-x) {
			t.Errorf("IsMinus(%v) %v, of its minus %v", x, impl.IsMinus(x), impl.IsMinus(-x))
		}
	}
	for _, x := range nans() {
		if impl.IsMinus(x) {
			t.Errorf("a NaN with the bits %x is told to be below 0", math.Float64bits(x))
		}
	}
}

func TestOrderOfAllNumbers(t *testing.T) {
	all := inOrder()
	for i, x := range all {
		for j, y := range all {
			want := 0
			if i < j {
				want = -1
			} else if i > j {
				want = 1
			}
			if got := impl.CompareNum(x, y); got != want {
				t.Errorf("CompareNum(%v, %v) %d, not %d", x, y, got, want)
			}
			if impl.SameNum(x, y) != (i == j) {
				t.Errorf("SameNum(%v, %v) %v", x, y, i != j)
			}
			if got := impl.LeastNum(x, y); !same(got, all[min(i, j)]) {
				t.Errorf("LeastNum(%v, %v) %v", x, y, got)
			}
		}
	}
}

func TestAllNansAreOne(t *testing.T) {
	for _, x := range nans() {
		for _, y := range nans() {
			if !impl.SameNum(x, y) || impl.CompareNum(x, y) != 0 || !math.IsNaN(impl.LeastNum(x, y)) {
				t.Errorf("two NaNs %x %x are not one", math.Float64bits(x), math.Float64bits(y))
			}
		}
		for _, y := range []float64{infBelow, -1, minusZero, 0, leastAboveZero, infAbove} {
			if impl.SameNum(x, y) || impl.SameNum(y, x) || impl.CompareNum(x, y) != 1 || impl.CompareNum(y, x) != -1 {
				t.Errorf("a NaN %x stands not behind %v", math.Float64bits(x), y)
			}
			if !same(impl.LeastNum(x, y), y) || !same(impl.LeastNum(y, x), y) {
				t.Errorf("LeastNum of a NaN %x and %v", math.Float64bits(x), y)
			}
		}
	}
}

func TestPartsOf(t *testing.T) {
	for _, c := range []struct {
		x        float64
		man, exp int
	}{
		{1, 1, 0}, {12, 3, 2}, {2.5, 5, -1}, {0.5, 1, -1}, {1 << 63, 1, 63}, {3 << 60, 3, 60},
		{leastAboveZero, 1, -1074}, {0x3p-1074, 3, -1074}, {greatestUnder, 1<<52 - 1, -1074}, {leastNormal, 1, -1022},
		{greatestPart, mostManSize, -1}, {mostManSize, mostManSize, 0}, {1 << 53, 1, 53}, {0x1p1023, 1, 1023}, {greatest, mostManSize, 971},
	} {
		if man, exp, ok := impl.PartsOf(c.x); man != c.man || exp != c.exp || !ok {
			t.Errorf("PartsOf(%v) %d %d %v, not %d %d", c.x, man, exp, ok, c.man, c.exp)
		}
		if man, exp, ok := impl.PartsOf(-c.x); man != -c.man || exp != c.exp || !ok {
			t.Errorf("PartsOf(%v) %d %d %v, not %d %d", -c.x, man, exp, ok, -c.man, c.exp)
		}
		if x, ok := impl.NumOf(c.man, c.exp); !same(x, c.x) || !ok {
			t.Errorf("NumOf(%d, %d) %v %v, not %v", c.man, c.exp, x, ok, c.x)
		}
		if x, ok := impl.NumOf(-c.man, c.exp); !same(x, -c.x) || !ok {
			t.Errorf("NumOf(%d, %d) %v %v, not %v", -c.man, c.exp, x, ok, -c.x)
		}
	}
}

func TestPartsOfMakesTheNumber(t *testing.T) {
	for _, x := range spread() {
		man, exp, ok := impl.PartsOf(x)
		if x != x || math.IsInf(x, 0) || x == 0 {
			if man != 0 || exp != 0 || ok {
				t.Fatalf("PartsOf(%v) %d %d %v, not the zero answer", x, man, exp, ok)
			}
			continue
		}
		if !ok || man%2 == 0 || exactly(man, exp).Cmp(big.NewFloat(x)) != 0 {
			t.Fatalf("PartsOf(%v) %d %d %v", x, man, exp, ok)
		}
		if y, ok := impl.NumOf(man, exp); !same(x, y) || !ok {
			t.Fatalf("NumOf(%d, %d) %v %v, not %v", man, exp, y, ok, x)
		}
	}
}

// TestNumOfWhereThereIsOne holds NumOf against exact numbers, at each exp and beyond both ends.
func TestNumOfWhereThereIsOne(t *testing.T) {
	for _, man := range []int{1, 3, 5, 1<<26 + 1, 1<<52 - 1, 1<<52 + 1, mostManSize} {
		for exp := -1210; exp <= 1210; exp++ {
			want, how := exactly(man, exp).Float64()
			there := how == big.Exact && exp >= -1200 && exp <= 1200
			if !there {
				want = 0
			}
			if x, ok := impl.NumOf(man, exp); ok != there || !same(x, want) {
				t.Fatalf("NumOf(%d, %d) %v %v, not %v %v", man, exp, x, ok, want, there)
			}
			if there {
				want = -want
			}
			if x, ok := impl.NumOf(-man, exp); ok != there || !same(x, want) {
				t.Fatalf("NumOf(%d, %d) %v %v, not %v %v", -man, exp, x, ok, want, there)
			}
		}
	}
}

func TestNumOfWrongArguments(t *testing.T) {
	mans := []int{0, 2, -2, 12, 1 << 52, 1 << 53, -1 << 53, 1<<53 + 1, -1<<53 - 1, 1<<54 - 1, 1<<62 + 1, math.MaxInt, math.MinInt, math.MinInt + 1}
	for _, man := range mans {
		for _, exp := range []int{0, 1, -1, -60, 971, -1074, -1200, 1200, math.MaxInt, math.MinInt} {
			if x, ok := impl.NumOf(man, exp); !same(x, 0) || ok {
				t.Errorf("NumOf(%d, %d) %v %v, not the zero answer", man, exp, x, ok)
			}
		}
	}
	for _, man := range []int{1, -1, 3, mostManSize, -mostManSize} {
		for _, exp := range []int{-1200, -1201, -1 << 40, math.MinInt, math.MinInt + 1, 1200, 1201, 1 << 40, math.MaxInt, math.MaxInt - 1, math.MaxInt - 52} {
			if x, ok := impl.NumOf(man, exp); !same(x, 0) || ok {
				t.Errorf("NumOf(%d, %d) %v %v, not the zero answer", man, exp, x, ok)
			}
		}
	}
}

func TestToIndex(t *testing.T) {
	for _, many := range []int{1, 2, 3, 5, 999, 1000} {
		for n := range many {
			if got, ok := impl.ToIndex(float64(n), many); got != n || !ok {
				t.Errorf("ToIndex(%d, %d) %d %v", n, many, got, ok)
			}
		}
		if got, ok := impl.ToIndex(minusZero, many); got != 0 || !ok {
			t.Errorf("ToIndex(-0, %d) %d %v", many, got, ok)
		}
	}
}

func TestToIndexWrongArguments(t *testing.T) {
	for _, many := range []int{1, 2, 999, 1000} {
		wrong := append(nans(), infAbove, infBelow, -1, -2, -leastAboveZero, leastAboveZero, 0.5, -0.5,
			float64(many), float64(many)+1, math.Nextafter(float64(many), 0), 1<<53, 1<<63, 1<<64, 1<<64+4096, greatest, -greatest)
		for _, x := range wrong {
			if n, ok := impl.ToIndex(x, many); n != 0 || ok {
				t.Errorf("ToIndex(%v, %d) %d %v, not the zero answer", x, many, n, ok)
			}
		}
	}
	for _, many := range []int{0, -1, -1000, 1001, 1 << 40, math.MaxInt, math.MinInt} {
		for _, x := range []float64{0, minusZero, 1, 999, 1000, math.NaN()} {
			if n, ok := impl.ToIndex(x, many); n != 0 || ok {
				t.Errorf("ToIndex(%v, %d) %d %v, not the zero answer", x, many, n, ok)
			}
		}
	}
}

func TestNumText(t *testing.T) {
	for _, c := range []struct {
		x    float64
		text string
	}{
		{infAbove, "inf"}, {infBelow, "-inf"}, {0, "0"}, {minusZero, "-0"},
		{1, "1p0"}, {-1, "-1p0"}, {12, "3p2"}, {-12, "-3p2"}, {2.5, "5p-1"}, {-2.5, "-5p-1"}, {10, "5p1"}, {1000, "125p3"},
		{leastAboveZero, "1p-1074"}, {-leastAboveZero, "-1p-1074"}, {greatestUnder, "4503599627370495p-1074"}, {leastNormal, "1p-1022"},
		{greatestPart, "9007199254740991p-1"}, {mostManSize, "9007199254740991p0"},
		{greatest, "9007199254740991p971"}, {-greatest, "-9007199254740991p971"},
		{0.1, "3602879701896397p-55"},
	} {
		if got := impl.NumText(c.x); got != c.text {
			t.Errorf("NumText(%v) %q, not %q", c.x, got, c.text)
		}
		if x, ok := impl.ReadNum(c.text); !same(x, c.x) || !ok {
			t.Errorf("ReadNum(%q) %v %v, not %v", c.text, x, ok, c.x)
		}
	}
	for _, x := range nans() {
		if got := impl.NumText(x); got != "nan" {
			t.Errorf("NumText of a NaN %q", got)
		}
	}
}

func TestNumIsReadBackFromItsText(t *testing.T) {
	form := regexp.MustCompile(`^(nan|-?inf|-?0|-?[1-9][0-9]*p(0|-?[1-9][0-9]*))$`)
	texts := map[string]float64{}
	for _, x := range spread() {
		s := impl.NumText(x)
		if !form.MatchString(s) {
			t.Fatalf("NumText(%v) %q", x, s)
		}
		if y, ok := impl.ReadNum(s); !same(x, y) || !ok || !impl.SameNum(x, y) {
			t.Fatalf("ReadNum(%q) %v %v, not %v", s, y, ok, x)
		}
		if y, ok := texts[s]; ok && !same(x, y) {
			t.Fatalf("%v and %v have one text %q", x, y, s)
		}
		texts[s] = x
	}
}

func TestReadNumWrongTexts(t *testing.T) {
	wrong := []string{
		"", " ", "p", "-", "+", "1", "-1", "12", "2.5", "1e3", "0x1p0", "p0", "1p", "-p0", "1p-", "1pp0", "1p0p0", "1P0",
		"0p0", "-0p0", "00", "+0", "-00", "0 ", " 0", "0\n", "0\x00",
		"4p0", "-4p0", "2p0", "6p-1", "12p0",
		"01p0", "-01p0", "+1p0", "--1p0", "1p+0", "1p-0", "1p00", "1p01", "1p-01", "1p--1", "1_1p0", "1p1_0",
		" 1p0", "1p0 ", "1 p0", "1p 0", "1p0\n", "\xff1p0", "1p0\xff", "1p０", "１p0",
		"1p-1075", "3p-1075", "1p1024", "3p1023", "-1p-1075", "-1p1024", "9007199254740991p972", "9007199254740991p-1075",
		"9007199254740993p0", "-9007199254740993p0", "18014398509481983p0", "9223372036854775807p0", "-9223372036854775807p0",
		"9223372036854775809p0", "18446744073709551617p0", "1p9223372036854775807", "1p-9223372036854775808", "1p9223372036854775808", "1p18446744073709551616",
		"1p1200", "1p-1200", "1p1201", "1p-1201",
		"NaN", "Nan", "NAN", "nan ", "-nan", "+nan", "nan0", "Inf", "INF", "+inf", "infinity", "-infinity", "--inf", "inf ", " inf", "in",
	}
	for _, s := range wrong {
		if x, ok := impl.ReadNum(s); !same(x, 0) || ok {
			t.Errorf("ReadNum(%q) %v %v, not the zero answer", s, x, ok)
		}
	}
}

func TestReadNumLongTexts(t *testing.T) {
	for _, size := range []int{39, 40, 41, 42, 1000, 100000} {
		for _, s := range []string{
			strings.Repeat("1", size-2) + "p0",
			strings.Repeat("0", size-3) + "1p0",
			"1p" + strings.Repeat("0", size-2),
			"1p-" + strings.Repeat("1", size-3),
			"-" + strings.Repeat("0", size-1),
			"inf" + strings.Repeat(" ", size-3),
			"nan" + strings.Repeat("\x00", size-3),
			strings.Repeat("p", size),
		} {
			if len(s) != size {
				t.Fatalf("a text of %d bytes, not %d", len(s), size)
			}
			if x, ok := impl.ReadNum(s); !same(x, 0) || ok {
				t.Errorf("ReadNum of %d bytes %q.. %v %v, not the zero answer", size, s[:20], x, ok)
			}
		}
	}
	for _, x := range spread() {
		if s := impl.NumText(x); len(s) > 40 {
			t.Fatalf("NumText(%v) is longer than what ReadNum takes", x)
		}
	}
}

// TestReadNumTakesOneFormOnly changes each byte of good texts: what is taken must be the text of what was read.
func TestReadNumTakesOneFormOnly(t *testing.T) {
	for _, x := range inOrder() {
		s := impl.NumText(x)
		for i := range len(s) {
			for b := range 256 {
				changed := s[:i] + string([]byte{byte(b)}) + s[i+1:]
				if y, ok := impl.ReadNum(changed); ok && impl.NumText(y) != changed || !ok && !same(y, 0) {
					t.Fatalf("ReadNum(%s) %v %v", strconv.Quote(changed), y, ok)
				}
			}
			dropped := s[:i] + s[i+1:]
			if y, ok := impl.ReadNum(dropped); ok && impl.NumText(y) != dropped || !ok && !same(y, 0) {
				t.Fatalf("ReadNum(%s) %v %v", strconv.Quote(dropped), y, ok)
			}
		}
	}
}
