package impl

import (
	"math"
	"math/bits"
	"strconv"
	"strings"
)

const (
	KdNan = iota
	KdInf
	KdZero
	KdWhole
	KdPart
)

const (
	manBits       = 53
	leastExp      = -1074
	endOfExp      = 1024
	mostNumExp    = 1200
	mostIndexMany = 1000
	mostNumText   = 40
)

const (
	textNan      = "nan"
	textInf      = "inf"
	textLessInf  = "-inf"
	textZero     = "0"
	textLessZero = "-0"
	textBetween  = "p"
)

func KindOf(x float64) int {
	switch {
	case math.IsNaN(x):
		return KdNan
	case math.IsInf(x, 0):
		return KdInf
	case x == 0:
		return KdZero
	case x == math.Trunc(x):
		return KdWhole
	}
	return KdPart
}

// IsMinus asks for NaN first: a NaN may have the sign bit set, and is still not below 0.
func IsMinus(x float64) bool {
	return !math.IsNaN(x) && math.Signbit(x)
}

// SameNum looks at the bits, since == holds 0 and -0 to be one, and NaN to be none.
func SameNum(x float64, y float64) bool {
	if math.IsNaN(x) || math.IsNaN(y) {
		return math.IsNaN(x) && math.IsNaN(y)
	}
	return math.Float64bits(x) == math.Float64bits(y)
}

func CompareNum(x float64, y float64) int {
	switch {
	case SameNum(x, y):
		return 0
	case math.IsNaN(x):
		return 1
	case math.IsNaN(y), x < y:
		return -1
	case x > y:
		return 1
	case IsMinus(x): // what is left are the two zeros, which < does not tell apart
		return -1
	}
	return 1
}

func LeastNum(x float64, y float64) float64 {
	if CompareNum(x, y) > 0 {
		return y
	}
	return x
}

func PartsOf(x float64) (int, int, bool) {
	if kind := KindOf(x); kind != KdWhole && kind != KdPart {
		return 0, 0, false
	}
	frac, exp := math.Frexp(x)
	man := int(frac * (1 << manBits))
	even := bits.TrailingZeros64(uint64(man))
	return man >> even, exp - manBits + even, true
}

func NumOf(man int, exp int) (float64, bool) {
	if man&1 == 0 || man <= -1<<manBits || man >= 1<<manBits {
		return 0, false
	}
	// The bounds of exp are held to ahead of the sum below, which could wrap round.
	if exp < -mostNumExp || exp > mostNumExp {
		return 0, false
	}
	// An odd man needs its lowest and its highest bit in the range of the type, else it would be rounded.
	if exp < leastExp || exp+bits.Len64(sizeOf(man)) > endOfExp {
		return 0, false
	}
	return math.Ldexp(float64(man), exp), true
}

func sizeOf(n int) uint64 {
	if n < 0 {
		return -uint64(n)
	}
	return uint64(n)
}

func ToIndex(x float64, many int) (int, bool) {
	if many < 1 || many > mostIndexMany {
		return 0, false
	}
	if kind := KindOf(x); kind != KdZero && kind != KdWhole {
		return 0, false
	}
	if x < 0 || x >= float64(many) {
		return 0, false
	}
	return int(x), true
}

func NumText(x float64) string {
	switch KindOf(x) {
	case KdNan:
		return textNan
	case KdInf:
		if IsMinus(x) {
			return textLessInf
		}
		return textInf
	case KdZero:
		if IsMinus(x) {
			return textLessZero
		}
		return textZero
	}
	man, exp, _ := PartsOf(x)
	return strconv.Itoa(man) + textBetween + strconv.Itoa(exp)
}

func ReadNum(s string) (float64, bool) {
	switch s {
	case textNan:
		return math.NaN(), true
	case textInf:
		return math.Inf(1), true
	case textLessInf:
		return math.Inf(-1), true
	case textZero:
		return 0, true
	case textLessZero:
		return math.Copysign(0, -1), true
	}
	if len(s) > mostNumText {
		return 0, false
	}
	return readParts(s)
}

// readParts holds the text against NumText in the end, since Atoi takes more forms than the one (+5, 05).
func readParts(s string) (float64, bool) {
	left, right, _ := strings.Cut(s, textBetween)
	man, manErr := strconv.Atoi(left)
	exp, expErr := strconv.Atoi(right)
	if manErr != nil || expErr != nil {
		return 0, false
	}
	x, ok := NumOf(man, exp)
	if !ok || NumText(x) != s {
		return 0, false
	}
	return x, true
}
