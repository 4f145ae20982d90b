package float_test

import (
	"math"
	"math/big"
	"math/rand"
	"strconv"
	"strings"
	"testing"

	"ullage/api"
	"ullage/float"
)

const (
	sign = uint64(1) << 63
	inf  = uint64(0x7FF0000000000000)
	nan  = uint64(0x7FF8000000000000)
)

// ordered are the bits of floats in the total order.
func ordered() []uint64 {
	up := []uint64{0, 1, 2, 1<<52 - 1, 1 << 52, 1<<52 + 1, 0x3FF0000000000000, 0x3FF0000000000001, 0x4000000000000000, inf - 1, inf, inf + 1, nan - 1, nan, nan + 1, inf | (1<<52 - 1)}
	var l []uint64
	for i := len(up) - 1; i >= 0; i-- {
		l = append(l, sign|up[i])
	}
	return append(l, up...)
}

func several() []uint64 {
	l := ordered()
	r := rand.New(rand.NewSource(2))
	for range 2000 {
		b := r.Uint64()
		l = append(l, b, b&^(0x7FF<<52), b|inf)
	}
	return l
}

func TestBits(t *testing.T) {
	for _, b := range several() {
		f := float.Of(b)
		if float.Bits(f) != b || math.Float64bits(f) != b {
			t.Errorf("%x: bits %x", b, float.Bits(f))
		}
		if float.Sign(f) != (b>>63 == 1) {
			t.Errorf("%x: sign", b)
		}
		want := b
		if math.IsNaN(f) {
			want = nan
		}
		if got := float.Bits(float.Canon(f)); got != want {
			t.Errorf("%x: canonical %x", b, got)
		}
	}
}

func TestKind(t *testing.T) {
	if float.Zero != 0 || float.Small != 1 || float.Plain != 2 || float.Infinite != 3 || float.NaN != 4 {
		t.Error("numbers of kinds")
	}
	for _, b := range several() {
		e, m := b>>52&0x7FF, b&(1<<52-1)
		want := float.Plain
		switch {
		case e == 0 && m == 0:
			want = float.Zero
		case e == 0:
			want = float.Small
		case e == 0x7FF && m == 0:
			want = float.Infinite
		case e == 0x7FF:
			want = float.NaN
		}
		if got := float.Kind(float.Of(b)); got != want {
			t.Errorf("%x: kind %d, not %d", b, got, want)
		}
	}
}

func TestOrder(t *testing.T) {
	l := ordered()
	for i, a := range l {
		for j, b := range l {
			f, g := float.Of(a), float.Of(b)
			if float.Before(f, g) != (i < j) {
				t.Errorf("Before(%x, %x)", a, b)
			}
			if float.Same(f, g) != (i == j) {
				t.Errorf("Same(%x, %x)", a, b)
			}
		}
	}
	l = several()
	for i := range len(l) - 1 {
		f, g := float.Of(l[i]), float.Of(l[i+1])
		if l[i] != l[i+1] && float.Before(f, g) == float.Before(g, f) {
			t.Errorf("%x and %x are not ordered", l[i], l[i+1])
		}
		if f < g && !float.Before(f, g) {
			t.Errorf("%x and %x against the numbers' order", l[i], l[i+1])
		}
	}
}

func TestUpDown(t *testing.T) {
	for _, c := range []struct{ from, up, down uint64 }{
		{0, 1, sign | 1}, {sign, 1, sign | 1},
		{1, 2, 0}, {sign | 1, sign, sign | 2},
		{inf - 1, inf, inf - 2}, {inf, inf, inf - 1},
		{sign | inf, sign | (inf - 1), sign | inf}, {sign | (inf - 1), sign | (inf - 2), sign | inf},
		{1<<52 - 1, 1 << 52, 1<<52 - 2}, {1 << 52, 1<<52 + 1, 1<<52 - 1},
		{nan, nan, nan}, {inf + 1, inf + 1, inf + 1}, {sign | inf | 5, sign | inf | 5, sign | inf | 5},
	} {
		f := float.Of(c.from)
		if up, down := float.Bits(float.Up(f)), float.Bits(float.Down(f)); up != c.up || down != c.down {
			t.Errorf("%x: up %x, down %x", c.from, up, down)
		}
	}
	for _, b := range several() {
		f := float.Of(b)
		if math.IsNaN(f) || math.IsInf(f, 0) || f == 0 {
			continue
		}
		if float.Up(f) != math.Nextafter(f, math.Inf(1)) || float.Down(f) != math.Nextafter(f, math.Inf(-1)) {
			t.Errorf("%x: neighbours", b)
		}
		if up := float.Up(f); up != 0 && !math.IsInf(up, 0) && !float.Same(float.Down(up), f) {
			t.Errorf("%x: Down of Up", b)
		}
		if down := float.Down(f); down != 0 && !math.IsInf(down, 0) && !float.Same(float.Up(down), f) {
			t.Errorf("%x: Up of Down", b)
		}
	}
}

func TestLeastMost(t *testing.T) {
	zero, odd := float.Of(sign), float.Of(sign|inf|1)
	for _, c := range []struct {
		l           []float64
		least, most uint64
	}{
		{nil, inf, sign | inf},
		{[]float64{0, zero}, sign, 0},
		{[]float64{zero, 0}, sign, 0},
		{[]float64{5}, math.Float64bits(5), math.Float64bits(5)},
		{[]float64{1, -2, 3}, math.Float64bits(-2), math.Float64bits(3)},
		{[]float64{math.Inf(1), math.Inf(-1), 7}, sign | inf, inf},
		{[]float64{1, odd, 2}, nan, nan},
		{[]float64{odd}, nan, nan},
		{[]float64{1, float.Of(inf + 1)}, nan, nan},
	} {
		if got := float.Bits(float.Least(c.l...)); got != c.least {
			t.Errorf("Least(%v) = %x", c.l, got)
		}
		if got := float.Bits(float.Most(c.l...)); got != c.most {
			t.Errorf("Most(%v) = %x", c.l, got)
		}
	}
	l := []float64{3, 1, 2}
	float.Least(l...)
	float.Most(l...)
	if l[0] != 3 || l[1] != 1 || l[2] != 2 {
		t.Error("arguments are modified")
	}
}

func TestText(t *testing.T) {
	for s, b := range map[string]uint64{
		"nan": nan, "inf": inf, "-inf": sign | inf, "0p0": 0, "-0p0": sign, "1p0": 0x3FF0000000000000,
		"3p-1": 0x3FF8000000000000, "-5p0": math.Float64bits(-5), "1p-1074": 1, "-1p-1074": sign | 1,
		"3602879701896397p-55":   math.Float64bits(0.1),
		"9007199254740991p971":   inf - 1,
		"4503599627370495p-1074": 1<<52 - 1, "1p-1022": 1 << 52, "1p1023": math.Float64bits(math.Ldexp(1, 1023)),
	} {
		if got := float.Text(float.Of(b)); got != s {
			t.Errorf("text of %x: %s, not %s", b, got, s)
		}
		if f, e := float.Read(s); e != api.OK || float.Bits(f) != b {
			t.Errorf("%s: read as %x, error %d", s, float.Bits(f), e)
		}
	}
	for _, b := range []uint64{inf + 1, sign | inf | 1, sign | nan, math.MaxUint64} {
		if float.Text(float.Of(b)) != "nan" {
			t.Errorf("text of %x", b)
		}
	}
}

func TestReadInvertsText(t *testing.T) {
	for _, b := range several() {
		f := float.Of(b)
		s := float.Text(f)
		g, e := float.Read(s)
		if e != api.OK || float.Bits(g) != float.Bits(float.Canon(f)) {
			t.Fatalf("%x: %s is read as %x, error %d", b, s, float.Bits(g), e)
		}
		if before, after, ok := strings.Cut(s, "p"); ok {
			m, _ := new(big.Int).SetString(before, 10)
			e, _ := strconv.Atoi(after)
			x := new(big.Float).SetMantExp(new(big.Float).SetInt(m), e)
			if got, _ := x.Float64(); got != f || m.Sign() != 0 && m.Bit(0) == 0 {
				t.Fatalf("%x: the text %s", b, s)
			}
		}
	}
}

func TestReadRefuses(t *testing.T) {
	for _, s := range []string{
		"", " ", "2p0", "1", "p", "1p", "p1", "+1p0", "1p+1", "1p1024", "-nan", "01p0", "1p00", "1p-0", "0p1", "0p-1", "-0p1",
		"1p-1075", "3p1023", "9007199254740993p0", "9007199254740993p-1074", "18446744073709551617p0", "1p99999999999999999999", "1p-99999999999999999999",
		"1p0 ", " 1p0", "1p0p0", "1P0", "NaN", "Inf", "+inf", "infinity", "--1p0", "1_1p0", "0x1p0", "1.5p0", "-", "--inf", "6p-2", "1p971p", "nan ", "1p\x00",
		strings.Repeat("9", 5000) + "p0", "1p" + strings.Repeat("1", 5000),
	} {
		if f, e := float.Read(s); e != api.ErrForm || float.Bits(f) != 0 {
			t.Errorf("%.40q: %x, error %d", s, float.Bits(f), e)
		}
	}
}
