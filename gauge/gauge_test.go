package gauge_test

import (
	"math"
	"testing"

	"cistern/api"
	"cistern/gauge"
)

const (
	least = math.SmallestNonzeroFloat64
	most  = math.MaxFloat64
)

var (
	inf   = math.Inf(1)
	nan   = math.NaN()
	minus = math.Copysign(0, -1)
)

// rising is a list of numbers, each ahead of the next, the edges among them; behind them all comes NaN.
func rising() []float64 {
	return []float64{
		-inf, -most, math.Nextafter(-most, 0), -1e300, -100001, -2, math.Nextafter(-1, -2), -1, math.Nextafter(-1, 0), -0.5, -1e-300,
		math.Float64frombits(1<<63 | 1<<52), math.Float64frombits(1<<63 | (1<<52 - 1)), -2 * least, -least, minus,
		0, least, 2 * least, math.Float64frombits(1<<52 - 1), math.Float64frombits(1 << 52),
		1e-300, 0.1, 0.5, math.Nextafter(1, 0), 1, math.Nextafter(1, 2), 2, 2.9, 99999.5, 100000, math.Nextafter(100000, inf), 1e9, 1e300, math.Nextafter(most, 0), most, inf, nan,
	}
}

// nans is a list of what is no number.
func nans() []float64 {
	return []float64{nan, math.Copysign(nan, -1), math.Float64frombits(0x7FF0000000000001), math.Float64frombits(0xFFF0000000000001), math.Float64frombits(math.MaxInt64), math.Float64frombits(math.MaxUint64)}
}

// same: are two numbers one, bit by bit? All NaN are one.
func same(a, b float64) bool {
	return math.IsNaN(a) && math.IsNaN(b) || math.Float64bits(a) == math.Float64bits(b)
}

// is asks for a number.
func is(t *testing.T, what string, got, want float64) {
	t.Helper()
	if !same(got, want) {
		t.Errorf("%s: %g (%x), not %g (%x)", what, got, math.Float64bits(got), want, math.Float64bits(want))
	}
}

func TestKey(t *testing.T) {
	for _, x := range []struct {
		x   float64
		key int
	}{
		{0, 0},
		{minus, -1},
		{least, 1},
		{2 * least, 2},
		{-least, -2},
		{-2 * least, -3},
		{1, 4607182418800017408},
		{-1, -4607182418800017409},
		{most, 9218868437227405311},
		{-most, -9218868437227405312},
		{inf, 9218868437227405312},
		{-inf, -9218868437227405313},
	} {
		if k := gauge.Key(x.x); k != x.key {
			t.Errorf("Key(%g) = %d, not %d", x.x, k, x.key)
		}
		got, e := gauge.Of(x.key)
		is(t, "Of", got, x.x)
		if e != api.OK {
			t.Error("Of", x.key, e)
		}
	}
	for _, x := range nans() {
		if k := gauge.Key(x); k != math.MaxInt64 {
			t.Errorf("Key(%x) = %d", math.Float64bits(x), k)
		}
	}
}

// The number behind another has the key behind.
func TestKeysOfNeighbours(t *testing.T) {
	for _, x := range rising() {
		if math.IsNaN(x) || math.IsInf(x, 1) {
			continue
		}
		next := math.Nextafter(x, inf)
		if same(x, minus) {
			next = 0
		} else if same(x, -least) {
			next = minus
		}
		if gauge.Key(next) != gauge.Key(x)+1 {
			t.Errorf("%g and %g: %d, %d", x, next, gauge.Key(x), gauge.Key(next))
		}
	}
}

func TestOf(t *testing.T) {
	for _, x := range rising() {
		got, e := gauge.Of(gauge.Key(x))
		is(t, "Of its key", got, x)
		if e != api.OK {
			t.Error("Of", x, e)
		}
	}
	for _, key := range []int{
		9218868437227405313, 9218868437227405314, 1<<63 - 2,
		-9218868437227405314, -9218868437227405315, math.MinInt, math.MinInt + 1,
	} {
		got, e := gauge.Of(key)
		is(t, "Of nobody's key", got, 0)
		if e != api.ErrArg {
			t.Error("Of", key, e)
		}
	}
	if x, e := gauge.Of(math.MaxInt64); !math.IsNaN(x) || e != api.OK {
		t.Error("Of that of NaN", x, e)
	}
}

// Every key between the infinities', and no other, is somebody's.
func TestOfOfMany(t *testing.T) {
	var r dice = 1
	for range 100000 {
		key := int(r.word())
		if r.below(4) == 0 {
			key >>= r.below(64)
		}
		x, e := gauge.Of(key)
		if key > gauge.Key(inf) && key != math.MaxInt64 || key < gauge.Key(-inf) {
			is(t, "Of nobody's key", x, 0)
			if e != api.ErrArg {
				t.Fatal("Of", key, e)
			}
		} else if e != api.OK || gauge.Key(x) != key {
			t.Fatal("Of", key, x, gauge.Key(x), e)
		}
	}
}

func TestOrder(t *testing.T) {
	l := rising()
	for i, a := range l {
		for j, b := range l {
			want, low, high := 0, a, a
			if i < j {
				want, low, high = -1, a, b
			} else if i > j {
				want, low, high = 1, b, a
			}
			if n := gauge.Cmp(a, b); n != want {
				t.Errorf("Cmp(%g, %g) = %d", a, b, n)
			}
			is(t, "Least", gauge.Least(a, b), low)
			is(t, "Most", gauge.Most(a, b), high)
		}
	}
}

// What is no number is one, and stands behind all, whatever its bits are.
func TestOrderOfNaN(t *testing.T) {
	for _, a := range nans() {
		for _, b := range nans() {
			if n := gauge.Cmp(a, b); n != 0 {
				t.Errorf("Cmp of two NaN = %d", n)
			}
			is(t, "Least", gauge.Least(a, b), nan)
			is(t, "Most", gauge.Most(a, b), nan)
		}
		for _, b := range []float64{-inf, -1, minus, 0, 3, inf} {
			if gauge.Cmp(a, b) != 1 || gauge.Cmp(b, a) != -1 {
				t.Errorf("Cmp of NaN and %g = %d, %d", b, gauge.Cmp(a, b), gauge.Cmp(b, a))
			}
			is(t, "Least", gauge.Least(a, b), b)
			is(t, "Least", gauge.Least(b, a), b)
			is(t, "Most", gauge.Most(a, b), nan)
			is(t, "Most", gauge.Most(b, a), nan)
		}
	}
}

func TestClamp(t *testing.T) {
	for _, x := range []struct {
		x, lo, hi, want float64
	}{
		{nan, 0, 9, 9},
		{5, 0, 9, 5},
		{-5, 0, 9, 0},
		{50, 0, 9, 9},
		{0, 0, 9, 0},
		{9, 0, 9, 9},
		{minus, 0, 9, 0},
		{0, -9, minus, minus},
		{minus, minus, 0, minus},
		{0, minus, 0, 0},
		{inf, 0, 9, 9},
		{-inf, 0, 9, 0},
		{-inf, -inf, inf, -inf},
		{nan, -inf, inf, inf},
		{nan, 3, nan, nan},
		{5, 3, nan, 5},
		{1, 3, nan, 3},
		{5, nan, nan, nan},
		{nan, nan, nan, nan},
		{5, 7, 7, 7},
		{9, 7, 7, 7},
	} {
		got, e := gauge.Clamp(x.x, x.lo, x.hi)
		is(t, "Clamp", got, x.want)
		if e != api.OK {
			t.Errorf("Clamp(%g, %g, %g): %d", x.x, x.lo, x.hi, e)
		}
	}
	for _, x := range [][3]float64{{5, 9, 0}, {5, 0, minus}, {0, nan, 3}, {nan, nan, inf}, {nan, 9, 0}, {inf, inf, -inf}, {0, least, 0}} {
		got, e := gauge.Clamp(x[0], x[1], x[2])
		is(t, "Clamp between none", got, 0)
		if e != api.ErrArg {
			t.Errorf("Clamp%v: %d", x, e)
		}
	}
}

// Between any two ends of the list a number is clamped as its place in the list says.
func TestClampOfAll(t *testing.T) {
	l := rising()
	for i, x := range l {
		for j, lo := range l {
			for k, hi := range l {
				got, e := gauge.Clamp(x, lo, hi)
				switch {
				case j > k:
					is(t, "Clamp between none", got, 0)
					if e != api.ErrArg {
						t.Errorf("Clamp(%g, %g, %g): %d", x, lo, hi, e)
					}
				case e != api.OK || !same(got, l[min(max(i, j), k)]):
					t.Errorf("Clamp(%g, %g, %g) = %g, %d", x, lo, hi, got, e)
				}
			}
		}
	}
}

func TestTicks(t *testing.T) {
	for _, x := range []struct {
		x    float64
		want int
	}{
		{2.9, 2}, {-0.5, 0}, {nan, 0}, {inf, 100000},
		{0, 0}, {minus, 0}, {least, 0}, {-least, 0}, {0.5, 0}, {math.Nextafter(1, 0), 0}, {1, 1}, {1.5, 1}, {2.5, 2}, {3, 3},
		{-1, 0}, {-1.5, 0}, {-100000, 0}, {-1e300, 0}, {-inf, 0}, {-most, 0},
		{99999, 99999}, {99999.5, 99999}, {math.Nextafter(100000, 0), 99999}, {100000, 100000}, {math.Nextafter(100000, inf), 100000}, {100000.5, 100000}, {100001, 100000},
		{1e18, 100000}, {1e19, 100000}, {1e300, 100000}, {most, 100000},
	} {
		if n := gauge.Ticks(x.x); n != x.want {
			t.Errorf("Ticks(%g) = %d, not %d", x.x, n, x.want)
		}
	}
	for _, x := range nans() {
		if n := gauge.Ticks(x); n != 0 {
			t.Errorf("Ticks(%x) = %d", math.Float64bits(x), n)
		}
	}
	for n := range api.MaxTicks {
		if gauge.Ticks(float64(n)) != n || gauge.Ticks(float64(n)+0.75) != n {
			t.Fatal("Ticks", n)
		}
	}
}

func TestPower(t *testing.T) {
	for _, x := range []struct {
		x    float64
		n    int
		want float64
	}{
		{2, 10, 1024}, {0.1, 2, 0.010000000000000002}, {minus, 1, minus}, {inf, 0, 1},
		{2, 0, 1}, {2, 1, 2}, {-2, 3, -8}, {-2, 4, 16}, {0.5, 60, 1.0 / (1 << 60)},
		{nan, 0, 1}, {nan, 1, nan}, {nan, -1, 1}, {0, 0, 1}, {0, 1, 0}, {minus, 0, 1}, {minus, 2, 0}, {minus, 3, minus},
		{inf, 1, inf}, {-inf, 1, -inf}, {-inf, 2, inf}, {-inf, 3, -inf}, {-inf, 60, inf},
		{2, -1, 1}, {2, -60, 1}, {2, math.MinInt, 1}, {0, -5, 1},
		{2, 59, 1 << 59}, {2, 60, 1 << 60}, {2, 61, 1 << 60}, {2, 1000, 1 << 60}, {2, math.MaxInt, 1 << 60}, {-1, 61, 1}, {-1, math.MaxInt, 1},
		{1e10, 31, inf}, {-1e10, 31, -inf}, {-1e10, 32, inf}, {1e-10, 33, 0}, {-1e-10, 33, minus}, {-1e-10, 34, 0},
		{most, 1, most}, {most, 2, inf}, {least, 1, least}, {least, 2, 0}, {-least, 1, -least},
	} {
		is(t, "Power", gauge.Power(x.x, x.n), x.want)
	}
}

func TestMix(t *testing.T) {
	for _, x := range []struct {
		old, now, weight, want float64
	}{
		{1, 3, 0.5, 2}, {inf, inf, 1, nan},
		{1, 3, 0, 1}, {1, 3, 1, 3}, {3, 1, 0.25, 2.5}, {1, 3, -1, -1}, {1, 3, 2, 5},
		{inf, 3, 1, nan}, {inf, 3, 0.5, nan}, {inf, 3, -1, inf}, {3, inf, 1, inf}, {3, -inf, 1, -inf}, {3, inf, -1, -inf}, {3, inf, 0, nan}, {3, inf, minus, nan},
		{-inf, inf, 1, nan}, {-inf, -inf, 1, nan}, {inf, -inf, 0.5, nan}, {3, 3, inf, nan}, {3, 4, inf, inf}, {4, 3, inf, -inf},
		{nan, 1, 0.5, nan}, {1, nan, 0.5, nan}, {1, 3, nan, nan}, {1, nan, 0, nan}, {1, 1, nan, nan},
		{0, 0, 1, 0}, {minus, minus, 1, 0}, {minus, minus, -1, minus}, {minus, 0, 1, 0}, {0, minus, 1, 0}, {minus, 1, minus, minus}, {minus, 1, 0, 0}, {0, 1, minus, 0}, {1, 1, -1, 1}, {1, 0, 1, 0},
		{-most, most, 0.5, inf}, {most, -most, 0.5, -inf}, {-most, most, 0, nan}, {most, 0, -1, inf},
		{0, 2 * least, 0.5, least}, {0, least, 0.5, 0}, {0, 3 * least, 0.5, 2 * least}, {0, -least, 0.5, 0}, {minus, -least, 0.5, minus}, {minus, -3 * least, 0.5, -2 * least},
		{1, 1.0 / (1 << 53), 1, 1.0 / (1 << 53)},
		{1, 1.0 / (1 << 54), 1, 0},
	} {
		got := gauge.Mix(x.old, x.now, x.weight)
		if !same(got, x.want) {
			t.Errorf("Mix(%g, %g, %g) = %g, not %g", x.old, x.now, x.weight, got, x.want)
		}
	}
}
