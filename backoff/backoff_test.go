package backoff_test

import (
	"math"
	"math/big"
	"slices"
	"testing"

	"cistern/api"
	"cistern/backoff"
)

var (
	inf   = math.Inf(1)
	nan   = math.NaN()
	minus = math.Copysign(0, -1)
)

// set is a setting.
func set(base, factor, most float64) backoff.Setting {
	return backoff.Setting{Base: base, Factor: factor, Cap: most}
}

// delays asks for the delays behind 0, 1, .. that failed.
func delays(t *testing.T, s backoff.Setting, want ...int) {
	t.Helper()
	for failed, w := range want {
		if d := backoff.Delay(s, failed); d != w {
			t.Errorf("Delay(%v, %d) = %d, not %d", s, failed, d, w)
		}
	}
}

func TestDelayExamples(t *testing.T) {
	delays(t, set(1, 2, 10), 0, 1, 2, 4, 8, 10, 10)
	for _, x := range []struct {
		s            backoff.Setting
		failed, want int
	}{
		{set(1, 2, nan), 20, 100000},
		{set(nan, 2, 7), 1, 7},
		{set(1, inf, 5), 2, 5},
		{set(0, inf, 5), 2, 5},
		{set(-1, 2, 10), 1, 0},
		{set(1, 2, minus), 1, 0},
	} {
		if d := backoff.Delay(x.s, x.failed); d != x.want {
			t.Errorf("Delay(%v, %d) = %d, not %d", x.s, x.failed, d, x.want)
		}
	}
}

// TestDelayNone: with nothing that failed there is no delay, whatever the setting.
func TestDelayNone(t *testing.T) {
	for _, s := range settings() {
		for _, failed := range []int{0, -1, -60, math.MinInt, math.MinInt + 1} {
			if d := backoff.Delay(s, failed); d != 0 {
				t.Errorf("Delay(%v, %d) = %d", s, failed, d)
			}
		}
	}
}

func TestDelayEdges(t *testing.T) {
	delays(t, set(3, 1, 50), 0, 3, 3, 3)
	delays(t, set(3, 0, 50), 0, 3, 0, 0)
	delays(t, set(8, 0.5, 50), 0, 8, 4, 2, 1, 0, 0)
	delays(t, set(3, -2, 50), 0, 3, 0, 12, 0, 48, 0, 50)
	delays(t, set(-3, -2, 50), 0, 0, 6, 0, 24)
	delays(t, set(1.5, 1.5, 4.75), 0, 1, 2, 3, 4, 4) // 1.5, 2.25, 3.375, the cap
	delays(t, set(0, 2, 10), 0, 0, 0, 0)
	delays(t, set(inf, 0, 10), 0, 10, 10) // infinity, then no number
	delays(t, set(inf, 0, nan), 0, api.MaxTicks, 0)
	delays(t, set(inf, 0, inf), 0, api.MaxTicks, api.MaxTicks)
	delays(t, set(-inf, 1, 10), 0, 0, 0)
	delays(t, set(nan, nan, nan), 0, 0, 0)
	delays(t, set(1, nan, nan), 0, 1, 0)
	delays(t, set(1, nan, 6), 0, 1, 6)
	delays(t, set(5, 2, -1), 0, 0, 0)
	delays(t, set(5, 2, -inf), 0, 0, 0)
	delays(t, set(5, 2, 0.9), 0, 0, 0)
	delays(t, set(99999.5, 1.00001, inf), 0, 99999, api.MaxTicks, api.MaxTicks)
	delays(t, set(100001, 1, 1e9), 0, api.MaxTicks, api.MaxTicks)
}

// TestDelayCount: the tries that count are as many as gauge's Power does: behind 61 that failed all delays are one.
func TestDelayCount(t *testing.T) {
	s := set(math.Ldexp(1, -58), 2, inf)
	for failed, want := range map[int]int{57: 0, 58: 0, 59: 1, 60: 2, 61: 4, 62: 4, 63: 4, 1000: 4, math.MaxInt: 4} {
		if d := backoff.Delay(s, failed); d != want {
			t.Errorf("Delay(%v, %d) = %d, not %d", s, failed, d, want)
		}
	}
}

// TestDelayRounded: the power is made first, each time rounded, and the base comes last.
func TestDelayRounded(t *testing.T) {
	if d := backoff.Delay(set(1e5, 0.1, inf), 6); d != 1 { // 1e5 times 0.1, 5 times multiplied and rounded, is above 1
		t.Error("Delay", d)
	}
	if d := backoff.Delay(set(1e-300, 1e200, inf), 3); d != api.MaxTicks { // the power is infinite
		t.Error("Delay", d)
	}
	if d := backoff.Delay(set(1e300, 1e-200, inf), 3); d != 0 { // the power is nought
		t.Error("Delay", d)
	}
	if d := backoff.Delay(set(inf, 1e-200, 7), 3); d != 7 { // infinity times nought
		t.Error("Delay", d)
	}
	if d := backoff.Delay(set(inf, 1e-200, nan), 3); d != 0 {
		t.Error("Delay", d)
	}
}

// settings are all of some numbers in all places of a setting.
func settings() []backoff.Setting {
	all := []float64{-inf, -1e300, -2, -0.5, minus, 0, math.SmallestNonzeroFloat64, 1e-5, 0.3, 0.9999, 1, 1.1, 2, 7.5, 1000, 99999.9, 100000, 100001, 1e300, inf, nan}
	var out []backoff.Setting
	for _, base := range all {
		for _, factor := range all {
			for _, most := range all {
				out = append(out, set(base, factor, most))
			}
		}
	}
	return out
}

// counts are how many may have failed.
func counts() []int {
	return []int{-1, 0, 1, 2, 3, 5, 17, 59, 60, 61, 62, 100, math.MaxInt}
}

// times: a product that is rounded once, told by exact numbers where both are numbers above or below nought.
func times(a, b float64) float64 {
	switch {
	case math.IsNaN(a) || math.IsNaN(b):
		return nan
	case math.IsInf(a, 0) && b == 0 || a == 0 && math.IsInf(b, 0):
		return nan
	case math.IsInf(a, 0) || math.IsInf(b, 0):
		return math.Copysign(inf, sign(a)*sign(b))
	case a == 0 || b == 0:
		return math.Copysign(0, sign(a)*sign(b))
	}
	product := new(big.Float).SetPrec(200).Mul(big.NewFloat(a), big.NewFloat(b))
	out, _ := product.Float64()
	return out
}

func sign(x float64) float64 {
	if math.Signbit(x) {
		return -1
	}
	return 1
}

// plain is the delay by the chapter's words, without gauge.
func plain(s backoff.Setting, failed int) int {
	if failed <= 0 {
		return 0
	}
	power := 1.0
	for range min(failed-1, 60) {
		power = times(power, s.Factor)
	}
	x := times(s.Base, power)
	if math.IsNaN(x) || s.Cap < x { // what is no number is behind all
		x = s.Cap
	}
	switch {
	case x >= 100000:
		return 100000
	case x >= 0:
		return int(math.Floor(x))
	}
	return 0
}

// TestDelayAll holds all settings against the chapter's words, and each delay against its bounds.
func TestDelayAll(t *testing.T) {
	for _, s := range settings() {
		for _, failed := range counts() {
			d := backoff.Delay(s, failed)
			if want := plain(s, failed); d != want {
				t.Fatalf("Delay(%v, %d) = %d, not %d", s, failed, d, want)
			}
			if d < 0 || d > api.MaxTicks || s.Cap >= 0 && float64(d) > s.Cap {
				t.Fatalf("Delay(%v, %d) = %d is out of bounds", s, failed, d)
			}
		}
	}
}

func TestDue(t *testing.T) {
	s := set(1, 2, 10)
	for _, x := range []struct {
		now, failed, want int
		e                 api.Errno
	}{
		{0, 0, 0, api.OK},
		{0, 4, 8, api.OK},
		{100, -7, 100, api.OK},
		{100, math.MinInt, 100, api.OK},
		{100, 1, 101, api.OK},
		{100, 1000, 110, api.OK},
		{1<<40 - 1, 3, 1<<40 + 3, api.OK},
		{1 << 40, 0, 1 << 40, api.OK},
		{1 << 40, 5, 1<<40 + 10, api.OK},
		{1<<40 + 1, 0, 0, api.ErrArg},
		{-1, 0, 0, api.ErrArg},
		{-1, 4, 0, api.ErrArg},
		{math.MaxInt, 4, 0, api.ErrArg},
		{math.MinInt, 4, 0, api.ErrArg},
	} {
		if d, e := backoff.Due(s, x.now, x.failed); d != x.want || e != x.e {
			t.Errorf("Due(%d, %d) = %d, %d, not %d, %d", x.now, x.failed, d, e, x.want, x.e)
		}
	}
	for _, s := range settings() {
		if d, e := backoff.Due(s, 50, 3); d != 50+plain(s, 3) || e != api.OK {
			t.Fatalf("Due(%v, 50, 3) = %d, %d", s, d, e)
		}
	}
}

// plans asks for a plan.
func plans(t *testing.T, s backoff.Setting, now, tries int, want ...int) {
	t.Helper()
	got, e := backoff.Plan(s, now, tries)
	if e != api.OK || !slices.Equal(got, want) {
		t.Errorf("Plan(%v, %d, %d) = %v, %d, not %v", s, now, tries, got, e, want)
	}
}

func TestPlan(t *testing.T) {
	plans(t, set(1, 2, 10), 100, 5, 100, 101, 103, 107, 115)
	plans(t, set(1, 2, 10), 0, 7, 0, 1, 3, 7, 15, 25, 35)
	plans(t, set(1, 2, 10), 100, 0)
	plans(t, set(1, 2, 10), 100, 1, 100)
	plans(t, set(1, 2, 10), 1<<40, 3, 1<<40, 1<<40+1, 1<<40+3)
	plans(t, set(nan, nan, nan), 5, 3, 5, 5, 5)
	plans(t, set(inf, 2, inf), 5, 3, 5, 100005, 200005)
	plans(t, set(-1, -2, 3), 5, 5, 5, 5, 7, 7, 10)
}

// TestPlanLong: as many tries as are allowed.
func TestPlanLong(t *testing.T) {
	for _, s := range []backoff.Setting{set(1, 1.2, 5000), set(1, inf, inf), set(0.5, 1.01, nan)} {
		got, e := backoff.Plan(s, 7, 1000)
		if e != api.OK || len(got) != 1000 || got[0] != 7 {
			t.Fatal("Plan", len(got), e)
		}
		for k := 1; k < 1000; k++ {
			if want := got[k-1] + plain(s, k); got[k] != want {
				t.Fatalf("Plan(%v): try %d at %d, not %d", s, k, got[k], want)
			}
		}
	}
}

func TestPlanWrong(t *testing.T) {
	s := set(1, 2, 10)
	for _, x := range [][2]int{{-1, 5}, {1<<40 + 1, 5}, {math.MinInt, 0}, {math.MaxInt, 0}, {0, -1}, {0, 1001}, {0, math.MinInt}, {0, math.MaxInt}, {-1, -1}, {math.MaxInt, math.MaxInt}} {
		if l, e := backoff.Plan(s, x[0], x[1]); len(l) != 0 || e != api.ErrArg {
			t.Errorf("Plan(%d, %d) = %v, %d", x[0], x[1], l, e)
		}
	}
}

// TestPlanMemory: who writes into an answer changes no other one.
func TestPlanMemory(t *testing.T) {
	a, _ := backoff.Plan(set(1, 2, 10), 100, 5)
	for i := range a {
		a[i] = -1
	}
	plans(t, set(1, 2, 10), 100, 5, 100, 101, 103, 107, 115)
}
