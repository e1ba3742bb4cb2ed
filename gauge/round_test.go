package gauge_test

import (
	"math"
	"math/big"
	"testing"

	"cistern/gauge"
)

// dice tells numbers, the same ones in each run.
type dice uint64

func (r *dice) word() uint64 {
	*r = *r*6364136223846793005 + 1442695040888963407
	high := uint64(*r) >> 32
	*r = *r*6364136223846793005 + 1442695040888963407
	return high<<32 | uint64(*r)>>32
}

func (r *dice) below(n int) int {
	return int(r.word()>>1) % n
}

// number tells one that is no nought and no infinity, with an exponent within a bound.
func (r *dice) number(bound int) float64 {
	x := math.Ldexp(1+float64(r.word()>>12)/(1<<52), r.below(2*bound)-bound)
	if r.below(2) == 0 {
		return -x
	}
	return x
}

// exact is a number with room for sums and products of any of them.
func exact(x float64) *big.Float {
	return new(big.Float).SetPrec(5000).SetFloat64(x)
}

// rounded is the nearest number of 64 bits.
func rounded(x *big.Float) float64 {
	y, _ := x.Float64()
	return y
}

func product(a, b float64) float64 {
	return rounded(exact(a).Mul(exact(a), exact(b)))
}

func sum(a, b float64) float64 {
	return rounded(exact(a).Add(exact(a), exact(b)))
}

func TestPowerIsRoundedEachTime(t *testing.T) {
	var r dice = 1
	atOnce := 0
	for range 2000 {
		x := r.number(16)
		want, whole := 1.0, exact(1)
		for n := range 61 {
			is(t, "Power", gauge.Power(x, n), want)
			if want != rounded(whole) {
				atOnce++
			}
			if math.IsInf(want, 0) || want == 0 {
				break
			}
			want = product(want, x)
			whole.Mul(whole, exact(x))
		}
	}
	if atOnce == 0 {
		t.Error("no number of these tells one rounding from many")
	}
}

// mixed is a mix whose parts are rounded one by one.
func mixed(old, now, weight float64) float64 {
	return sum(old, product(weight, sum(now, -old)))
}

func TestMixIsRoundedEachTime(t *testing.T) {
	var r dice = 2
	fused := 0
	for _, bound := range []int{2, 30, 500} {
		for range 3000 {
			old, now, weight := r.number(bound), r.number(bound), r.number(bound)
			want := mixed(old, now, weight)
			is(t, "Mix", gauge.Mix(old, now, weight), want)
			if math.FMA(weight, now-old, old) != want {
				fused++
			}
		}
	}
	if fused == 0 {
		t.Error("no number of these tells a product that isn't rounded")
	}
}

// The least numbers are rounded to the places that there are.
func TestMixOfLeastNumbers(t *testing.T) {
	var r dice = 3
	for range 3000 {
		old, now := float64(r.below(2000)+1)*least, float64(r.below(2000)+2001)*least
		weight := r.number(3)
		if want := mixed(old, now, weight); want != 0 {
			is(t, "Mix", gauge.Mix(old, now, weight), want)
		}
	}
}
