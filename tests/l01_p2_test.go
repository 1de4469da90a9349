package tests

import (
	"math"
	"math/big"
	"testing"

	"loop.example/g01091/impl"
)

// exact is the residue of a number of any size, from 0 to P - 1.
func exact(n *big.Int) int64 {
	return new(big.Int).Mod(n, big.NewInt(impl.P)).Int64()
}

func TestP2Codes(t *testing.T) {
	names := []string{"ok", "invalid", "range", "limit", "state", "syntax", "zero", "budget", "proof", "notfound"}
	codes := []int64{
		impl.OK, impl.ErrInvalid, impl.ErrRange, impl.ErrLimit, impl.ErrState,
		impl.ErrSyntax, impl.ErrZero, impl.ErrBudget, impl.ErrProof, impl.ErrNotFound,
	}
	for k, code := range codes {
		if code != int64(k) || impl.CodeName(code) != names[k] {
			t.Errorf("the code %d is %d with the name %q, want %q", k, code, impl.CodeName(code), names[k])
		}
	}
	for _, code := range []int64{-1, 10, 11, 256, 1 << 32, math.MaxInt64, math.MinInt64} {
		if name := impl.CodeName(code); name != "" {
			t.Errorf("the code %d has the name %q", code, name)
		}
	}
	if impl.P != 1000003 || impl.MaxOrder != 12 {
		t.Errorf("P is %d and MaxOrder is %d", impl.P, impl.MaxOrder)
	}
}

func TestP2Examples(t *testing.T) {
	half, code := impl.Inverse(2)
	same(t, "examples", []int64{impl.Residue(-1), impl.Times(1000002, 1000002), half, code}, []int64{1000002, 1, 500002, 0})
}

func TestP2Residues(t *testing.T) {
	for _, n := range extremes() {
		if have, want := impl.Residue(n), exact(big.NewInt(n)); have != want {
			t.Errorf("Residue(%d) is %d, want %d", n, have, want)
		}
	}
}

func TestP2SumsAndProducts(t *testing.T) {
	for _, a := range extremes() {
		for _, b := range extremes() {
			sum := exact(new(big.Int).Add(big.NewInt(a), big.NewInt(b)))
			product := exact(new(big.Int).Mul(big.NewInt(a), big.NewInt(b)))
			if have := impl.Plus(a, b); have != sum {
				t.Errorf("Plus(%d, %d) is %d, want %d", a, b, have, sum)
			}
			if have := impl.Times(a, b); have != product {
				t.Errorf("Times(%d, %d) is %d, want %d", a, b, have, product)
			}
		}
	}
}

func TestP2Powers(t *testing.T) {
	for _, a := range extremes() {
		product := int64(1)
		for n := range int64(40) {
			if have := impl.Power(a, n); have != product {
				t.Errorf("Power(%d, %d) is %d, want %d", a, n, have, product)
			}
			product = impl.Times(product, a)
		}
		for _, n := range extremes() {
			want := int64(0)
			if n >= 0 {
				want = new(big.Int).Exp(big.NewInt(impl.Residue(a)), big.NewInt(n), big.NewInt(impl.P)).Int64()
			}
			if have := impl.Power(a, n); have != want {
				t.Errorf("Power(%d, %d) is %d, want %d", a, n, have, want)
			}
		}
	}
}

func TestP2PowersOfZeroAndBelowZero(t *testing.T) {
	have := []int64{
		impl.Power(0, 0), impl.Power(impl.P, 0), impl.Power(7, 0), impl.Power(0, 1), impl.Power(0, math.MaxInt64),
		impl.Power(1, -1), impl.Power(7, -1), impl.Power(0, -1), impl.Power(7, math.MinInt64),
	}
	same(t, "powers", have, []int64{1, 1, 1, 0, 0, 0, 0, 0, 0})
}

func TestP2EveryResidueButZeroHasAnInverse(t *testing.T) {
	for a := int64(1); a < impl.P; a += 37 {
		checkInverse(t, a)
	}
	for _, a := range extremes() {
		if a%impl.P != 0 {
			checkInverse(t, a)
		}
	}
}

func checkInverse(t *testing.T, a int64) {
	t.Helper()
	x, code := impl.Inverse(a)
	if code != impl.OK || x < 0 || x >= impl.P || impl.Times(a, x) != 1 {
		t.Errorf("Inverse(%d) is %d with the code %d", a, x, code)
	}
	back, code := impl.Inverse(x)
	if code != impl.OK || back != impl.Residue(a) {
		t.Errorf("the inverse of Inverse(%d) is %d with the code %d", a, back, code)
	}
}

func TestP2ZeroHasNoInverse(t *testing.T) {
	for _, a := range []int64{0, impl.P, -impl.P, 2 * impl.P, impl.P * impl.P, -impl.P * impl.P, math.MaxInt64 / impl.P * impl.P} {
		if x, code := impl.Inverse(a); x != 0 || code != impl.ErrZero {
			t.Errorf("Inverse(%d) is %d with the code %d", a, x, code)
		}
	}
}
