package field_test

import (
	"math/rand"
	"testing"

	"storehouse/field"
)

// P6.4: sums and products may be reckoned in any order, and a product of a sum is the sum of the products: every three numbers.
func TestAnyOrder(t *testing.T) {
	for i := range 256 * 256 {
		a, b := byte(i/256), byte(i)
		sum, product := field.Add(a, b), field.Mul(a, b)
		if field.Add(b, a) != sum || field.Mul(b, a) != product {
			t.Fatal("order:", a, b)
		}
		for j := range 256 {
			c := byte(j)
			ac, bc := field.Mul(a, c), field.Mul(b, c)
			if field.Add(sum, c) != field.Add(a, field.Add(b, c)) || field.Mul(product, c) != field.Mul(a, bc) || field.Mul(sum, c) != field.Add(ac, bc) {
				t.Fatal("order:", a, b, c)
			}
		}
	}
}

// P6.4: what 0 and 1 do, that each number is its own opposite, that each but 0 has an inverse, and that a product is 0 just if one of both is.
func TestNoughtAndOne(t *testing.T) {
	for i := range 256 {
		a := byte(i)
		if field.Add(a, 0) != a || field.Add(a, a) != 0 || field.Mul(a, 1) != a || field.Mul(a, 0) != 0 {
			t.Error("0 and 1:", a)
		}
		inverse, ok := field.Inv(a)
		if ok != (a != 0) || ok && field.Mul(a, inverse) != 1 {
			t.Error("Inv:", a, inverse, ok)
		}
		for j := range 256 {
			if b := byte(j); (field.Mul(a, b) == 0) != (a == 0 || b == 0) {
				t.Error("a product:", a, b)
			}
		}
	}
}

// P6.4: dividing and multiplying undo each other.
func TestDivAndMul(t *testing.T) {
	for i := range 256 * 256 {
		a, b := byte(i/256), byte(i)
		if b == 0 {
			continue
		}
		quotient, ok := field.Div(a, b)
		again, ok2 := field.Div(field.Mul(a, b), b)
		if !ok || !ok2 || field.Mul(quotient, b) != a || again != a {
			t.Error(a, b, quotient, again)
		}
	}
}

// P6.4: Exp has each number but 0 once in 255, from wherever on.
func TestExpHasAll(t *testing.T) {
	for _, from := range []int{0, 1, 254, 255, -1, -255, -1000, 12345} {
		var seen [256]int
		for n := range 255 {
			seen[field.Exp(from+n)]++
		}
		for a, times := range seen {
			if a == 0 && times != 0 || a != 0 && times != 1 {
				t.Error("from", from, "on:", a, times, "times")
			}
		}
	}
}

// P6.4: Log of a product is the sum of the Logs modulo 255; Log and Exp are there and back.
func TestLogOfProduct(t *testing.T) {
	for i := range 255 {
		a := byte(i + 1)
		n, ok := field.Log(a)
		if !ok || n < 0 || n > 254 || field.Exp(n) != a {
			t.Fatal("Log:", a, n, ok)
		}
		for j := range 255 {
			b := byte(j + 1)
			m, _ := field.Log(b)
			if both, ok := field.Log(field.Mul(a, b)); both != (n+m)%255 || !ok {
				t.Error("Log of a product:", a, b, both, ok)
			}
		}
	}
}

// P6.4: Pow(a, 255) is 1 of each a but 0; so only n modulo 255 counts, and the times of a product of powers are added.
func TestPowComesRound(t *testing.T) {
	r := rand.New(rand.NewSource(2))
	for i := range 255 {
		a := byte(i + 1)
		if field.Pow(a, 255) != 1 || field.Pow(a, 0) != 1 || field.Pow(a, 1) != a {
			t.Error("Pow:", a)
		}
		for range 100 {
			n, m := r.Intn(1<<32)-1<<31, r.Intn(1<<32)-1<<31
			if field.Mul(field.Pow(a, n), field.Pow(a, m)) != field.Pow(a, n+m) || field.Pow(a, n+255) != field.Pow(a, n) {
				t.Error("Pow:", a, n, m)
			}
			if inverse, _ := field.Inv(field.Pow(a, n)); inverse != field.Pow(a, -n) {
				t.Error("Pow:", a, -n)
			}
		}
	}
}

// P6.3, P6.4: a text taken again undoes it, and times are added.
func TestScaleAgain(t *testing.T) {
	r := rand.New(rand.NewSource(3))
	to, of := anyText(r, 64), anyText(r, 64)
	for i := range 256 * 256 {
		a, b := byte(i/256), byte(i)
		once, _ := field.Scale(to, of, a)
		twice, ok := field.Scale(once, of, b)
		if both, _ := field.Scale(to, of, field.Add(a, b)); twice != both || !ok {
			t.Fatal(a, b)
		}
		if a == b && twice != to {
			t.Fatal(a)
		}
	}
}
