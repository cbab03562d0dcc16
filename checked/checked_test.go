package checked

import (
	"math"
	"math/big"
	"strings"
	"testing"
)

const (
	most  = math.MaxInt64
	least = math.MinInt64
)

// edges returns numbers around 0, around each power of two and its negative,
// around the square root of 2^63, and a few ordinary ones.
func edges() []int {
	l := []int{0, 1, -1, 3, -7, 35, 200, -1000003, 123456789012345, 3037000499, 3037000500, -3037000500, least, least + 1, most, most - 1}
	for i := 1; i < 63; i++ {
		p := 1 << i
		l = append(l, p-1, p, p+1, -p-1, -p, -p+1)
	}
	return l
}

// wide returns the arguments that a count may wrongly have, and all right ones.
func wide() []int {
	l := []int{least, least + 1, -1 << 32, -64, -1, 1 << 31, 1 << 32, 1<<32 + 1, 1 << 61, 1<<61 + 1, most}
	for i := range 70 {
		l = append(l, i)
	}
	return l
}

func number(a int) *big.Int { return big.NewInt(int64(a)) }

func power(n int) *big.Int { return new(big.Int).Lsh(big.NewInt(1), uint(n)) }

// fitsBig is the chapter's meaning of 'fits', told with numbers of any size.
func fitsBig(x *big.Int, bits int) bool {
	half := power(bits - 1)
	return x.Cmp(new(big.Int).Neg(half)) >= 0 && x.Cmp(half) < 0
}

// expect fails unless got, ok is the number x where it fits, else 0, false.
func expect(t *testing.T, promise string, x *big.Int, got int, ok bool, args ...int) {
	t.Helper()
	want, fits := 0, fitsBig(x, 64)
	if fits {
		want = int(x.Int64())
	}
	if got != want || ok != fits {
		t.Errorf("%s: %v: got %d %v, want %d %v", promise, args, got, ok, want, fits)
	}
}

func TestAddSubNeg(t *testing.T) {
	for _, a := range edges() {
		n, ok := Neg(a)
		expect(t, "A1 Neg", new(big.Int).Neg(number(a)), n, ok, a)
		for _, b := range edges() {
			n, ok = Add(a, b)
			expect(t, "A1 Add", new(big.Int).Add(number(a), number(b)), n, ok, a, b)
			n, ok = Sub(a, b)
			expect(t, "A1 Sub", new(big.Int).Sub(number(a), number(b)), n, ok, a, b)
		}
	}
}

func TestMul(t *testing.T) {
	for _, a := range edges() {
		for _, b := range edges() {
			n, ok := Mul(a, b)
			expect(t, "A2", new(big.Int).Mul(number(a), number(b)), n, ok, a, b)
		}
	}
}

func TestSum(t *testing.T) {
	lists := [][]int{
		nil, {}, {7}, {least}, {most}, {1, -2, 3}, {most, 1}, {least, -1}, {most, 1, -1}, {least, -1, 1},
		{most, most, most, least, least, 5}, {least, least, least, most, most, most}, {most, most, least, least},
		{most, most, 2}, {least, least}, {least, least, least, least, 1}, {most, most, most, -3}, edges(),
	}
	for _, l := range lists {
		x := new(big.Int)
		for _, a := range l {
			x.Add(x, number(a))
		}
		n, ok := Sum(l)
		expect(t, "A3", x, n, ok, l...)
	}
}

func TestSumOfMany(t *testing.T) {
	const half = 1 << 17
	l := make([]int, 2*half)
	for i := range half {
		l[i], l[half+i] = most, -most
	}
	if n, ok := Sum(l); n != 0 || !ok {
		t.Errorf("A3: up and down: %d %v", n, ok)
	}
	if n, ok := Sum(l[:half]); n != 0 || ok {
		t.Errorf("A3: up: %d %v", n, ok)
	}
	if n, ok := Sum(l[half:]); n != 0 || ok {
		t.Errorf("A3: down: %d %v", n, ok)
	}
	// The sum is 2^80, a multiple of 2^64: what remains of it is 0.
	for i := range l {
		l[i] = 1 << 62
	}
	if n, ok := Sum(l); n != 0 || ok {
		t.Errorf("A3: a multiple of 2^64: %d %v", n, ok)
	}
}

func TestSumLeavesItsArgument(t *testing.T) {
	l := []int{most, most, 5, 9}
	Sum(l[:3])
	for i, a := range []int{most, most, 5, 9} {
		if l[i] != a {
			t.Errorf("R3: place %d became %d", i, l[i])
		}
	}
}

func TestShifts(t *testing.T) {
	for _, a := range edges() {
		for _, n := range wide() {
			up, upOK := Shl(a, n)
			down, downOK := Shr(a, n)
			if n < 0 || n > 63 {
				if up != 0 || upOK || down != 0 || downOK {
					t.Errorf("A4: %d by %d: %d %v, %d %v", a, n, up, upOK, down, downOK)
				}
				continue
			}
			expect(t, "A4 Shl", new(big.Int).Mul(number(a), power(n)), up, upOK, a, n)
			// Euclidean division by a positive number rounds down.
			expect(t, "A4 Shr", new(big.Int).Div(number(a), power(n)), down, downOK, a, n)
		}
	}
}

func TestFitsNarrow(t *testing.T) {
	for _, a := range edges() {
		for _, bits := range wide() {
			n, ok := Narrow(a, bits)
			fits := Fits(a, bits)
			if bits < 1 || bits > 64 {
				if n != 0 || ok || fits {
					t.Errorf("A5: %d into %d: %d %v %v", a, bits, n, ok, fits)
				}
				continue
			}
			if fits != fitsBig(number(a), bits) {
				t.Errorf("A5 Fits: %d into %d: %v", a, bits, fits)
			}
			rest := new(big.Int).Sub(number(a), number(n))
			rest.Mod(rest, power(bits))
			if !ok || !fitsBig(number(n), bits) || rest.Sign() != 0 {
				t.Errorf("A5 Narrow: %d into %d: %d %v", a, bits, n, ok)
			}
		}
	}
}

// halves returns numbers of 32 bits, the least and the greatest among them.
func halves() []int32 {
	l := []int32{0, 5, -5, 1 << 16, -1 << 16, 123456789}
	for _, x := range []int32{math.MinInt32, -1, 1, math.MaxInt32} {
		l = append(l, x-1, x, x+1)
	}
	return l
}

func TestPack(t *testing.T) {
	for _, high := range halves() {
		for _, low := range halves() {
			x := new(big.Int).Mul(number(int(high)), power(32))
			x.Add(x, number(int(low)))
			if low < 0 {
				x.Add(x, power(32))
			}
			a := Pack(high, low)
			expect(t, "A6 Pack", x, a, true, int(high), int(low))
			if h, l := Unpack(a); h != high || l != low {
				t.Errorf("A6, A8: Unpack(Pack(%d, %d)): %d %d", high, low, h, l)
			}
		}
	}
	for _, a := range edges() {
		if high, low := Unpack(a); Pack(high, low) != a {
			t.Errorf("A6: Unpack(%d): %d %d", a, high, low)
		}
	}
}

// bytesBig returns the n bytes of the residue of a modulo 2^(8n).
func bytesBig(a, n int) string {
	x := new(big.Int).Mod(number(a), power(8*n))
	return string(x.FillBytes(make([]byte, n)))
}

func TestBytes(t *testing.T) {
	for _, a := range edges() {
		for _, n := range wide() {
			s, ok := Bytes(a, n)
			if n < 1 || n > 8 || !fitsBig(number(a), 8*n) {
				if s != "" || ok {
					t.Errorf("A7: Bytes(%d, %d): %q %v", a, n, s, ok)
				}
				continue
			}
			if want := bytesBig(a, n); s != want || !ok {
				t.Errorf("A7: Bytes(%d, %d): %q %v, want %q", a, n, s, ok, want)
			}
			if b, ok := Of(s); b != a || !ok {
				t.Errorf("A7, A8: Of(%q): %d %v, want %d", s, b, ok, a)
			}
		}
	}
}

func TestOf(t *testing.T) {
	for _, c := range []string{"\x00", "\x01", "a", "\x7f", "\x80", "\xc3", "\xff"} {
		for _, d := range []string{"\x00", "z", "\x80", "\xff"} {
			for n := range 8 {
				s := c + strings.Repeat(d, n)
				a, ok := Of(s)
				if !ok || !fitsBig(number(a), 8*len(s)) || bytesBig(a, len(s)) != s {
					t.Errorf("A7: Of(%q): %d %v", s, a, ok)
				}
				if b, ok := Bytes(a, len(s)); b != s || !ok {
					t.Errorf("A7: Bytes(%d, %d): %q %v, want %q", a, len(s), b, ok, s)
				}
			}
		}
	}
	for _, s := range []string{"", "\x00\x00\x00\x00\x00\x00\x00\x00\x01", "abcdefghi", strings.Repeat("\xff", 1000)} {
		if a, ok := Of(s); a != 0 || ok {
			t.Errorf("A7: Of(%q): %d %v", s, a, ok)
		}
	}
}

func TestUndo(t *testing.T) {
	for _, a := range edges() {
		for _, b := range edges() {
			if sum, ok := Add(a, b); ok {
				if c, ok := Sub(sum, b); c != a || !ok {
					t.Errorf("A8: Sub(Add(%d, %d)): %d %v", a, b, c, ok)
				}
			}
		}
		for n := range 64 {
			if up, ok := Shl(a, n); ok {
				if c, ok := Shr(up, n); c != a || !ok {
					t.Errorf("A8: Shr(Shl(%d, %d)): %d %v", a, n, c, ok)
				}
			}
		}
	}
}

func TestExamples(t *testing.T) {
	if n, ok := Add(most, 1); n != 0 || ok {
		t.Error("Add")
	}
	if n, ok := Mul(-1<<62, 2); n != least || !ok {
		t.Error("Mul")
	}
	if n, ok := Shr(-1, 1); n != -1 || !ok {
		t.Error("Shr")
	}
	if n, ok := Narrow(200, 8); n != -56 || !ok {
		t.Error("Narrow")
	}
	if Pack(-1, -1) != -1 {
		t.Error("Pack")
	}
	if s, ok := Bytes(-2, 2); s != "\xff\xfe" || !ok {
		t.Error("Bytes")
	}
	if n, ok := Of("\x80"); n != -128 || !ok {
		t.Error("Of")
	}
}
