package text_test

import (
	"testing"

	"errata/text"
)

// P1.5, over all numbers that there are.
func TestLowAndNear(t *testing.T) {
	for n := -32768; n <= 32767; n++ {
		low := int(text.Low(int16(n)))
		if low < -128 || low > 127 || (n-low)%256 != 0 {
			t.Fatalf("Low(%d): %d", n, low)
		}
		near := n
		if n < -128 {
			near = -128
		}
		if n > 127 {
			near = 127
		}
		if got := int(text.Near(int16(n))); got != near {
			t.Fatalf("Near(%d): %d", n, got)
		}
	}
}

// P1.5.
func TestSum(t *testing.T) {
	for a := -128; a <= 127; a++ {
		for b := -128; b <= 127; b++ {
			s, over := text.Sum(int8(a), int8(b))
			if (a+b-int(s))%256 != 0 || over != (int(s) != a+b) {
				t.Fatalf("Sum(%d, %d): %d, %t", a, b, s, over)
			}
		}
	}
}

// P1.5.
func TestTurn(t *testing.T) {
	for n := -32767; n <= 32767; n++ {
		if m, ok := text.Turn(int16(n)); int(m) != -n || !ok {
			t.Fatalf("Turn(%d): %d, %t", n, m, ok)
		}
	}
	if m, ok := text.Turn(-32768); m != -32768 || ok {
		t.Errorf("Turn(-32768): %d, %t", m, ok)
	}
}

// The examples of the chapter.
func TestSmallExamples(t *testing.T) {
	if text.Low(300) != 44 || text.Low(-129) != 127 || text.Near(300) != 127 || text.Near(-129) != -128 {
		t.Error("Low, Near")
	}
	if s, over := text.Sum(100, 100); s != -56 || !over {
		t.Error("Sum(100, 100)", s, over)
	}
	if s, over := text.Sum(-128, 127); s != -1 || over {
		t.Error("Sum(-128, 127)", s, over)
	}
	if m, ok := text.Turn(5); m != -5 || !ok {
		t.Error("Turn(5)", m, ok)
	}
}
