package digits

import (
	"fmt"
	"math"
	"strings"
	"testing"
)

func TestHexThereAndBack(t *testing.T) {
	for _, n := range []uint32{0, 1, 15, 16, 0x01234567, 0x89abcdef, 1 << 31, math.MaxUint32} {
		s := Hex(n)
		if s != fmt.Sprintf("%08x", n) {
			t.Errorf("Hex(%d) = %q", n, s)
		}
		if got, ok := ReadHex(s); got != n || !ok {
			t.Errorf("ReadHex(%q) = %d, %t", s, got, ok)
		}
	}
}

func TestReadHexWrong(t *testing.T) {
	for _, s := range []string{"", "0", "1234567", "123456789", "0123456A", "0123456g", "0x123456", "+1234567", "-1234567", " 1234567", "1234567 ", "1234567\xff", "123456_7", strings.Repeat("0", 100000)} {
		if n, ok := ReadHex(s); n != 0 || ok {
			t.Errorf("ReadHex(%.20q) = %d, %t", s, n, ok)
		}
	}
}

func TestAre(t *testing.T) {
	for s, want := range map[string]bool{
		"0": true, "1": true, "9": true, "10": true, "1234567890": true, strings.Repeat("9", 1000): true,
		"": false, "00": false, "01": false, "-1": false, "+1": false, "-0": false, "-": false, "1 ": false, " 1": false,
		"a": false, "1a": false, "/": false, ":": false, "1_0": false, "0x1": false, "1e3": false, "٣": false, "\xff": false,
	} {
		if got := Are(s); got != want {
			t.Errorf("Are(%.20q) = %t", s, got)
		}
	}
}

func TestRead(t *testing.T) {
	for _, c := range []struct {
		s    string
		most int
		want int
		ok   bool
	}{
		{"0", 6, 0, true}, {"7", 1, 7, true}, {"999999", 6, 999999, true}, {"1000000", 6, 0, false}, {"1000000", 7, 1000000, true},
		{"999999999", 9, 999999999, true}, {"999999999999999999", 18, 999999999999999999, true},
		{"", 6, 0, false}, {"00", 6, 0, false}, {"012", 6, 0, false}, {"-1", 6, 0, false}, {"+1", 6, 0, false}, {"1x", 6, 0, false},
		{"0", 0, 0, false}, {"0", -1, 0, false},
	} {
		if got, ok := Read(c.s, c.most); got != c.want || ok != c.ok {
			t.Errorf("Read(%q, %d) = %d, %t", c.s, c.most, got, ok)
		}
	}
}
