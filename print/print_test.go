package print

import (
	"errors"
	"fmt"
	"hash/fnv"
	"math"
	"strings"
	"testing"

	"cornbin/api"
)

// allBytes has each byte once, so that a print by runes, or by signed bytes, would show.
func allBytes() string {
	b := make([]byte, 256)
	for i := range b {
		b[i] = byte(i)
	}
	return string(b)
}

func samples() []string {
	return []string{"", "a", "b", "\x00", "\x00\x00", "\xff", "\x80\x7f", "hello", "ä€𝄞", "line\nline\n", allBytes(), strings.Repeat("a", 70), strings.Repeat("xyz", api.MaxFile)}
}

// P10: Of.
func TestOfKnownTexts(t *testing.T) {
	for _, c := range []struct {
		s    string
		want uint32
	}{
		{"", 2166136261},
		{"a", 0xe40c292c},
		{"b", 0xe70c2de5},
		{"foobar", 0xbf9cf968},
		{"\x00", 84696351},
	} {
		if got := Of(c.s); got != c.want {
			t.Errorf("Of(%q) = %d, want %d", c.s, got, c.want)
		}
	}
}

// P10: Of, by another one's sum.
func TestOfAgainstLibrary(t *testing.T) {
	for _, s := range samples() {
		h := fnv.New32a()
		h.Write([]byte(s))
		if got := Of(s); got != h.Sum32() {
			t.Errorf("Of(%.20q) = %d, want %d", s, got, h.Sum32())
		}
	}
}

// P10: More, begun with any number.
func TestMoreByTheRule(t *testing.T) {
	for _, n := range []uint32{0, 1, 255, 256, 1 << 31, math.MaxUint32, 2166136261} {
		for _, s := range samples() {
			want := uint64(n)
			for _, c := range []byte(s) {
				want = (want ^ uint64(c)) * 16777619 % (1 << 32)
			}
			if got := More(n, s); uint64(got) != want {
				t.Errorf("More(%d, %.20q) = %d, want %d", n, s, got, want)
			}
		}
		if More(n, "") != n {
			t.Errorf("More(%d, empty) = %d", n, More(n, ""))
		}
	}
}

// P10: ID.
func TestID(t *testing.T) {
	for _, s := range samples() {
		if got := ID(s); got != (api.ID{Print: Of(s), Len: len(s)}) {
			t.Errorf("ID(%.20q) = %v", s, got)
		}
	}
}

// P10: Less, by Print, then by Len.
func TestLess(t *testing.T) {
	rising := []api.ID{
		{Print: 0, Len: math.MinInt},
		{Print: 0, Len: -1},
		{Print: 0, Len: 0},
		{Print: 0, Len: math.MaxInt},
		{Print: 1, Len: -5},
		{Print: 1, Len: 0},
		{Print: math.MaxInt32, Len: 9},
		{Print: 1 << 31, Len: 0},
		{Print: math.MaxUint32, Len: math.MinInt},
		{Print: math.MaxUint32, Len: 10},
	}
	for i, a := range rising {
		for k, b := range rising {
			if got := Less(a, b); got != (i < k) {
				t.Errorf("Less(%v, %v) = %t", a, b, got)
			}
		}
	}
}

// P10: Text.
func TestText(t *testing.T) {
	for _, c := range []struct {
		id   api.ID
		want string
	}{
		{api.ID{}, "00000000-0"},
		{ID(""), "811c9dc5-0"},
		{ID("a"), "e40c292c-1"},
		{api.ID{Print: 0x9abcdef, Len: 10}, "09abcdef-10"},
		{api.ID{Print: math.MaxUint32, Len: 999999}, "ffffffff-999999"},
		{api.ID{Print: 1, Len: 1000000}, "00000001-1000000"},
		{api.ID{Print: 1, Len: math.MaxInt}, fmt.Sprintf("00000001-%d", math.MaxInt)},
		{api.ID{Len: -1}, ""},
		{api.ID{Print: 7, Len: math.MinInt}, ""},
	} {
		if got := Text(c.id); got != c.want {
			t.Errorf("Text(%v) = %q, want %q", c.id, got, c.want)
		}
	}
}

// P10: Read takes what Text tells.
func TestReadWhatIsTold(t *testing.T) {
	for _, n := range []uint32{0, 1, 0x01234567, 0x89abcdef, math.MaxUint32} {
		for _, many := range []int{0, 1, 9, 10, 64, 4000, 100000, 999999} {
			id := api.ID{Print: n, Len: many}
			if got, err := Read(Text(id)); got != id || err != nil {
				t.Errorf("Read(%q) = %v, %v", Text(id), got, err)
			}
		}
	}
	for _, s := range samples() {
		if got, err := Read(Text(ID(s))); got != ID(s) || err != nil {
			t.Errorf("Read(%q) = %v, %v", Text(ID(s)), got, err)
		}
	}
}

func wantNoID(t *testing.T, s string) {
	t.Helper()
	id, err := Read(s)
	var f *api.Fault
	if id != (api.ID{}) || err != api.ErrText || errors.As(err, &f) {
		t.Errorf("Read(%.40q) = %v, %v, want a bare ErrText", s, id, err)
	}
}

// P10: Read refuses what is none.
func TestReadWrong(t *testing.T) {
	for _, s := range []string{
		"", "-", "-0", "0", "8", "811c9dc", "811c9dc5", "811c9dc50", "811c9dc5-",
		"11c9dc5-0", "0811c9dc5-0", "811c9dc5_0", "811c9dc5 0", "811c9dc5--1", "811c9dc5-0-0",
		"811C9DC5-0", "811c9dcg-0", "811c9dc`-0", "811c9dc/-0", "811c9dc:-0", "0x1c9dc5-0", "+11c9dc5-0", "8_1c9dc5-0",
		"811c9dc5-00", "811c9dc5-01", "811c9dc5-000000", "811c9dc5-0000001",
		"811c9dc5-1000000", "811c9dc5-1234567", "811c9dc5-99999999999999999999",
		"811c9dc5-+1", "811c9dc5-x", "811c9dc5-1x", "811c9dc5-a", "811c9dc5-1_0", "811c9dc5-/", "811c9dc5-:", "811c9dc5-٣",
		" 811c9dc5-0", "811c9dc5-0 ", "811c9dc5-0\n", "811c9dc5-0\x00", "811c9dc\xff-0", "811c9dc5-\xff",
		strings.Repeat("0", 100000), "811c9dc5-" + strings.Repeat("1", 100000),
	} {
		wantNoID(t, s)
	}
}

// P10: each byte at each place is taken only where it belongs.
func TestReadEachByte(t *testing.T) {
	const good = "89abcdef-123456"
	for at := range len(good) {
		for c := range 256 {
			fits := strings.IndexByte("0123456789", byte(c)) >= 0
			switch {
			case at < 8:
				fits = fits || 'a' <= c && c <= 'f'
			case at == 8:
				fits = c == '-'
			case at == 9:
				fits = fits && c != '0'
			}
			s := good[:at] + string([]byte{byte(c)}) + good[at+1:]
			if !fits {
				wantNoID(t, s)
			} else if id, err := Read(s); err != nil || Text(id) != s {
				t.Errorf("Read(%q) = %v, %v", s, id, err)
			}
		}
	}
}

// P11: with one byte another one it is another print.
func TestOtherByteOtherPrint(t *testing.T) {
	for _, s := range []string{"a", "hello", "\x00\xff\x80", allBytes(), strings.Repeat("a", 70)} {
		for at := range len(s) {
			b := []byte(s)
			seen := map[uint32]int{}
			for c := range 256 {
				b[at] = byte(c)
				n := Of(string(b))
				if other, ok := seen[n]; ok {
					t.Fatalf("%.20q: bytes %d and %d at %d have the print %d", s, other, c, at, n)
				}
				seen[n] = c
			}
		}
	}
}

// P11: what is printed in two parts is printed as in one.
func TestTwoPartsAreOne(t *testing.T) {
	for _, s := range []string{"", "a", "hello", "ä€𝄞", allBytes()} {
		for at := range len(s) + 1 {
			if got := More(Of(s[:at]), s[at:]); got != Of(s) {
				t.Errorf("%.20q in two parts at %d: %d, want %d", s, at, got, Of(s))
			}
		}
	}
}
