package cut

import (
	"fmt"
	"math/rand"
	"slices"
	"strings"
	"testing"

	"cornbin/api"
)

func zeros(n int) string { return strings.Repeat("\x00", n) }

// Noise is the same each time: the seed is fixed.
func noise(seed int64, n, kinds int) string {
	r := rand.New(rand.NewSource(seed))
	b := make([]byte, n)
	for i := range b {
		b[i] = byte(r.Intn(kinds) * (256 / kinds))
	}
	return string(b)
}

func samples() []string {
	l := []string{"", "a", "\x0f", "\xff", zeros(1), zeros(15), zeros(16), zeros(63), zeros(64), zeros(65), zeros(128), zeros(129), strings.Repeat("a", 70), strings.Repeat("\xff", 200), strings.Repeat("ä€𝄞", 40), strings.Repeat("line\nline\n", 50)}
	for i, n := range []int{7, 8, 9, 15, 16, 17, 63, 64, 65, 100, 500, api.MaxFile, api.MaxFile + 1, 20000} {
		l = append(l, noise(int64(i), n, 256), noise(int64(i), n, 4), noise(int64(i), n, 1))
	}
	return l
}

// byTheRule says the same as P20, told from each byte back.
func byTheRule(s string) []int {
	var ends []int
	begin := 0
	for at := 1; at <= len(s); at++ {
		n := at - begin
		sum := 0
		for _, c := range []byte(s[max(begin, at-8):at]) {
			sum += int(c)
		}
		if n == 64 || n >= 16 && sum%16 == 15 || at == len(s) {
			ends = append(ends, at)
			begin = at
		}
	}
	return ends
}

// P20: where pieces end.
func TestCutsKnownTexts(t *testing.T) {
	for _, c := range []struct {
		name, s string
		want    []int
	}{
		{"empty", "", nil},
		{"one byte", "a", []int{1}},
		{"one byte that would end a piece", "\x0f", []int{1}},
		{"fewer than MinPiece", zeros(15), []int{15}},
		{"MinPiece", zeros(16), []int{16}},
		{"MaxPiece", zeros(64), []int{64}},
		{"one more than MaxPiece", zeros(65), []int{64, 65}},
		{"MaxPiece twice", zeros(128), []int{64, 128}},
		{"seventy letters", strings.Repeat("a", 70), []int{64, 70}},
		{"at MinPiece", zeros(15) + "\x0f" + zeros(9), []int{16, 25}},
		{"ahead of MinPiece, in its window", zeros(8) + "\x0f" + zeros(30), []int{16, 39}},
		{"ahead of MinPiece, out of its window", zeros(7) + "\x0f" + zeros(30), []int{38}},
		{"at MinPiece plus 1", zeros(16) + "\x0f" + zeros(9), []int{17, 26}},
		{"ahead of MaxPiece", zeros(62) + "\x0f" + zeros(9), []int{63, 72}},
		{"at MaxPiece", zeros(63) + "\x0f" + zeros(9), []int{64, 73}},
		{"at MaxPiece plus 1: no piece that short", zeros(64) + "\x0f" + zeros(30), []int{64, 95}},
		{"the text ends where a piece does", zeros(20) + "\x0f", []int{21}},
		{"higher bits of the sum", zeros(20) + "\x1f" + zeros(9), []int{21, 30}},
		{"the highest byte", zeros(20) + "\xff" + zeros(9), []int{21, 30}},
		{"bytes added up", zeros(20) + "\x08\x04\x02\x01" + zeros(9), []int{24, 33}},
		{"a sum above one byte", zeros(20) + "\xf0\xf0\xf0\x0f" + zeros(9), []int{24, 33}},
		{"a sum of fewer than four bits", zeros(20) + "\x07" + zeros(9), []int{30}},
		{"another sum with the fourth bit", zeros(20) + "\x0e" + zeros(9), []int{30}},
		{"eight bytes are the window", zeros(20) + "\x01\x02\x02\x02\x02\x02\x02\x02" + zeros(9), []int{28, 37}},
		{"nine bytes are not", zeros(20) + "\x01\x02\x02\x02\x02\x02\x02\x01\x01" + zeros(9), []int{38}},
		{"a window of the piece alone", zeros(15) + "\x0f" + zeros(15) + "\x0f" + zeros(9), []int{16, 32, 41}},
		{"no window over a cut", zeros(20) + "\x0f" + zeros(7) + zeros(20), []int{21, 48}},
	} {
		if got := Cuts(c.s); !slices.Equal(got, c.want) {
			t.Errorf("%s: %v, want %v", c.name, got, c.want)
		}
	}
}

// P20: Cuts, by the rule told otherwise.
func TestCutsByTheRule(t *testing.T) {
	for i, s := range samples() {
		if got, want := Cuts(s), byTheRule(s); !slices.Equal(got, want) {
			t.Errorf("text %d: %v, want %v", i, got, want)
		}
	}
}

// P20: each byte at a place where a piece may end.
func TestCutsEachByte(t *testing.T) {
	for c := range 256 {
		want := []int{34}
		if c%16 == 15 {
			want = []int{18, 34}
		}
		if got := Cuts(zeros(17) + string([]byte{byte(c)}) + zeros(16)); !slices.Equal(got, want) {
			t.Errorf("byte %d: %v, want %v", c, got, want)
		}
	}
}

// P20: Pieces are what stands between cuts.
func TestPiecesBetweenCuts(t *testing.T) {
	for i, s := range samples() {
		var want []string
		begin := 0
		for _, end := range byTheRule(s) {
			want = append(want, s[begin:end])
			begin = end
		}
		if got := Pieces(s); !slices.Equal(got, want) {
			t.Errorf("text %d: %.200q, want %.200q", i, got, want)
		}
	}
	if got := Pieces(""); len(got) != 0 {
		t.Errorf("of the empty text: %q", got)
	}
}

// P21: one behind the other they are the text, and their bounds.
func TestPiecesAlways(t *testing.T) {
	for i, s := range samples() {
		l := Pieces(s)
		if strings.Join(l, "") != s {
			t.Errorf("text %d: pieces are another text", i)
		}
		for k, p := range l {
			if len(p) == 0 || len(p) > api.MaxPiece || len(p) < api.MinPiece && k < len(l)-1 {
				t.Errorf("text %d: piece %d of %d has %d bytes", i, k, len(l), len(p))
			}
		}
		ends := Cuts(s)
		if len(ends) != len(l) || len(ends) > 0 && ends[len(ends)-1] != len(s) {
			t.Errorf("text %d: %d pieces, cuts %v", i, len(l), ends)
		}
	}
}

// P21: a text behind whole pieces is cut as it is alone.
func TestBehindWholePieces(t *testing.T) {
	tails := []string{"", "a", "\x0f", zeros(40), zeros(8) + "\x0f" + zeros(30), noise(77, 300, 256)}
	for seed := range int64(20) {
		l := Pieces(noise(seed, 300, 256))
		whole := l[:len(l)-1] // the last one ends with its text
		for k := range len(whole) + 1 {
			for i, tail := range tails {
				got := Pieces(strings.Join(whole[:k], "") + tail)
				want := append(slices.Clone(whole[:k]), Pieces(tail)...)
				if !slices.Equal(got, want) {
					t.Errorf("seed %d, %d pieces, tail %d: %q, want %q", seed, k, i, got, want)
				}
			}
		}
	}
}

// P2, P4: what is written into an answer, nobody sees.
func TestAnswersAreNew(t *testing.T) {
	s := noise(5, 300, 256)
	ends, pieces := Cuts(s), Pieces(s)
	told := fmt.Sprint(ends, pieces)
	for i := range ends {
		ends[i], pieces[i] = -1, "x"
	}
	if got := fmt.Sprint(Cuts(s), Pieces(s)); got != told {
		t.Errorf("told first %s, then %s", told, got)
	}
}

// Who stops ranging gets no more pieces, and may range again.
func TestEachStopsAndStartsAgain(t *testing.T) {
	pieces := each(zeros(200))
	for range 2 {
		n := 0
		for range pieces {
			n++
			if n == 2 {
				break
			}
		}
		if got := len(slices.Collect(pieces)); n != 2 || got != 4 {
			t.Errorf("stopped behind %d, then %d pieces", n, got)
		}
	}
}
