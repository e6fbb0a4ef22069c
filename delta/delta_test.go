package delta

import (
	"errors"
	"fmt"
	"math"
	"math/rand"
	"slices"
	"strings"
	"testing"

	"cornbin/api"
	"cornbin/cut"
	"cornbin/print"
)

// block: one byte as often as a piece may have it; whatever stands ahead of it, it is a piece.
func block(c byte) string { return strings.Repeat(string([]byte{c}), api.MaxPiece) }

// blocks: of each letter one; a digit is itself, and so a short piece at the end.
func blocks(letters string) string {
	s := ""
	for i := range len(letters) {
		if c := letters[i]; '0' <= c && c <= '9' {
			s += string([]byte{c})
		} else {
			s += block(c)
		}
	}
	return s
}

// told of ops, their texts by letters, as blocks reads them.
func told(from, many int, letters string) Op {
	return Op{From: from, Many: many, Text: blocks(letters)}
}

func piecesOf(from, many int) Op { return told(from, many, "") }

func textOf(letters string) Op { return told(0, 0, letters) }

// Noise is the same each time: the seed is fixed.
func noise(seed int64, n int) string {
	r := rand.New(rand.NewSource(seed))
	b := make([]byte, n)
	for i := range b {
		b[i] = byte(r.Intn(256))
	}
	return string(b)
}

// Many bytes of which each window ends a piece: as many pieces as there can be.
func shortest(n int) string { return strings.Repeat("\x0f\x00\x00\x00\x00\x00\x00\x00", (n+7)/8)[:n] }

func wantApplied(t *testing.T, old string, l []Op, want string) {
	t.Helper()
	before := slices.Clone(l)
	if s, err := Apply(old, l); s != want || err != nil {
		t.Errorf("Apply(%.20q, %d ops) = %d bytes, %v; want %d bytes", old, len(l), len(s), err, len(want))
	}
	if !slices.Equal(l, before) {
		t.Error("Apply writes into its ops")
	}
}

func wantFault(t *testing.T, old string, l []Op, at int, want error) {
	t.Helper()
	s, err := Apply(old, l)
	f, is := err.(*api.Fault)
	if s != "" || !is || *f != (api.Fault{At: at, Err: want}) || !errors.Is(err, want) {
		t.Errorf("Apply(%.20q, %.80v) = %.20q, %#v; want %v at %d", old, l, s, err, want, at)
	}
}

// wantRight: each op asked by what the document says of it, and of what it is made again.
func wantRight(t *testing.T, old, s string) {
	t.Helper()
	had, rest := cut.Pieces(old), cut.Pieces(s)
	l := Make(old, s)
	wasText := false
	size := 0
	for i, o := range l {
		if len(rest) == 0 {
			t.Fatalf("op %d of %d: no pieces are left", i, len(l))
		}
		first := slices.Index(had, rest[0])
		if o.Many == 0 {
			n := 1
			for n < len(rest) && !slices.Contains(had, rest[n]) {
				n++
			}
			if first >= 0 || wasText || o != (Op{Text: strings.Join(rest[:n], "")}) {
				t.Fatalf("op %d: a text of %d bytes, from %d", i, len(o.Text), o.From)
			}
			wasText, rest = true, rest[n:]
			size += len(o.Text)
			continue
		}
		if o.From != first || o.Many < 1 || o.Text != "" || o.Many > len(rest) || o.Many > len(had)-first {
			t.Fatalf("op %d: %.80v, the first one is %d", i, o, first)
		}
		if !slices.Equal(had[first:first+o.Many], rest[:o.Many]) {
			t.Fatalf("op %d: other pieces", i)
		}
		next := had[first+o.Many:]
		wasText, rest = false, rest[o.Many:]
		if len(next) > 0 && len(rest) > 0 && next[0] == rest[0] {
			t.Fatalf("op %d: one more is the same", i)
		}
	}
	if len(rest) > 0 {
		t.Fatalf("%d pieces are left", len(rest))
	}
	if n := Size(l); n != size {
		t.Fatalf("Size = %d, want %d", n, size)
	}
	wantApplied(t, old, l, s)
}

// P110: Make, op by op.
func TestMake(t *testing.T) {
	for _, x := range []struct {
		old, s string
		want   []Op
	}{
		{"", "", nil},
		{"abc1", "", nil},
		{"1", "", nil},
		{"", "1", []Op{textOf("1")}},
		{"", "abc1", []Op{textOf("abc1")}},
		{"1", "1", []Op{piecesOf(0, 1)}},
		{"1", "2", []Op{textOf("2")}},
		{"a", "a", []Op{piecesOf(0, 1)}},
		{"a", "b", []Op{textOf("b")}},
		{"abc", "abc", []Op{piecesOf(0, 3)}},
		{"abc", "ab", []Op{piecesOf(0, 2)}},
		{"abc", "bc", []Op{piecesOf(1, 2)}},
		{"abc", "b", []Op{piecesOf(1, 1)}},
		{"abc", "ac", []Op{piecesOf(0, 1), piecesOf(2, 1)}},
		{"abc", "cba", []Op{piecesOf(2, 1), piecesOf(1, 1), piecesOf(0, 1)}},
		{"abc", "abcabc", []Op{piecesOf(0, 3), piecesOf(0, 3)}},
		{"abc", "bcab", []Op{piecesOf(1, 2), piecesOf(0, 2)}},
		// Texts, in front, between and behind; of several pieces one op.
		{"abc", "xabc", []Op{textOf("x"), piecesOf(0, 3)}},
		{"abc", "xyzabc", []Op{textOf("xyz"), piecesOf(0, 3)}},
		{"abc", "axbyzc", []Op{piecesOf(0, 1), textOf("x"), piecesOf(1, 1), textOf("yz"), piecesOf(2, 1)}},
		{"abc", "abcx", []Op{piecesOf(0, 3), textOf("x")}},
		{"abc", "abcxyzx1", []Op{piecesOf(0, 3), textOf("xyzx1")}},
		{"abc", "xxxx", []Op{textOf("xxxx")}},
		// The last piece, short: of old it is a piece as others are, and only whole.
		{"abc1", "abc2", []Op{piecesOf(0, 3), textOf("2")}},
		{"abc1", "x1", []Op{textOf("x"), piecesOf(3, 1)}},
		{"abc1", "abc", []Op{piecesOf(0, 3)}},
		{"abc", "abc1", []Op{piecesOf(0, 3), textOf("1")}},
		{"abc12", "abc1", []Op{piecesOf(0, 3), textOf("1")}},
		{"abc1", "abc12", []Op{piecesOf(0, 3), textOf("12")}},
		{"abc1", "axb1", []Op{piecesOf(0, 1), textOf("x"), piecesOf(1, 1), piecesOf(3, 1)}},
		// The first one that is the same, though from a later one more would be.
		{"axabc", "abc", []Op{piecesOf(0, 1), piecesOf(3, 2)}},
		{"aab", "ab", []Op{piecesOf(0, 1), piecesOf(2, 1)}},
		{"abac", "ac", []Op{piecesOf(0, 1), piecesOf(3, 1)}},
		{"aaa", "aa", []Op{piecesOf(0, 2)}},
		{"aaa", "aaaaaaa", []Op{piecesOf(0, 3), piecesOf(0, 3), piecesOf(0, 1)}},
		{"a", "aaa", []Op{piecesOf(0, 1), piecesOf(0, 1), piecesOf(0, 1)}},
		// As long as the next ones are so, also by pieces that are not their own first ones.
		{"abacad", "bacad", []Op{piecesOf(1, 5)}},
		{"abacad", "acad", []Op{piecesOf(0, 1), piecesOf(3, 3)}},
	} {
		old, s := blocks(x.old), blocks(x.s)
		if l := Make(old, s); !slices.Equal(l, x.want) {
			t.Errorf("Make(%s, %s) = %.200v", x.old, x.s, l)
		}
		wantRight(t, old, s)
	}
}

// P110: pieces are as package cut has them, not of one length.
func TestMakeByCuts(t *testing.T) {
	old := noise(1, 3000)
	n := len(cut.Pieces(old))
	if n < 50 {
		t.Fatal(n, " pieces")
	}
	ends := cut.Cuts(old)
	at := ends[9]
	if l := Make(old, old[at:]+old[:at]); len(l) < 2 || l[0].From != 10 || l[0].Many < n-11 {
		t.Error(l)
	}
	// One byte more in front: behind the first end that stays, all is as it was.
	if l := Make(old, "x"+old); Size(l) > len(old)/4 {
		t.Error("anew: ", Size(l))
	}
	if l := Make(shortest(4000), shortest(4000)); !slices.Equal(l, []Op{{From: 0, Many: 250}}) {
		t.Error(l)
	}
	for i := range int64(20) {
		a, b := noise(i, 500), noise(i+100, 500)
		for _, s := range []string{a + b, b + a, a + "x" + b, a[:250] + a, a[100:] + b[:77], b, a[:499], "x" + a, a + a + a} {
			wantRight(t, a, s)
			wantRight(t, s, a)
		}
	}
}

// P110: by the texts of pieces: what has the same ID is not the same for that.
func TestMakeClash(t *testing.T) {
	const a, b = "declinate", "macallums"
	if print.ID(a) != print.ID(b) || a == b {
		t.Fatal("not of one ID")
	}
	if l := Make(a, b); !slices.Equal(l, []Op{{Text: b}}) {
		t.Error(l)
	}
	if l := Make(block('x')+a, block('x')+b); !slices.Equal(l, []Op{piecesOf(0, 1), {Text: b}}) {
		t.Error(l)
	}
}

// P110: Apply of what no Make makes.
func TestApply(t *testing.T) {
	old := blocks("abc1")
	for _, x := range []struct {
		l    []Op
		want string
	}{
		{nil, ""},
		{[]Op{}, ""},
		{[]Op{piecesOf(0, 1)}, "a"},
		{[]Op{piecesOf(3, 1)}, "1"},
		{[]Op{piecesOf(0, 4)}, "abc1"},
		{[]Op{piecesOf(1, 2)}, "bc"},
		{[]Op{piecesOf(3, 1), piecesOf(0, 1), piecesOf(3, 1)}, "1a1"},
		{[]Op{piecesOf(0, 1), piecesOf(1, 1), piecesOf(1, 2)}, "abbc"},
		{[]Op{textOf("x"), textOf("y"), textOf("2")}, "xy2"},
		{[]Op{textOf("abc1")}, "abc1"},
		{[]Op{textOf("2"), piecesOf(2, 2), textOf("3")}, "2c13"},
		// From is not asked for where there is a text.
		{[]Op{told(4, 0, "x"), told(-1, 0, "y"), told(math.MaxInt, 0, "z"), told(math.MinInt, 0, "1")}, "xyz1"},
	} {
		wantApplied(t, old, x.l, blocks(x.want))
	}
	wantApplied(t, "", nil, "")
	wantApplied(t, "", []Op{{Text: "new"}}, "new")
	wantApplied(t, "", []Op{{From: 9, Text: "\x00\xff"}, {Text: "\n"}}, "\x00\xff\n")
	wantApplied(t, "old", []Op{{Many: 1}, {Many: 1}}, "oldold")
}

// wrong ops, of an old text of four pieces.
func wrong() []struct {
	o   Op
	err error
} {
	return []struct {
		o   Op
		err error
	}{
		{piecesOf(0, -1), api.ErrBound},
		{piecesOf(1, -1), api.ErrBound},
		{piecesOf(0, math.MinInt), api.ErrBound},
		{piecesOf(-1, 1), api.ErrBound},
		{piecesOf(-1, 2), api.ErrBound},
		{piecesOf(-4, 4), api.ErrBound},
		{piecesOf(math.MinInt, 1), api.ErrBound},
		{piecesOf(math.MinInt, math.MaxInt), api.ErrBound},
		{piecesOf(4, 1), api.ErrBound},
		{piecesOf(5, 1), api.ErrBound},
		{piecesOf(3, 2), api.ErrBound},
		{piecesOf(0, 5), api.ErrBound},
		{piecesOf(1, 4), api.ErrBound},
		{piecesOf(0, math.MaxInt), api.ErrBound},
		{piecesOf(1, math.MaxInt), api.ErrBound},
		{piecesOf(math.MaxInt, 1), api.ErrBound},
		{piecesOf(math.MaxInt, math.MaxInt), api.ErrBound},
		// A bound ahead of a shape.
		{told(0, -1, "x"), api.ErrBound},
		{told(-1, 1, "x"), api.ErrBound},
		{told(4, 1, "x"), api.ErrBound},
		{told(0, 5, "x"), api.ErrBound},
		{told(0, 1, "x"), api.ErrShape},
		{told(0, 4, "x"), api.ErrShape},
		{told(3, 1, "1"), api.ErrShape},
		{Op{}, api.ErrShape},
		{piecesOf(1, 0), api.ErrShape},
		{piecesOf(4, 0), api.ErrShape},
		{piecesOf(-1, 0), api.ErrShape},
		{piecesOf(math.MaxInt, 0), api.ErrShape},
		{piecesOf(math.MinInt, 0), api.ErrShape},
	}
}

// P110: wrong ops, alone, first, last, and between right and wrong ones.
func TestApplyWrong(t *testing.T) {
	old := blocks("abc1")
	right := []Op{piecesOf(0, 4), textOf("x")}
	for _, x := range wrong() {
		wantFault(t, old, []Op{x.o}, 0, x.err)
		wantFault(t, old, append([]Op{x.o}, right...), 0, x.err)
		wantFault(t, old, append(slices.Clone(right), x.o), 2, x.err)
		for _, y := range wrong() {
			wantFault(t, old, []Op{right[0], x.o, right[1], y.o}, 1, x.err)
		}
	}
}

// P110: of an empty text there are no pieces, and behind the last one none.
func TestApplyNoPieces(t *testing.T) {
	for from := -2; from <= 2; from++ {
		for many := -2; many <= 2; many++ {
			if many != 0 {
				wantFault(t, "", []Op{piecesOf(from, many)}, 0, api.ErrBound)
			}
			if many != 0 && (from != 0 || many != 1) {
				wantFault(t, "old", []Op{piecesOf(from, many)}, 0, api.ErrBound)
			}
		}
	}
	wantFault(t, "", []Op{{}}, 0, api.ErrShape)
}

// P111: Size, also of what Apply would not take.
func TestSize(t *testing.T) {
	for _, x := range []struct {
		l    []Op
		want int
	}{
		{nil, 0},
		{[]Op{}, 0},
		{[]Op{{}}, 0},
		{[]Op{{From: 7, Many: 9}}, 0},
		{[]Op{{Text: "a"}}, 1},
		{[]Op{{Text: "ä€"}, {Many: 3}, {Text: "\x00\xff"}}, 7},
		{[]Op{{Text: block('a')}, {From: -1, Many: -1, Text: "bc"}, {Many: 1, Text: "d"}}, 67},
	} {
		if n := Size(x.l); n != x.want {
			t.Errorf("Size(%.80v) = %d, want %d", x.l, n, x.want)
		}
	}
}

// P111: of a text to itself nothing is told anew: it is one run from the first piece on.
func TestSelf(t *testing.T) {
	l := []string{"", "a", "\x00", "ä€𝄞", blocks("a"), blocks("a1"), blocks("aaaa"), blocks("abab1"), blocks("aab"), shortest(4000), strings.Repeat("\x00", 4000)}
	for i, n := range []int{15, 16, 17, 63, 64, 65, 1000, 4000, 100000} {
		l = append(l, noise(int64(i), n))
	}
	for _, s := range l {
		var want []Op
		if s != "" {
			want = []Op{{Many: len(cut.Pieces(s))}}
		}
		made := Make(s, s)
		if !slices.Equal(made, want) || Size(made) != 0 {
			t.Errorf("of %d bytes to themselves: %.200v", len(s), made)
		}
		wantApplied(t, s, made, s)
	}
}

// P110, P111: texts of few pieces, of any two of them.
func TestAll(t *testing.T) {
	l := []string{""}
	for at := 0; len(l[at]) < 4; at++ {
		for _, c := range "abc" {
			l = append(l, l[at]+string(c))
		}
	}
	for _, old := range l {
		for _, s := range l {
			wantRight(t, blocks(old+"1"), blocks(s))
			wantRight(t, blocks(old), blocks(s+"1"))
		}
		wantRight(t, blocks(old), blocks(old))
	}
}

// P110, P111: longer ones, of whatever.
func TestAny(t *testing.T) {
	for seed := range int64(300) {
		r := rand.New(rand.NewSource(seed))
		some := func() string {
			s := ""
			for range r.Intn(20) {
				switch r.Intn(6) {
				case 0:
					s += noise(r.Int63n(5), r.Intn(200))
				case 1:
					s += shortest(r.Intn(100))
				default:
					s += block(byte('a' + r.Intn(4)))
				}
			}
			return s
		}
		wantRight(t, some(), some())
		if t.Failed() {
			t.Fatal("seed ", seed)
		}
	}
}

// P4: what one answer is written into, the next one does not show.
func TestNewMemory(t *testing.T) {
	old, s := blocks("abc"), blocks("bxa")
	want := fmt.Sprint(Make(old, s))
	for range 3 {
		l := Make(old, s)
		if fmt.Sprint(l) != want {
			t.Fatal(l)
		}
		for i := range l {
			l[i] = Op{From: 9, Many: 9, Text: "changed"}
		}
	}
}

// P3: what lies behind a list's length is neither read nor written.
func TestBehindLength(t *testing.T) {
	all := []Op{{Text: "a"}, {Many: -1}, {Text: "c"}}
	wantApplied(t, "old", all[:1], "a")
	if n := Size(all[:2]); n != 1 {
		t.Error("Size is ", n)
	}
	if !slices.Equal(all, []Op{{Text: "a"}, {Many: -1}, {Text: "c"}}) {
		t.Error(all)
	}
}

// P1: it ends, and soon, also of long texts, all of whose pieces are one, or none of whose are.
func TestLong(t *testing.T) {
	one := strings.Repeat(block('a'), 20000)
	other := strings.Repeat(block('b'), 20000)
	if l := Make(one, one+one); !slices.Equal(l, []Op{{Many: 20000}, {Many: 20000}}) {
		t.Error(len(l))
	}
	if l := Make(one, other); len(l) != 1 || Size(l) != len(other) {
		t.Error(len(l))
	}
	many := noise(7, 1<<20)
	wantMany := len(cut.Pieces(many))
	if l := Make(many, many+"x"); len(l) != 2 || l[0].Many < wantMany-1 {
		t.Error(len(l))
	}
	var mixed []string
	for k := range 10000 {
		mixed = append(mixed, block('b'), block('a'), strings.Repeat(fmt.Sprintf("%08d", 2*k), 8))
	}
	s := strings.Join(mixed, "")
	wantApplied(t, one, Make(one, s), s)
}
