package bin

import (
	"errors"
	"fmt"
	"math"
	"math/rand"
	"slices"
	"strings"
	"testing"

	"cornbin/api"
	"cornbin/print"
)

// Two texts of one print and as many bytes; and two of one print that are not as long.
const (
	clashA = "declinate"
	clashB = "macallums"
	long   = "costarring"
	short  = "liquid"
)

// What Text tells beside the bytes of a piece that fills all of MaxText.
const headBytes = len("00000000-00000 1\n") + len("\n")

func TestTheseTextsClash(t *testing.T) {
	if print.ID(clashA) != print.ID(clashB) || print.Of(long) != print.Of(short) {
		t.Fatal("the tests below need texts of one print")
	}
}

// allBytes has each byte once, in pieces.
func allBytes() []string {
	b := make([]byte, 256)
	for i := range b {
		b[i] = byte(i)
	}
	var l []string
	for k := 0; k < len(b); k += api.MaxPiece {
		l = append(l, string(b[k:k+api.MaxPiece]))
	}
	return l
}

func samples() []string {
	l := []string{"a", " ", "\n", "\n\n", "\x00", "\xff", "hi", "a\nb", "ä€𝄞", "811c9dc5-0 1\n\n", clashA, long, short, strings.Repeat("x", 63), strings.Repeat("x", api.MaxPiece)}
	return append(l, allBytes()...)
}

func put(t *testing.T, b *Bin, l ...string) {
	t.Helper()
	for _, s := range l {
		if _, _, err := b.Put(s); err != nil {
			t.Fatalf("Put(%q): %v", s, err)
		}
	}
}

func filled(t *testing.T, l ...string) *Bin {
	t.Helper()
	b := New()
	put(t, b, l...)
	return b
}

// fullBin has as many pieces as there can be.
func fullBin(t *testing.T) *Bin {
	t.Helper()
	b := New()
	for k := range api.MaxPieces {
		put(t, b, fmt.Sprint("piece ", k))
	}
	return b
}

func held(s string, uses int) api.Held { return api.Held{ID: print.ID(s), Uses: uses, Text: s} }

// rising: of texts, a use each, by print.Less.
func rising(l ...string) []api.Held {
	var out []api.Held
	for _, s := range l {
		out = append(out, held(s, 1))
	}
	slices.SortFunc(out, func(a, b api.Held) int {
		if print.Less(a.ID, b.ID) {
			return -1
		}
		return 1
	})
	return out
}

// wantAll: just these pieces, and their bytes.
func wantAll(t *testing.T, what string, b *Bin, want []api.Held) {
	t.Helper()
	n := 0
	for _, h := range want {
		n += len(h.Text)
		if s, err := b.Get(h.ID); s != h.Text || err != nil {
			t.Errorf("%s: Get(%v) = %q, %v", what, h.ID, s, err)
		}
	}
	if got := b.All(); !slices.Equal(got, want) {
		t.Errorf("%s: %v, want %v", what, got, want)
	}
	if b.Size() != n {
		t.Errorf("%s: %d bytes, want %d", what, b.Size(), n)
	}
}

// wantErr: an error with its place, or (at below 0) a bare one.
func wantErr(t *testing.T, what string, got error, at int, want error) {
	t.Helper()
	if at < 0 {
		if got != want {
			t.Errorf("%s: %#v, want the bare %v", what, got, want)
		}
		return
	}
	f, ok := got.(*api.Fault)
	if !ok || f.At != at || f.Err != want || !errors.Is(got, want) {
		t.Errorf("%s: %#v, want %v at %d", what, got, want, at)
	}
}

// wantNoPut: the error, no ID, and nothing that changes.
func wantNoPut(t *testing.T, b *Bin, s string, want error) {
	t.Helper()
	before := b.All()
	id, anew, err := b.Put(s)
	if id != (api.ID{}) || anew {
		t.Errorf("Put(%.20q): %v, %t with an error", s, id, anew)
	}
	wantErr(t, fmt.Sprintf("Put(%.20q)", s), err, -1, want)
	wantAll(t, fmt.Sprintf("behind Put(%.20q)", s), b, before)
}

// P40: a new bin has nothing.
func TestNew(t *testing.T) {
	b := New()
	wantAll(t, "new", b, nil)
	if n := b.Sweep(); n != 0 {
		t.Errorf("%d bytes are swept", n)
	}
	put(t, b, "a")
	wantAll(t, "another new one", New(), nil)
}

// P40: Put tells the ID, and whether it is new; each Put is one use more.
func TestPut(t *testing.T) {
	b := New()
	for _, s := range samples() {
		for k := range 3 {
			if id, anew, err := b.Put(s); id != print.ID(s) || anew != (k == 0) || err != nil {
				t.Errorf("Put(%q), time %d: %v, %t, %v", s, k, id, anew, err)
			}
		}
	}
	want := rising(samples()...)
	for i := range want {
		want[i].Uses = 3
	}
	wantAll(t, "three times each", b, want)
}

// P40: a piece without a use is there still, and is not new.
func TestPutAgainWithoutUse(t *testing.T) {
	b := filled(t, "a")
	b.Drop(print.ID("a"))
	if _, anew, err := b.Put("a"); anew || err != nil {
		t.Errorf("put again: %t, %v", anew, err)
	}
	wantAll(t, "put again", b, []api.Held{held("a", 1)})
	b.Drop(print.ID("a"))
	b.Sweep()
	if _, anew, err := b.Put("a"); !anew || err != nil {
		t.Errorf("put when it was swept: %t, %v", anew, err)
	}
	wantAll(t, "put when it was swept", b, []api.Held{held("a", 1)})
}

// P40: Put's ErrBound.
func TestPutBound(t *testing.T) {
	for _, b := range []*Bin{New(), filled(t, "a", "a", "b"), fullBin(t)} {
		for _, s := range []string{"", strings.Repeat("x", api.MaxPiece+1), strings.Repeat("x", 100000)} {
			wantNoPut(t, b, s, api.ErrBound)
		}
	}
}

// P40: Put's ErrClash; the same print and another Len is no clash.
func TestPutClash(t *testing.T) {
	b := filled(t, clashA)
	wantNoPut(t, b, clashB, api.ErrClash)
	b.Drop(print.ID(clashA))
	wantNoPut(t, b, clashB, api.ErrClash)
	b.Sweep()
	put(t, b, clashB)
	wantAll(t, "when the other one was swept", b, []api.Held{held(clashB, 1)})
	wantNoPut(t, b, clashA, api.ErrClash)
	c := filled(t, long, short)
	wantAll(t, "of one print", c, []api.Held{held(short, 1), held(long, 1)})
}

// P40: Put's ErrFull, and that only what is new is refused.
func TestPutFull(t *testing.T) {
	b := fullBin(t)
	wantNoPut(t, b, "more", api.ErrFull)
	if id, anew, err := b.Put("piece 7"); id != print.ID("piece 7") || anew || err != nil {
		t.Errorf("one that is there: %v, %t, %v", id, anew, err)
	}
	b.Drop(print.ID("piece 8"))
	wantNoPut(t, b, "more", api.ErrFull)
	if n := b.Sweep(); n != len("piece 8") {
		t.Errorf("%d bytes are swept", n)
	}
	put(t, b, "more")
	wantNoPut(t, b, "yet more", api.ErrFull)
	if n := len(b.All()); n != api.MaxPieces {
		t.Errorf("%d pieces", n)
	}
}

// P40: ErrClash is told ahead of ErrFull.
func TestPutClashAheadOfFull(t *testing.T) {
	b := filled(t, clashA)
	for k := range api.MaxPieces - 1 {
		put(t, b, fmt.Sprint("piece ", k))
	}
	wantNoPut(t, b, clashB, api.ErrClash)
	wantNoPut(t, b, "more", api.ErrFull)
}

// P40: Get and Drop of what is not there.
func TestNone(t *testing.T) {
	full := filled(t, samples()...)
	for _, b := range []*Bin{New(), full} {
		before := b.All()
		for _, id := range []api.ID{{}, {Len: -1}, print.ID(""), print.ID("q"), {Print: print.Of("hi"), Len: 3}, {Print: print.Of("hi"), Len: -2}, {Print: print.Of("hi") + 1, Len: 2}, {Print: math.MaxUint32, Len: math.MaxInt}, {Len: math.MinInt}} {
			s, err := b.Get(id)
			if s != "" {
				t.Errorf("Get(%v): %q with an error", id, s)
			}
			wantErr(t, fmt.Sprintf("Get(%v)", id), err, -1, api.ErrNone)
			wantErr(t, fmt.Sprintf("Drop(%v)", id), b.Drop(id), -1, api.ErrNone)
		}
		wantAll(t, "none", b, before)
	}
}

// P40: Drop is one use less; without a use it is ErrUsed, and the piece is got still.
func TestDrop(t *testing.T) {
	b := filled(t, "a", "a", "b")
	id := print.ID("a")
	for _, uses := range []int{1, 0} {
		wantErr(t, "Drop", b.Drop(id), -1, nil)
		l := rising("a", "b")
		l[slices.IndexFunc(l, func(h api.Held) bool { return h.Text == "a" })].Uses = uses
		wantAll(t, "dropped", b, l)
	}
	before := b.All()
	for range 2 {
		wantErr(t, "Drop without a use", b.Drop(id), -1, api.ErrUsed)
		wantAll(t, "dropped too often", b, before)
	}
	b.Sweep()
	wantErr(t, "Drop when it was swept", b.Drop(id), -1, api.ErrNone)
	wantAll(t, "swept", b, []api.Held{held("b", 1)})
}

// P40: Sweep takes all that have no use, and nothing else.
func TestSweep(t *testing.T) {
	b := filled(t, samples()...)
	n := 0
	var rest []string
	for i, s := range samples() {
		if i%2 == 0 {
			n += len(s)
			b.Drop(print.ID(s))
		} else {
			rest = append(rest, s)
		}
	}
	if got := b.Sweep(); got != n {
		t.Errorf("%d bytes are swept, want %d", got, n)
	}
	wantAll(t, "swept", b, rising(rest...))
	if got := b.Sweep(); got != 0 {
		t.Errorf("%d bytes are swept again", got)
	}
	full := fullBin(t)
	size := full.Size()
	for _, h := range full.All() {
		full.Drop(h.ID)
	}
	if got := full.Sweep(); got != size {
		t.Errorf("%d bytes of a full bin are swept, want %d", got, size)
	}
	wantAll(t, "all swept", full, nil)
}

// P40: a copy and its bin do not see each other.
func TestCopy(t *testing.T) {
	b := filled(t, "a", "b", "b")
	before := b.All()
	for what, change := range map[string]func(*Bin){
		"Put":   func(b *Bin) { b.Put("c") },
		"again": func(b *Bin) { b.Put("a") },
		"Drop":  func(b *Bin) { b.Drop(print.ID("b")) },
		"Sweep": func(b *Bin) { b.Drop(print.ID("a")); b.Sweep() },
		"Fill":  func(b *Bin) { b.Fill(rising("q")) },
	} {
		c := b.Copy()
		wantAll(t, "a copy", c, before)
		d := c.Copy()
		change(c)
		wantAll(t, what+" of a copy: the bin", b, before)
		wantAll(t, what+" of a bin: its copy", d, before)
		if slices.Equal(c.All(), before) {
			t.Errorf("%s changes nothing", what)
		}
	}
	c := New().Copy()
	put(t, c, "a")
	wantAll(t, "a copy of an empty one", c, []api.Held{held("a", 1)})
}

// P40: All is by print.Less, in whichever order they were put.
func TestAllRises(t *testing.T) {
	l := samples()
	want := rising(l...)
	r := rand.New(rand.NewSource(1))
	for range 20 {
		r.Shuffle(len(l), func(i, k int) { l[i], l[k] = l[k], l[i] })
		wantAll(t, "shuffled", filled(t, l...), want)
	}
}

// P4: what All answers is new memory.
func TestAllIsNew(t *testing.T) {
	b := filled(t, "a", "b")
	l := b.All()
	for i := range l {
		l[i] = api.Held{}
	}
	wantAll(t, "written into", b, rising("a", "b"))
}

// P41: Text, without a check.
func TestText(t *testing.T) {
	for _, c := range []struct {
		l    []api.Held
		want string
	}{
		{nil, ""},
		{[]api.Held{}, ""},
		{[]api.Held{held("hello", 1)}, "4f9f2cab-5 1\nhello\n"},
		{[]api.Held{held("", 0)}, "811c9dc5-0 0\n\n"},
		{[]api.Held{{}}, "00000000-0 0\n\n"},
		{[]api.Held{held("hello", 12), held("a", 0)}, "4f9f2cab-5 12\nhello\ne40c292c-1 0\na\n"},
		{[]api.Held{held("a", 1), held("a", 1)}, "e40c292c-1 1\na\ne40c292c-1 1\na\n"},
		{[]api.Held{held("a\nb", 999999)}, print.Text(print.ID("a\nb")) + " 999999\na\nb\n"},
		{[]api.Held{{ID: api.ID{Print: 1, Len: 3}, Uses: -7, Text: "other\xff"}}, "00000001-3 -7\nother\xff\n"},
		{[]api.Held{{ID: api.ID{Len: -1}, Uses: 1, Text: "x"}}, " 1\nx\n"},
		{[]api.Held{{Uses: math.MinInt}}, fmt.Sprintf("00000000-0 %d\n\n", math.MinInt)},
		{[]api.Held{{Uses: math.MaxInt}}, fmt.Sprintf("00000000-0 %d\n\n", math.MaxInt)},
	} {
		if got := Text(c.l); got != c.want {
			t.Errorf("Text(%v) = %q, want %q", c.l, got, c.want)
		}
	}
}

// P41: Read takes what Text tells: also more, and shorter, and longer ones than a bin has.
func TestReadWhatIsTold(t *testing.T) {
	uses := rising(samples()...)
	for i := range uses {
		uses[i].Uses = []int{0, 1, 9, 10, 999999}[i%5]
	}
	var many []string
	for k := range api.MaxPieces + 1 {
		many = append(many, fmt.Sprint(k))
	}
	for _, l := range [][]api.Held{nil, uses, {held("", 0)}, {held(strings.Repeat("x", api.MaxPiece+1), 3)}, fullBin(t).All(), rising(many...), {held(strings.Repeat("x", api.MaxText-headBytes), 1)}} {
		s := Text(l)
		if got, err := Read(s); !slices.Equal(got, l) || err != nil {
			t.Errorf("Read(%.40q) = %v, %v", s, got, err)
		}
	}
}

// P41: Read's ErrBound is by just one byte.
func TestReadBound(t *testing.T) {
	s := Text([]api.Held{held(strings.Repeat("x", api.MaxText-headBytes), 1)})
	if len(s) != api.MaxText {
		t.Fatalf("%d bytes", len(s))
	}
	if l, err := Read(s); len(l) != 1 || err != nil {
		t.Errorf("as many as there may be: %v", err)
	}
	for _, s := range []string{s + "x", Text([]api.Held{held(strings.Repeat("x", api.MaxText-headBytes+1), 1)}), strings.Repeat("\n", 10*api.MaxText)} {
		l, err := Read(s)
		if len(l) > 0 {
			t.Errorf("Read of %d bytes: %d with an error", len(s), len(l))
		}
		wantErr(t, fmt.Sprintf("Read of %d bytes", len(s)), err, -1, api.ErrBound)
	}
}

// P41: Read's errors with their places, the first of them by place.
func TestReadWrong(t *testing.T) {
	two := rising("hi", "a\nb")
	good := Text(two)
	hi := print.Text(print.ID("hi"))
	back := Text([]api.Held{two[1], two[0]})
	low, high := Text([]api.Held{held(short, 1)}), Text([]api.Held{held(long, 1)})
	for _, c := range []struct {
		s   string
		at  int
		err error
	}{
		{"x", 0, api.ErrText},
		{"\n", 0, api.ErrText},
		{" ", 0, api.ErrText},
		{" 1\nhi\n", 0, api.ErrText},
		{hi, 0, api.ErrText},
		{hi + "\nhi\n", 0, api.ErrText},
		{hi + " \nhi\n", 0, api.ErrText},
		{hi + " 1", 0, api.ErrText},
		{hi + " 1\n", 0, api.ErrText},
		{hi + " 1\nhi", 0, api.ErrText},
		{hi + " 1\nh\n", 0, api.ErrText},
		{hi + " 1\nhix\n", 0, api.ErrText},
		{hi + " 1\nhi ", 0, api.ErrText},
		{hi + " 1 hi\n", 0, api.ErrText},
		{hi + " 1\r\nhi\n", 0, api.ErrText},
		{hi + " 1\n\nhi\n", 0, api.ErrText},
		{hi + "  1\nhi\n", 0, api.ErrText},
		{hi + " 1 \nhi\n", 0, api.ErrText},
		{hi + " 1 1\nhi\n", 0, api.ErrText},
		{hi + "\t1\nhi\n", 0, api.ErrText},
		{" " + hi + " 1\nhi\n", 0, api.ErrText},
		{hi + " 01\nhi\n", 0, api.ErrText},
		{hi + " 00\nhi\n", 0, api.ErrText},
		{hi + " -1\nhi\n", 0, api.ErrText},
		{hi + " +1\nhi\n", 0, api.ErrText},
		{hi + " x\nhi\n", 0, api.ErrText},
		{hi + " 1000000\nhi\n", 0, api.ErrText},
		{hi + " 0000001\nhi\n", 0, api.ErrText},
		{hi + " 99999999999999999999\nhi\n", 0, api.ErrText},
		{strings.ToUpper(hi) + " 1\nhi\n", 0, api.ErrText},
		{hi[1:] + " 1\nhi\n", 0, api.ErrText},
		{hi[:9] + "02 1\nhi\n", 0, api.ErrText},
		{hi[:9] + "999999 1\nhi\n", 0, api.ErrText},
		{hi[:9] + "1000000 1\nhi\n", 0, api.ErrText},
		{hi[:9] + "-2 1\nhi\n", 0, api.ErrText},
		{hi + " 1\nho\n", 0, api.ErrSum},
		{hi + " 1\n\n\n\n", 0, api.ErrSum},
		{hi[:9] + "3 1\nhi\n\n", 0, api.ErrSum},
		{"00000000-0 0\n\n", 0, api.ErrSum},
		{good + "x", 2, api.ErrText},
		{good + "\n", 2, api.ErrText},
		{good[:len(good)-1], 1, api.ErrText},
		{good + good, 2, api.ErrOrder},
		{back, 1, api.ErrOrder},
		{back + "x", 1, api.ErrOrder},
		{low + high + high, 2, api.ErrOrder},
		{high + low, 1, api.ErrOrder},
		{hi + " 1\nhi\n" + hi + " 1\nho\n", 1, api.ErrSum},
		{hi + " 1\nho\n" + "x", 0, api.ErrSum},
		{hi + " 1\nhi\n" + hi + " 1\nhix\n", 1, api.ErrText},
		{strings.Repeat("x", api.MaxText), 0, api.ErrText},
		{strings.Repeat("\n", api.MaxText), 0, api.ErrText},
	} {
		l, err := Read(c.s)
		if len(l) > 0 {
			t.Errorf("Read(%.40q): %v with an error", c.s, l)
		}
		wantErr(t, fmt.Sprintf("Read(%.40q)", c.s), err, c.at, c.err)
	}
}

// P41: what is read with another byte anywhere, or cut anywhere, is told just so again, or refused.
func TestReadEachByte(t *testing.T) {
	l := rising("hi", "a\nb", "\n")
	l[1].Uses = 120
	good := Text(l)
	check := func(s string) {
		got, err := Read(s)
		if err == nil && Text(got) != s || err != nil && len(got) > 0 {
			t.Errorf("Read(%q) = %v, %v", s, got, err)
		}
	}
	for at := range len(good) {
		for c := range 256 {
			check(good[:at] + string([]byte{byte(c)}) + good[at+1:])
		}
		check(good[:at])
		check(good[at:])
		check(good[:at] + good[at+1:])
	}
}

// P41: Fill is just these, whatever was there.
func TestFill(t *testing.T) {
	uses := rising(samples()...)
	for i := range uses {
		uses[i].Uses = i
	}
	full := fullBin(t).All()
	lists := [][]api.Held{nil, {}, uses, {held("a", math.MaxInt)}, {held("\x00", 0)}, {held(strings.Repeat("x", api.MaxPiece), 1)}, {held(clashB, 2)}, full}
	for i, l := range lists {
		for _, b := range []*Bin{New(), filled(t, "a", "q", clashA), fullBin(t)} {
			wantErr(t, fmt.Sprint("Fill ", i), b.Fill(l), -1, nil)
			wantAll(t, fmt.Sprint("filled ", i), b, l)
		}
	}
	b := New()
	for i, l := range lists {
		wantErr(t, fmt.Sprint("Fill again ", i), b.Fill(l), -1, nil)
		wantAll(t, fmt.Sprint("filled again ", i), b, l)
	}
}

// P41: a bin that is filled goes on as one into which they were put.
func TestFilledGoesOn(t *testing.T) {
	b := New()
	l := rising("a", "b")
	l[0].Uses = 0
	wantErr(t, "Fill", b.Fill(l), -1, nil)
	wantErr(t, "Drop without a use", b.Drop(l[0].ID), -1, api.ErrUsed)
	wantErr(t, "Drop", b.Drop(l[1].ID), -1, nil)
	if n := b.Sweep(); n != 2 {
		t.Errorf("%d bytes are swept", n)
	}
	wantErr(t, "Fill", b.Fill(nil), -1, nil)
	put(t, b, "c")
	wantAll(t, "put", b, []api.Held{held("c", 1)})
	wantErr(t, "Fill", b.Fill(fullBin(t).All()), -1, nil)
	wantNoPut(t, b, "more", api.ErrFull)
}

// P42: what is put is got, also where its uses cannot be counted any more.
func TestMostUses(t *testing.T) {
	b := New()
	l := []api.Held{held("a", math.MaxInt)}
	wantErr(t, "Fill", b.Fill(l), -1, nil)
	put(t, b, "a")
	if n := b.Sweep(); n != 0 {
		t.Errorf("%d bytes are swept", n)
	}
	wantErr(t, "Drop", b.Drop(l[0].ID), -1, nil)
	wantAll(t, "put and dropped", b, l)
}

// P41: Fill's errors in their order, the first of them by place; then nothing changes.
func TestFillWrong(t *testing.T) {
	l := rising("a", "b", "c")
	empty, over := held("", 1), held(strings.Repeat("x", api.MaxPiece+1), 1)
	for i, c := range []struct {
		l   []api.Held
		at  int
		err error
	}{
		{make([]api.Held, api.MaxPieces+1), -1, api.ErrFull},
		{append(fullBin(t).All(), held("more", 1)), -1, api.ErrFull},
		{make([]api.Held, api.MaxPieces), 0, api.ErrBound},
		{[]api.Held{{}}, 0, api.ErrBound},
		{[]api.Held{empty}, 0, api.ErrBound},
		{[]api.Held{over}, 0, api.ErrBound},
		{[]api.Held{l[0], empty}, 1, api.ErrBound},
		{[]api.Held{l[0], over}, 1, api.ErrBound},
		{[]api.Held{held("a", -1)}, 0, api.ErrBound},
		{[]api.Held{held("a", math.MinInt)}, 0, api.ErrBound},
		{[]api.Held{l[0], l[1], {ID: l[2].ID, Text: l[2].Text, Uses: -1}}, 2, api.ErrBound},
		{[]api.Held{{ID: l[0].ID, Text: "q", Uses: -1}}, 0, api.ErrBound},
		{[]api.Held{l[1], {ID: l[0].ID, Text: l[0].Text, Uses: -1}}, 1, api.ErrBound},
		{[]api.Held{{Text: "a"}}, 0, api.ErrSum},
		{[]api.Held{{ID: print.ID("a"), Text: "b"}}, 0, api.ErrSum},
		{[]api.Held{{ID: api.ID{Print: print.Of("a"), Len: 2}, Text: "a"}}, 0, api.ErrSum},
		{[]api.Held{{ID: api.ID{Print: print.Of("a") + 1, Len: 1}, Text: "a"}}, 0, api.ErrSum},
		{[]api.Held{{ID: api.ID{Print: print.Of("a"), Len: -1}, Text: "a"}}, 0, api.ErrSum},
		{[]api.Held{l[2], {Text: "a"}}, 1, api.ErrSum},
		{[]api.Held{l[1], l[0]}, 1, api.ErrOrder},
		{[]api.Held{l[0], l[0]}, 1, api.ErrOrder},
		{[]api.Held{l[0], l[2], l[1]}, 2, api.ErrOrder},
		{[]api.Held{held(clashA, 1), held(clashB, 1)}, 1, api.ErrOrder},
		{[]api.Held{held(long, 1), held(short, 1)}, 1, api.ErrOrder},
		{[]api.Held{l[1], l[0], {}}, 1, api.ErrOrder},
		{[]api.Held{{ID: l[0].ID, Text: "q"}, {}}, 0, api.ErrSum},
	} {
		for _, b := range []*Bin{New(), filled(t, "q", "q", "r")} {
			before := b.All()
			wantErr(t, fmt.Sprint("Fill ", i), b.Fill(c.l), c.at, c.err)
			wantAll(t, fmt.Sprint("behind Fill ", i), b, before)
		}
	}
}

// P4: what is handed over is only read, and not kept; what lies behind its length is not seen.
func TestOnlyRead(t *testing.T) {
	l := append(rising("a", "b", "c"), held("behind", -1))
	before := slices.Clone(l)
	b := New()
	if err := b.Fill(l[:3]); err != nil {
		t.Fatal(err)
	}
	s := Text(l[:3])
	if !slices.Equal(l, before) || strings.Contains(s, "behind") {
		t.Errorf("%v, %q", l, s)
	}
	for i := range l {
		l[i] = api.Held{}
	}
	wantAll(t, "written into", b, before[:3])
	read, _ := Read(s)
	for i := range read {
		read[i] = api.Held{}
	}
	if again, err := Read(s); !slices.Equal(again, before[:3]) || err != nil {
		t.Errorf("%v, %v", again, err)
	}
}

// P42: what is put is got, and what is dropped as often as it was put is swept: held against counts by texts.
func TestPutGotDroppedSwept(t *testing.T) {
	r := rand.New(rand.NewSource(7))
	b := New()
	uses := map[string]int{}
	for range 20000 {
		s := fmt.Sprint("piece ", r.Intn(40))
		n, there := uses[s]
		switch r.Intn(20) {
		case 0:
			want := 0
			for s, n := range uses {
				if n == 0 {
					want += len(s)
					delete(uses, s)
				}
			}
			if got := b.Sweep(); got != want {
				t.Fatalf("%d bytes are swept, want %d", got, want)
			}
		case 1, 2, 3, 4, 5, 6, 7, 8:
			if id, anew, err := b.Put(s); id != print.ID(s) || anew == there || err != nil {
				t.Fatalf("Put(%q) = %v, %t, %v", s, id, anew, err)
			}
			uses[s] = n + 1
		default:
			var want error
			switch {
			case !there:
				want = api.ErrNone
			case n == 0:
				want = api.ErrUsed
			default:
				uses[s] = n - 1
			}
			if err := b.Drop(print.ID(s)); err != want {
				t.Fatalf("Drop(%q) = %v, want %v", s, err, want)
			}
		}
		if got, err := b.Get(print.ID(s)); uses[s] > 0 && (got != s || err != nil) {
			t.Fatalf("Get(%q) = %q, %v", s, got, err)
		}
	}
	var want []api.Held
	for s, n := range uses {
		want = append(want, held(s, n))
	}
	slices.SortFunc(want, func(a, b api.Held) int {
		if print.Less(a.ID, b.ID) {
			return -1
		}
		return 1
	})
	wantAll(t, "in the end", b, want)
	for _, h := range want {
		for range h.Uses {
			b.Drop(h.ID)
		}
	}
	if n := b.Size(); b.Sweep() != n {
		t.Error("not all is swept")
	}
	wantAll(t, "dropped as often as put, and swept", b, nil)
}
