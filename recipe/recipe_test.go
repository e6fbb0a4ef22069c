package recipe

import (
	"errors"
	"fmt"
	"math"
	"math/rand"
	"reflect"
	"slices"
	"strings"
	"testing"

	"cornbin/api"
	"cornbin/cut"
	"cornbin/print"
)

// Noise is the same each time: the seed is fixed.
func noise(seed int64, n int) string {
	r := rand.New(rand.NewSource(seed))
	b := make([]byte, n)
	for i := range b {
		b[i] = byte(r.Intn(256))
	}
	return string(b)
}

// Many bytes of which each window ends a piece: as many pieces as there can be.
func shortest(n int) string { return strings.Repeat("\x0f\x00\x00\x00\x00\x00\x00\x00", (n+7)/8)[:n] }

func samples() []string {
	l := []string{"", "a", "\x00", " ", "\n", "hello", "ä€𝄞", strings.Repeat("a", 64), strings.Repeat("a", 65), strings.Repeat("a", 70), strings.Repeat("\x00", api.MaxFile), shortest(api.MaxFile), shortest(api.MaxFile - 1)}
	for i, n := range []int{15, 16, 17, 63, 100, 500, 1000, api.MaxFile - 1, api.MaxFile} {
		l = append(l, noise(int64(i), n))
	}
	return l
}

func made(t *testing.T, name, s string) api.Recipe {
	t.Helper()
	r, err := Of(name, s)
	if err != nil {
		t.Fatalf("Of(%q, %.20q): %v", name, s, err)
	}
	return r
}

func same(a, b api.Recipe) bool {
	return a.Name == b.Name && a.Len == b.Len && a.Print == b.Print && slices.Equal(a.IDs, b.IDs)
}

func isZero(r api.Recipe) bool {
	return same(r, api.Recipe{})
}

// wantErr: an error with its place, or (at below 0) a bare one.
func wantErr(t *testing.T, what string, got error, at int, want error) {
	t.Helper()
	if at < 0 {
		if got != want {
			t.Errorf("%s: %#v, want the bare %v", what, got, want)
		}
		return
	}
	f, ok := got.(*api.Fault)
	if !ok || f.At != at || f.Err != want || !errors.Is(got, want) {
		t.Errorf("%s: %#v, want %v at %d", what, got, want, at)
	}
}

// P30: Name.
func TestName(t *testing.T) {
	for _, s := range []string{"a", "z", "0", "9", ".", "-", "..", "-.-", "0.-", "x.1-y", "twelve-chars", "abcdefghijkl", "mnopqrstuvwx", "yz0123456789"} {
		if !Name(s) {
			t.Errorf("Name(%q) is false", s)
		}
	}
	for _, s := range []string{"", "thirteenchars", "A", "Z", "aB", "a b", " a", "a ", "a/b", "a_b", "a,b", "a\n", "\x00", "ä", "é", "\xff", "a\xffb", strings.Repeat("a", 100000)} {
		if Name(s) {
			t.Errorf("Name(%.20q) is true", s)
		}
	}
}

// P30: each byte at each place of a name.
func TestNameEachByte(t *testing.T) {
	const allowed = "abcdefghijklmnopqrstuvwxyz0123456789.-"
	for c := range 256 {
		want := strings.IndexByte(allowed, byte(c)) >= 0
		for at := range 3 {
			b := []byte("xyz")
			b[at] = byte(c)
			if got := Name(string(b)); got != want {
				t.Errorf("Name(%q) = %t", b, got)
			}
		}
	}
}

// P30: Of.
func TestOf(t *testing.T) {
	for i, s := range samples() {
		r := made(t, "a.b-9", s)
		want := api.Recipe{Name: "a.b-9", Len: len(s), Print: print.Of(s)}
		for _, piece := range cut.Pieces(s) {
			want.IDs = append(want.IDs, print.ID(piece))
		}
		if !same(r, want) {
			t.Errorf("text %d: %v, want %v", i, r, want)
		}
		if err := Check(r); err != nil {
			t.Errorf("text %d: %v", i, err)
		}
	}
	if n := len(made(t, "a", shortest(api.MaxFile)).IDs); n != api.MaxPieces {
		t.Errorf("%d pieces at most, want %d", n, api.MaxPieces)
	}
}

// P30: Of, its errors in their order.
func TestOfWrong(t *testing.T) {
	long := strings.Repeat("x", api.MaxFile+1)
	for _, c := range []struct {
		name, s string
		want    error
	}{
		{"", "a", api.ErrName},
		{"A", "a", api.ErrName},
		{"thirteenchars", "", api.ErrName},
		{"A", long, api.ErrName},
		{"", long, api.ErrName},
		{"a", long, api.ErrBound},
		{"a", strings.Repeat("x", 100*api.MaxFile), api.ErrBound},
	} {
		r, err := Of(c.name, c.s)
		if !isZero(r) {
			t.Errorf("Of(%q): %v with an error", c.name, r)
		}
		wantErr(t, "Of "+c.name, err, -1, c.want)
	}
}

func ids(lens ...int) []api.ID {
	l := make([]api.ID, len(lens))
	for i, n := range lens {
		l[i] = api.ID{Print: uint32(i * 7), Len: n}
	}
	return l
}

func times(n, length int) []api.ID {
	return slices.Repeat([]api.ID{{Print: 5, Len: length}}, n)
}

// P30: what Check lets through.
func TestCheckRight(t *testing.T) {
	for _, r := range []api.Recipe{
		{Name: "a"},
		{Name: "a", IDs: []api.ID{}},
		{Name: "a", Print: 77},
		{Name: "twelve-chars", Len: 1, IDs: ids(1)},
		{Name: "a", Len: 64, IDs: ids(64)},
		{Name: "a", Len: 3, IDs: ids(1, 1, 1)},
		{Name: "a", Len: 129, IDs: ids(64, 64, 1)},
		{Name: "a", Len: api.MaxPieces, IDs: times(api.MaxPieces, 1)},
		{Name: "a", Len: api.MaxFile, IDs: times(api.MaxPieces, 16)},
	} {
		if err := Check(r); err != nil {
			t.Errorf("Check(%.80v): %v", fmt.Sprint(r), err)
		}
	}
}

type wrong struct {
	what string
	r    api.Recipe
	at   int
	err  error
}

func wrongs() []wrong {
	return []wrong{
		{"nothing", api.Recipe{}, -1, api.ErrName},
		{"a name that is none", api.Recipe{Name: "a b"}, -1, api.ErrName},
		{"a name too long", api.Recipe{Name: "thirteenchars"}, -1, api.ErrName},
		{"no name ahead of all", api.Recipe{Name: "A", Len: -1, IDs: times(251, 0)}, -1, api.ErrName},
		{"a Len below 0", api.Recipe{Name: "a", Len: -1}, -1, api.ErrBound},
		{"the least Len", api.Recipe{Name: "a", Len: math.MinInt}, -1, api.ErrBound},
		{"a Len above MaxFile", api.Recipe{Name: "a", Len: 4001}, -1, api.ErrBound},
		{"the greatest Len", api.Recipe{Name: "a", Len: math.MaxInt, IDs: ids(math.MaxInt)}, -1, api.ErrBound},
		{"a Len above MaxFile that is their sum", api.Recipe{Name: "a", Len: 4032, IDs: times(63, 64)}, -1, api.ErrBound},
		{"a Len out of bounds ahead of too many", api.Recipe{Name: "a", Len: -1, IDs: times(251, 0)}, -1, api.ErrBound},
		{"too many", api.Recipe{Name: "a", Len: 251, IDs: times(251, 1)}, -1, api.ErrFull},
		{"too many ahead of their shape", api.Recipe{Name: "a", IDs: times(251, 0)}, -1, api.ErrFull},
		{"far too many", api.Recipe{Name: "a", IDs: times(100000, 65)}, -1, api.ErrFull},
		{"a piece of nothing", api.Recipe{Name: "a", IDs: ids(0)}, 0, api.ErrShape},
		{"a piece of nothing behind", api.Recipe{Name: "a", Len: 5, IDs: ids(5, 0)}, 1, api.ErrShape},
		{"a piece below 0", api.Recipe{Name: "a", Len: 0, IDs: ids(1, 1, -2)}, 2, api.ErrShape},
		{"a piece too long", api.Recipe{Name: "a", Len: 65, IDs: ids(65)}, 0, api.ErrShape},
		{"the first of two", api.Recipe{Name: "a", Len: 9, IDs: ids(1, 65, 0)}, 1, api.ErrShape},
		{"lengths that would go round", api.Recipe{Name: "a", IDs: ids(math.MinInt, math.MinInt)}, 0, api.ErrShape},
		{"the last of as many as can be", api.Recipe{Name: "a", Len: 249, IDs: append(times(249, 1), api.ID{})}, 249, api.ErrShape},
		{"shape ahead of sum", api.Recipe{Name: "a", Len: 9, IDs: ids(1, 0)}, 1, api.ErrShape},
		{"fewer bytes", api.Recipe{Name: "a", Len: 5, IDs: ids(4)}, -1, api.ErrSum},
		{"more bytes", api.Recipe{Name: "a", Len: 5, IDs: ids(3, 3)}, -1, api.ErrSum},
		{"no pieces", api.Recipe{Name: "a", Len: 1}, -1, api.ErrSum},
		{"no Len", api.Recipe{Name: "a", IDs: ids(1)}, -1, api.ErrSum},
		{"more than a file has", api.Recipe{Name: "a", Len: 4000, IDs: times(250, 64)}, -1, api.ErrSum},
	}
}

// P30, P31: Check's errors, which Text and Join have too.
func TestCheckWrong(t *testing.T) {
	for _, c := range wrongs() {
		wantErr(t, "Check: "+c.what, Check(c.r), c.at, c.err)
		s, err := Text(c.r)
		wantErr(t, "Text: "+c.what, err, c.at, c.err)
		joined, joinErr := Join(c.r, nil)
		wantErr(t, "Join: "+c.what, joinErr, c.at, c.err)
		if s != "" || joined != "" {
			t.Errorf("%s: %q, %q with an error", c.what, s, joined)
		}
	}
}

// P30: Rep.
func TestRep(t *testing.T) {
	for _, c := range []struct {
		what string
		l    []api.ID
		want api.ID
	}{
		{"none", nil, print.ID("")},
		{"none of an empty list", []api.ID{}, print.ID("")},
		{"one", ids(5), api.ID{Len: 5}},
		{"one above the empty text's", []api.ID{{Print: math.MaxUint32, Len: 5}}, api.ID{Print: math.MaxUint32, Len: 5}},
		{"the first", []api.ID{{Print: 1, Len: 9}, {Print: 2, Len: 1}, {Print: 3, Len: 1}}, api.ID{Print: 1, Len: 9}},
		{"in between", []api.ID{{Print: 3, Len: 1}, {Print: 1, Len: 9}, {Print: 2, Len: 1}}, api.ID{Print: 1, Len: 9}},
		{"the last", []api.ID{{Print: 3, Len: 1}, {Print: 2, Len: 1}, {Print: 1, Len: 9}}, api.ID{Print: 1, Len: 9}},
		{"by Len", []api.ID{{Print: 1, Len: 9}, {Print: 1, Len: 3}, {Print: 1, Len: 4}}, api.ID{Print: 1, Len: 3}},
		{"below zero", []api.ID{{}, {Len: -1}}, api.ID{Len: -1}},
		{"great prints", []api.ID{{Print: 1 << 31}, {Print: 1}, {Print: math.MaxUint32}}, api.ID{Print: 1}},
	} {
		if got := Rep(api.Recipe{IDs: c.l}); got != c.want {
			t.Errorf("%s: %v, want %v", c.what, got, c.want)
		}
	}
}

// P30: Rep of texts, against the library's least.
func TestRepIsLeast(t *testing.T) {
	for i, s := range samples() {
		r := made(t, "a", s)
		want := print.ID("")
		if len(r.IDs) > 0 {
			want = slices.MinFunc(r.IDs, func(a, b api.ID) int {
				if print.Less(a, b) {
					return -1
				}
				return 1
			})
		}
		if got := Rep(r); got != want {
			t.Errorf("text %d: %v, want %v", i, got, want)
		}
	}
}

// Who stops ranging gets no more of them, and may range again.
func TestFallingStopsAndStartsAgain(t *testing.T) {
	l := falling([]api.ID{{Print: 5}, {Print: 7}, {Print: 3}, {Print: 3}, {Print: 1}})
	for range 2 {
		var first []uint32
		for id := range l {
			first = append(first, id.Print)
			if len(first) == 2 {
				break
			}
		}
		if n := len(slices.Collect(l)); !slices.Equal(first, []uint32{5, 3}) || n != 3 {
			t.Errorf("first %v, then %d", first, n)
		}
	}
}

// P31: Text.
func TestTextKnown(t *testing.T) {
	for _, c := range []struct {
		r    api.Recipe
		want string
	}{
		{api.Recipe{Name: "e", Print: 0x811c9dc5}, "e 0 811c9dc5"},
		{api.Recipe{Name: "x.1-y", Len: 70, Print: 0xab, IDs: []api.ID{{Print: 1, Len: 64}, {Print: math.MaxUint32, Len: 6}}}, "x.1-y 70 000000ab 00000001-64 ffffffff-6"},
		{made(t, "h", "hello"), "h 5 4f9f2cab 4f9f2cab-5"},
	} {
		if s, err := Text(c.r); s != c.want || err != nil {
			t.Errorf("%q, %v, want %q", s, err, c.want)
		}
	}
}

// P31: Read takes what Text tells.
func TestReadWhatIsTold(t *testing.T) {
	var l []api.Recipe
	for _, s := range samples() {
		l = append(l, made(t, "twelve-chars", s))
	}
	l = append(l, api.Recipe{Name: "-", Len: api.MaxFile, Print: math.MaxUint32, IDs: times(api.MaxPieces, 16)}, api.Recipe{Name: "0", Len: 2, IDs: ids(1, 1)})
	for i, r := range l {
		s, err := Text(r)
		if err != nil {
			t.Fatal(i, err)
		}
		if got, err := Read(s); !same(got, r) || err != nil {
			t.Errorf("recipe %d: %v, %v", i, got, err)
		}
	}
}

// P31: Read's own errors, ahead of Check's.
func TestReadWrong(t *testing.T) {
	const tail = " 811c9dc5"
	for _, c := range []struct {
		s   string
		at  int
		err error
	}{
		{"", -1, api.ErrText},
		{"a", -1, api.ErrText},
		{"a 0", -1, api.ErrText},
		{" ", -1, api.ErrText},
		{"  ", -1, api.ErrText},
		{"a 0" + tail + " ", -1, api.ErrText},
		{"a 0" + tail + "\n", -1, api.ErrText},
		{" a 0" + tail, -1, api.ErrText},
		{"a  0" + tail, -1, api.ErrText},
		{"a 0 " + tail, -1, api.ErrText},
		{"a\t0" + tail, -1, api.ErrText},
		{"a 00" + tail, -1, api.ErrText},
		{"a 01" + tail, -1, api.ErrText},
		{"a +0" + tail, -1, api.ErrText},
		{"a -0" + tail, -1, api.ErrText},
		{"a -" + tail, -1, api.ErrText},
		{"a --1" + tail, -1, api.ErrText},
		{"a -01" + tail, -1, api.ErrText},
		{"a x" + tail, -1, api.ErrText},
		{"a 1x" + tail, -1, api.ErrText},
		{"a 0 811C9DC5", -1, api.ErrText},
		{"a 0 811c9dc", -1, api.ErrText},
		{"a 0 0811c9dc5", -1, api.ErrText},
		{"a 0 811c9dcg", -1, api.ErrText},
		{"a 0 811c9dc5-0", -1, api.ErrText},
		{"a 5" + tail + " x", -1, api.ErrText},
		{"a 5" + tail + " 00000001-05", -1, api.ErrText},
		{"a 5" + tail + " 00000001-5 ", -1, api.ErrText},
		{"a 5" + tail + "  00000001-5", -1, api.ErrText},
		{"a 5" + tail + " 00000001--5", -1, api.ErrText},
		{"a 5" + tail + " 00000001-1000000", -1, api.ErrText},
		{"A x" + tail, -1, api.ErrText},
		{"A 0" + tail + " 1", -1, api.ErrText},
		{"a 4001" + tail + " 1", -1, api.ErrText},
		{"a 0" + tail + strings.Repeat(" 00000001-1", 251) + " x", -1, api.ErrText},
		{"A 0" + tail, -1, api.ErrName},
		{" 0" + tail, -1, api.ErrName},
		{"a\n 0" + tail, -1, api.ErrName},
		{"thirteenchars 4001" + tail, -1, api.ErrName},
		{"a 4001" + tail, -1, api.ErrBound},
		{"a 1000000" + tail, -1, api.ErrBound},
		{"a 9999999999" + tail, -1, api.ErrBound},
		{"a 18446744073709551616" + tail, -1, api.ErrBound},
		{"a " + strings.Repeat("9", 1000) + tail, -1, api.ErrBound},
		{"a -1" + tail, -1, api.ErrBound},
		{"a -18446744073709551616" + tail, -1, api.ErrBound},
		{"a 251" + tail + strings.Repeat(" 00000001-1", 251), -1, api.ErrFull},
		{"a 0" + tail + " 811c9dc5-0", 0, api.ErrShape},
		{"a 5" + tail + " 00000001-5 00000001-65 00000001-0", 1, api.ErrShape},
		{"a 1" + tail, -1, api.ErrSum},
		{"a 5" + tail + " 00000001-4", -1, api.ErrSum},
		{strings.Repeat("x", api.MaxText), -1, api.ErrText},
		{strings.Repeat("x", api.MaxText+1), -1, api.ErrBound},
		{strings.Repeat("x", api.MaxText-11) + " 0" + tail, -1, api.ErrName},
		{strings.Repeat("x", api.MaxText-10) + " 0" + tail, -1, api.ErrBound},
		{strings.Repeat(" ", api.MaxText), -1, api.ErrText},
	} {
		r, err := Read(c.s)
		if !isZero(r) {
			t.Errorf("Read(%.40q): %v with an error", c.s, r)
		}
		wantErr(t, fmt.Sprintf("Read(%.40q)", c.s), err, c.at, c.err)
	}
}

// P31: what is read with another byte anywhere is told just so again, or refused.
func TestReadEachByte(t *testing.T) {
	good, err := Text(made(t, "x.1", strings.Repeat("a", 70)))
	if err != nil {
		t.Fatal(err)
	}
	for at := range len(good) {
		for c := range 256 {
			b := []byte(good)
			b[at] = byte(c)
			r, err := Read(string(b))
			if err != nil && isZero(r) {
				continue
			}
			if s, textErr := Text(r); err != nil || textErr != nil || s != string(b) {
				t.Errorf("Read(%q) = %v, %v", b, r, err)
			}
		}
	}
}

// P31: Join.
func TestJoinWrong(t *testing.T) {
	a, b := strings.Repeat("a", 64), strings.Repeat("b", 6)
	r := made(t, "x", a+a+b)
	bent := r
	bent.Print++
	one := made(t, "x", "hello")
	other := one
	other.IDs = []api.ID{{Print: one.IDs[0].Print + 1, Len: 5}}
	for _, c := range []struct {
		what string
		r    api.Recipe
		l    []string
		at   int
		err  error
	}{
		{"none", r, nil, -1, api.ErrShape},
		{"one fewer", r, []string{a, a}, -1, api.ErrShape},
		{"one more", r, []string{a, a, b, ""}, -1, api.ErrShape},
		{"as many bytes in fewer", r, []string{a, a + b}, -1, api.ErrShape},
		{"one of an empty recipe", made(t, "x", ""), []string{""}, -1, api.ErrShape},
		{"fewer, and others", bent, []string{b, b}, -1, api.ErrShape},
		{"the first", r, []string{b, a, b}, 0, api.ErrSum},
		{"the second", r, []string{a, b, b}, 1, api.ErrSum},
		{"the last", r, []string{a, a, b + "b"}, 2, api.ErrSum},
		{"the first of two", r, []string{a, "", a}, 1, api.ErrSum},
		{"another order", r, []string{b, a, a}, 0, api.ErrSum},
		{"a piece ahead of the Print", bent, []string{a, a, a}, 2, api.ErrSum},
		{"another print of a piece", other, []string{"hello"}, 0, api.ErrSum},
		{"another Len of a piece", api.Recipe{Name: "x", Len: 4, Print: one.Print, IDs: []api.ID{{Print: one.Print, Len: 4}}}, []string{"hello"}, 0, api.ErrSum},
		{"another byte", one, []string{"hellp"}, 0, api.ErrSum},
		{"another Print", bent, []string{a, a, b}, -1, api.ErrSum},
		{"another Print of nothing", api.Recipe{Name: "a"}, nil, -1, api.ErrSum},
	} {
		s, err := Join(c.r, c.l)
		if s != "" {
			t.Errorf("%s: %q with an error", c.what, s)
		}
		wantErr(t, "Join: "+c.what, err, c.at, c.err)
	}
}

// P31: pieces need not be those that cut makes.
func TestJoinOtherPieces(t *testing.T) {
	r := api.Recipe{Name: "a", Len: 5, Print: print.Of("hello"), IDs: []api.ID{print.ID("h"), print.ID("ell"), print.ID("o")}}
	if s, err := Join(r, []string{"h", "ell", "o"}); s != "hello" || err != nil {
		t.Errorf("%q, %v", s, err)
	}
}

// P32: what is joined of a text's recipe and its pieces is the text.
func TestJoinedIsTheText(t *testing.T) {
	for i, s := range samples() {
		if got, err := Join(made(t, "a", s), cut.Pieces(s)); got != s || err != nil {
			t.Errorf("text %d: %.40q, %v", i, got, err)
		}
	}
	if got, err := Join(made(t, "a", ""), []string{}); got != "" || err != nil {
		t.Errorf("empty list: %q, %v", got, err)
	}
}

// P4: what is handed over is only read, what lies behind its length too; answers are new memory.
func TestOnlyRead(t *testing.T) {
	s := noise(3, 500)
	r := made(t, "a", s)
	behind := append(slices.Clone(r.IDs), api.ID{Print: 0, Len: -9})
	r.IDs = behind[: len(behind)-1 : len(behind)]
	pieces := append(cut.Pieces(s), "behind")
	keptIDs, keptPieces := slices.Clone(behind), slices.Clone(pieces)
	if Check(r) != nil || Rep(r) == behind[len(behind)-1] {
		t.Error("what lies behind is read")
	}
	text, _ := Text(r)
	Join(r, pieces[:len(pieces)-1])
	read, _ := Read(text)
	for i := range read.IDs {
		read.IDs[i] = api.ID{}
	}
	again, err := Read(text)
	if err != nil || !same(again, r) {
		t.Error("what was read shows what was written into it")
	}
	if !reflect.DeepEqual(behind, keptIDs) || !reflect.DeepEqual(pieces, keptPieces) {
		t.Error("what was handed over is changed")
	}
}
