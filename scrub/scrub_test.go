package scrub

import (
	"errors"
	"fmt"
	"math"
	"math/rand"
	"reflect"
	"slices"
	"strings"
	"testing"

	"cornbin/api"
	"cornbin/bin"
	"cornbin/node"
	"cornbin/print"
	"cornbin/recipe"
)

// Two texts of one print and as many bytes.
const (
	clashA = "declinate"
	clashB = "macallums"
)

// block: one byte as often as a piece may have it; whatever stands ahead of it, it is a piece.
func block(c byte) string { return strings.Repeat(string([]byte{c}), api.MaxPiece) }

// blocks: of each byte, by print.Less.
func blocks() []string {
	var l []string
	for c := range 256 {
		l = append(l, block(byte(c)))
	}
	slices.SortFunc(l, func(a, b string) int { return order(print.ID(a), print.ID(b)) })
	return l
}

func order(a, b api.ID) int {
	switch {
	case print.Less(a, b):
		return -1
	case print.Less(b, a):
		return 1
	}
	return 0
}

// file: the recipe of some pieces, one behind the other.
func file(t *testing.T, name string, pieces ...string) api.Recipe {
	t.Helper()
	r, err := recipe.Of(name, strings.Join(pieces, ""))
	if err != nil || len(r.IDs) != len(pieces) {
		t.Fatalf("%q: %v, %v", name, r, err)
	}
	return r
}

// bent: the same recipe, changed.
func bent(r api.Recipe, change func(*api.Recipe)) api.Recipe {
	r.IDs = slices.Clone(r.IDs)
	change(&r)
	return r
}

func held(s string, uses int) api.Held { return api.Held{ID: print.ID(s), Uses: uses, Text: s} }

func load(rep string, l ...api.Held) Load { return Load{Rep: print.ID(rep), L: l} }

// wantErr: an error with its place, or (at below 0) a bare one.
func wantErr(t *testing.T, what string, got error, at int, want error) {
	t.Helper()
	if at < 0 {
		if got != want {
			t.Errorf("%s: %#v, want the bare %v", what, got, want)
		}
		return
	}
	f, ok := got.(*api.Fault)
	if !ok || f.At != at || f.Err != want {
		t.Errorf("%s: %#v, want %v at %d", what, got, want, at)
	}
}

type checked struct {
	what  string
	files []api.Recipe
	bins  []Load
	at    int
	want  error
}

func wantChecked(t *testing.T, l []checked) {
	t.Helper()
	for _, c := range l {
		wantErr(t, c.what, Check(c.files, c.bins), c.at, c.want)
		wantErr(t, c.what+", told otherwise", otherCheck(c.files, c.bins), c.at, c.want)
	}
}

// otherCheck: the same rule, told by looking through all lists again and again.
func otherCheck(files []api.Recipe, bins []Load) error {
	if len(files) > 30 {
		return api.ErrFull
	}
	for i, r := range files {
		if err := otherFile(files, bins, i, r); err != nil {
			return &api.Fault{At: i, Err: err}
		}
	}
	for i, b := range bins {
		if err := otherBin(files, bins, i, b); err != nil {
			return &api.Fault{At: i, Err: err}
		}
	}
	return nil
}

func otherFile(files []api.Recipe, bins []Load, i int, r api.Recipe) error {
	if err := recipe.Check(r); err != nil {
		if inner := errors.Unwrap(err); inner != nil {
			return inner
		}
		return err
	}
	if i > 0 && strings.Compare(files[i-1].Name, r.Name) >= 0 {
		return api.ErrOrder
	}
	own := slices.IndexFunc(bins, func(b Load) bool { return b.Rep == recipe.Rep(r) })
	if own < 0 {
		return api.ErrNone
	}
	for _, id := range r.IDs {
		if !slices.ContainsFunc(bins[own].L, func(h api.Held) bool { return h.ID == id }) {
			return api.ErrNone
		}
	}
	return nil
}

func otherBin(files []api.Recipe, bins []Load, i int, b Load) error {
	if i > 0 && order(bins[i-1].Rep, b.Rep) >= 0 {
		return api.ErrOrder
	}
	var ids []api.ID
	some := false
	for _, r := range files {
		if recipe.Rep(r) == b.Rep {
			ids = append(ids, r.IDs...)
			some = true
		}
	}
	if !some {
		return api.ErrShape
	}
	for k, h := range b.L {
		uses := 0
		for _, id := range ids {
			if id == h.ID {
				uses++
			}
		}
		switch {
		case print.ID(h.Text) != h.ID:
			return api.ErrSum
		case k > 0 && order(b.L[k-1].ID, h.ID) >= 0:
			return api.ErrOrder
		case h.Uses != uses:
			return api.ErrUsed
		}
	}
	return nil
}

// P60: what is right.
func TestCheckRight(t *testing.T) {
	l := blocks()
	a, b := file(t, "a", l[0], l[1]), file(t, "b", l[1], l[0], l[1])
	other, empty := file(t, "c", l[1], l[2]), file(t, "e")
	var most []api.Recipe
	for k := range api.MaxFiles {
		most = append(most, file(t, fmt.Sprintf("f%02d", k), "x"))
	}
	wantChecked(t, []checked{
		{"nothing", nil, nil, -1, nil},
		{"nothing, not nil", []api.Recipe{}, []Load{}, -1, nil},
		{"an empty file", []api.Recipe{empty}, []Load{load("")}, -1, nil},
		{"an empty list of pieces", []api.Recipe{empty}, []Load{load("", []api.Held{}...)}, -1, nil},
		{"two of a rep", []api.Recipe{a, b}, []Load{load(l[0], held(l[0], 2), held(l[1], 3))}, -1, nil},
		{"a piece in two bins", []api.Recipe{a, other}, []Load{load(l[0], held(l[0], 1), held(l[1], 1)), load(l[1], held(l[1], 1), held(l[2], 1))}, -1, nil},
		{"pieces that nobody uses", []api.Recipe{other}, []Load{load(l[1], held(l[0], 0), held(l[1], 1), held(l[2], 1), held(l[3], 0))}, -1, nil},
		{"of another print", []api.Recipe{bent(a, func(r *api.Recipe) { r.Print++ })}, []Load{load(l[0], held(l[0], 1), held(l[1], 1))}, -1, nil},
		{"as many files as may be", most, []Load{load("x", held("x", api.MaxFiles))}, -1, nil},
		{"names by their bytes", []api.Recipe{file(t, "-", "x"), file(t, ".", "x"), file(t, "10", "x"), file(t, "9", "x"), file(t, "a", "x"), file(t, "a-", "x"), file(t, "aa", "x")}, []Load{load("x", held("x", 7))}, -1, nil},
		{"one print, another length", []api.Recipe{file(t, "a", "costarring"), file(t, "b", "liquid")}, []Load{load("liquid", held("liquid", 1)), load("costarring", held("costarring", 1))}, -1, nil},
		{"a piece in an empty file's bin", []api.Recipe{empty}, []Load{load("", held("x", 0))}, -1, nil},
	})
}

// P60: what is wrong with files.
func TestCheckFiles(t *testing.T) {
	l := blocks()
	a, b, x := file(t, "a", l[0], l[1]), file(t, "b", l[0]), file(t, "x", "x")
	bins := []Load{load(l[0], held(l[0], 2), held(l[1], 1)), load("x", held("x", 1))}
	slices.SortFunc(bins, func(a, b Load) int { return order(a.Rep, b.Rep) })
	bend := func(change func(*api.Recipe)) []api.Recipe { return []api.Recipe{a, bent(b, change), x} }
	var many []api.ID
	for range api.MaxPieces + 1 {
		many = append(many, print.ID("x"))
	}
	wantChecked(t, []checked{
		{"right", []api.Recipe{a, b, x}, bins, -1, nil},
		{"one more than may be", make([]api.Recipe, api.MaxFiles+1), nil, -1, api.ErrFull},
		{"more than may be, in whichever bins", slices.Repeat([]api.Recipe{a}, 1000), []Load{{}, {}}, -1, api.ErrFull},
		{"as many as may be", make([]api.Recipe, api.MaxFiles), nil, 0, api.ErrName},
		{"no name", bend(func(r *api.Recipe) { r.Name = "" }), bins, 1, api.ErrName},
		{"a name out of bounds", bend(func(r *api.Recipe) { r.Name = "bbbbbbbbbbbbb" }), bins, 1, api.ErrName},
		{"a name of other bytes", bend(func(r *api.Recipe) { r.Name = "b_" }), bins, 1, api.ErrName},
		{"below 0", bend(func(r *api.Recipe) { r.Len = math.MinInt }), bins, 1, api.ErrBound},
		{"too long", bend(func(r *api.Recipe) { r.Len = api.MaxFile + 1 }), bins, 1, api.ErrBound},
		{"too many pieces", bend(func(r *api.Recipe) { r.IDs, r.Len = many, len(many) }), bins, 1, api.ErrFull},
		{"a piece of nothing, bare within", bend(func(r *api.Recipe) { r.IDs = append(r.IDs, print.ID("")) }), bins, 1, api.ErrShape},
		{"another sum", bend(func(r *api.Recipe) { r.Len++ }), bins, 1, api.ErrSum},
		{"another sum at the first", []api.Recipe{bent(a, func(r *api.Recipe) { r.Len-- }), a, a}, bins, 0, api.ErrSum},
		{"another sum at the last", []api.Recipe{a, b, bent(x, func(r *api.Recipe) { r.Len-- })}, bins, 2, api.ErrSum},
		{"a name twice", []api.Recipe{a, b, b, x}, bins, 2, api.ErrOrder},
		{"names that fall", []api.Recipe{b, a, x}, bins, 1, api.ErrOrder},
		{"no bin at all", []api.Recipe{a, b}, nil, 0, api.ErrNone},
		{"no bin of its rep", []api.Recipe{x}, []Load{load(l[0], held("x", 1))}, 0, api.ErrNone},
		{"no bin of a later one's rep", []api.Recipe{a, b, x}, []Load{load(l[0], held(l[0], 2), held(l[1], 1))}, 2, api.ErrNone},
		{"no bin of an empty file", []api.Recipe{a, b, file(t, "c")}, bins, 2, api.ErrNone},
		{"the first piece is not in it", []api.Recipe{a}, []Load{load(l[0], held(l[1], 1))}, 0, api.ErrNone},
		{"the last piece is not in it", []api.Recipe{b, bent(a, func(r *api.Recipe) { r.Name = "c" })}, []Load{load(l[0], held(l[0], 2))}, 1, api.ErrNone},
		{"a piece is in the bin of another rep", []api.Recipe{a}, []Load{load(l[0], held(l[0], 1)), load(l[1], held(l[1], 1))}, 0, api.ErrNone},
		{"a piece is in the second bin of its rep", []api.Recipe{a}, []Load{load(l[0], held(l[0], 1)), load(l[0], held(l[0], 1), held(l[1], 1))}, 0, api.ErrNone},
		{"of another length", []api.Recipe{file(t, "a", "liquid")}, []Load{load("costarring", held("costarring", 1))}, 0, api.ErrNone},
	})
}

// P60: what is wrong with bins.
func TestCheckBins(t *testing.T) {
	l := blocks()
	a, b, c := file(t, "a", l[0], l[2]), file(t, "b", l[1], l[2], l[2]), file(t, "c", l[0])
	files := []api.Recipe{a, b, c}
	first, second := load(l[0], held(l[0], 2), held(l[2], 1)), load(l[1], held(l[1], 1), held(l[2], 2))
	with := func(l ...api.Held) []Load { return []Load{first, {second.Rep, l}} }
	wantChecked(t, []checked{
		{"right", files, []Load{first, second}, -1, nil},
		{"reps that fall", files, []Load{second, first}, 1, api.ErrOrder},
		{"a rep twice", files, []Load{first, first, second}, 1, api.ErrOrder},
		{"a rep twice, the second bin empty", files, []Load{first, second, {Rep: second.Rep}}, 2, api.ErrOrder},
		{"reps of one print that fall", []api.Recipe{file(t, "a", "costarring"), file(t, "b", "liquid")}, []Load{load("costarring", held("costarring", 1)), load("liquid", held("liquid", 1))}, 1, api.ErrOrder},
		{"no file at all", nil, []Load{first}, 0, api.ErrShape},
		{"no file, and no piece", nil, []Load{{}}, 0, api.ErrShape},
		{"no file of its rep", files, []Load{first, second, load(l[2], held(l[2], 0))}, 2, api.ErrShape},
		{"no file of an empty file's rep", []api.Recipe{c}, []Load{load(l[0], held(l[0], 1)), {Rep: api.ID{Print: math.MaxUint32, Len: math.MaxInt}}}, 1, api.ErrShape},
		{"another text", files, with(held(l[1], 1), api.Held{ID: print.ID(l[2]), Uses: 2, Text: l[3]}), 1, api.ErrSum},
		{"no text", files, with(api.Held{ID: print.ID(l[1]), Uses: 1}, held(l[2], 2)), 1, api.ErrSum},
		{"a text that nobody uses", files, with(api.Held{ID: print.ID(l[0]), Text: "x"}, held(l[1], 1), held(l[2], 2)), 1, api.ErrSum},
		{"a text of one print", []api.Recipe{file(t, "a", "liquid")}, []Load{load("liquid", api.Held{ID: print.ID("liquid"), Uses: 1, Text: "costarring"})}, 0, api.ErrSum},
		{"pieces that fall", files, with(held(l[1], 1), held(l[2], 2), held(l[0], 0)), 1, api.ErrOrder},
		{"a piece twice", files, with(held(l[1], 1), held(l[2], 2), held(l[2], 2)), 1, api.ErrOrder},
		{"a use more", files, with(held(l[1], 1), held(l[2], 3)), 1, api.ErrUsed},
		{"a use less", files, with(held(l[1], 1), held(l[2], 1)), 1, api.ErrUsed},
		{"no use", files, with(held(l[1], 0), held(l[2], 2)), 1, api.ErrUsed},
		{"below 0", files, with(held(l[0], -1), held(l[1], 1), held(l[2], 2)), 1, api.ErrUsed},
		{"a use that is none", files, with(held(l[0], 1), held(l[1], 1), held(l[2], 2)), 1, api.ErrUsed},
		{"uses of another rep's files", files, []Load{load(l[0], held(l[0], 2), held(l[2], 3)), second}, 0, api.ErrUsed},
		{"the greatest of uses", files, with(held(l[1], 1), held(l[2], math.MaxInt)), 1, api.ErrUsed},
		{"a text of the same ID", []api.Recipe{file(t, "a", clashA)}, []Load{load(clashA, held(clashB, 1))}, -1, nil},
	})
}

// P60: several errors at once: of files, then of bins; of one thing in the order in which they are named.
func TestCheckFirst(t *testing.T) {
	l := blocks()
	a, b := file(t, "a", l[0], l[2]), file(t, "b", l[1])
	files := []api.Recipe{a, b}
	right := []Load{load(l[0], held(l[0], 1), held(l[2], 1)), load(l[1], held(l[1], 1))}
	long := func(r *api.Recipe) { r.Len++ }
	lied := func(s string) api.Held { return api.Held{ID: print.ID(s), Uses: 7, Text: "x"} }
	wantChecked(t, []checked{
		{"a recipe, out of order", []api.Recipe{b, bent(a, long)}, right, 1, api.ErrSum},
		{"a recipe, without a bin", []api.Recipe{bent(a, long)}, nil, 0, api.ErrSum},
		{"out of order, without a bin", []api.Recipe{b, file(t, "b")}, right, 1, api.ErrOrder},
		{"without a bin, ahead of a recipe", []api.Recipe{a, bent(b, long)}, right[1:], 0, api.ErrNone},
		{"out of order, ahead of a recipe", []api.Recipe{a, a, bent(b, long)}, right, 1, api.ErrOrder},
		{"files ahead of bins", files, []Load{load(l[0], lied(l[0]), held(l[2], 9)), load(l[0]), load(l[0])}, 1, api.ErrNone},
		{"bins out of order, of no file", files, []Load{right[0], right[1], load(l[0])}, 2, api.ErrOrder},
		{"of no file and out of order", []api.Recipe{b}, []Load{right[1], load(l[0], lied(l[0]))}, 1, api.ErrOrder},
		{"of no file, with another text", []api.Recipe{b}, []Load{right[1], load(l[3], lied(l[0]))}, 1, api.ErrShape},
		{"a piece of the first bin, ahead of the second's rep", files, []Load{right[0], load(l[1], held(l[1], 2)), load(l[0])}, 1, api.ErrUsed},
		{"another text, out of order, other uses", files, []Load{load(l[0], held(l[0], 1), held(l[2], 1), lied(l[1])), right[1]}, 0, api.ErrSum},
		{"out of order, other uses", files, []Load{load(l[0], held(l[0], 1), held(l[2], 1), held(l[1], 1)), right[1]}, 0, api.ErrOrder},
		{"the first piece's uses, ahead of the second's text", files, []Load{load(l[0], held(l[0], 2), lied(l[2])), right[1]}, 0, api.ErrUsed},
		{"the first piece's text, ahead of the second's uses", files, []Load{load(l[0], api.Held{ID: print.ID(l[0]), Uses: 1}, held(l[2], 2)), right[1]}, 0, api.ErrSum},
		{"the second's order, ahead of the third's text", files, []Load{load(l[0], held(l[0], 1), held(l[0], 1), lied(l[2])), right[1]}, 0, api.ErrOrder},
	})
}

// P60: files and bins that are changed at random, against the rule told otherwise.
func TestCheckAny(t *testing.T) {
	r := rand.New(rand.NewSource(6))
	tally := map[error]int{}
	for k := range 20000 {
		files, bins := someNode(t, r)
		for range r.Intn(3) {
			files, bins = change(r, files, bins)
		}
		got, want := Check(files, bins), otherCheck(files, bins)
		if !reflect.DeepEqual(got, want) {
			t.Fatalf("round %d: %#v, want %#v, of\n%v\n%v", k, got, want, files, bins)
		}
		var f *api.Fault
		if errors.As(got, &f) {
			got = f.Err
		}
		tally[got]++
	}
	for _, err := range []error{nil, api.ErrName, api.ErrOrder, api.ErrNone, api.ErrShape, api.ErrSum, api.ErrUsed} {
		if tally[err] < 100 {
			t.Errorf("only %d times %v", tally[err], err)
		}
	}
}

func someNode(t *testing.T, r *rand.Rand) ([]api.Recipe, []Load) {
	t.Helper()
	n := node.New()
	for k := range r.Intn(5) {
		if _, err := n.Put(fmt.Sprint("n", k), someText(r)); err != nil {
			t.Fatal(err)
		}
	}
	n.Drop(fmt.Sprint("n", r.Intn(9)))
	return filesOf(n), binsOf(n)
}

func someText(r *rand.Rand) string {
	var s strings.Builder
	for range r.Intn(5) {
		s.WriteString(block(byte(r.Intn(6))))
	}
	return s.String() + []string{"", "x", "costarring", "liquid", clashA}[r.Intn(5)]
}

// change one thing at random.
func change(r *rand.Rand, files []api.Recipe, bins []Load) ([]api.Recipe, []Load) {
	if r.Intn(2) == 0 && len(files) > 0 {
		return changeFiles(r, files), bins
	}
	if len(bins) > 0 {
		return files, changeBins(r, bins)
	}
	return files, append(bins, load("x", held("x", 1)))
}

func changeFiles(r *rand.Rand, files []api.Recipe) []api.Recipe {
	i, k := r.Intn(len(files)), r.Intn(len(files))
	f := &files[i]
	switch r.Intn(6) {
	case 0:
		files[i], files[k] = files[k], files[i]
	case 1:
		return slices.Delete(files, i, i+1)
	case 2:
		return slices.Insert(files, k, files[i])
	case 3:
		f.Name = []string{"", "n1", "m", "zz", "A"}[r.Intn(5)]
	case 4:
		f.Len += r.Intn(3) - 1
	default:
		if len(f.IDs) > 0 {
			f.IDs[r.Intn(len(f.IDs))] = print.ID(block(byte(r.Intn(6))))
		}
	}
	return files
}

func changeBins(r *rand.Rand, bins []Load) []Load {
	i, k := r.Intn(len(bins)), r.Intn(len(bins))
	b := &bins[i]
	switch r.Intn(5) {
	case 0:
		bins[i], bins[k] = bins[k], bins[i]
	case 1:
		return slices.Delete(bins, i, i+1)
	case 2:
		return slices.Insert(bins, k, bins[i])
	case 3:
		b.Rep = print.ID(block(byte(r.Intn(6))))
	default:
		if len(b.L) > 0 {
			b.L = changePieces(r, b.L)
		}
	}
	return bins
}

func changePieces(r *rand.Rand, l []api.Held) []api.Held {
	i, k := r.Intn(len(l)), r.Intn(len(l))
	switch r.Intn(6) {
	case 0:
		l[i], l[k] = l[k], l[i]
	case 1:
		return slices.Delete(l, i, i+1)
	case 2:
		return slices.Insert(slices.Clone(l), k, l[i])
	case 3:
		l[i].Text += "x"
	case 4:
		l[i].ID = print.ID(block(byte(r.Intn(6))))
	default:
		l[i].Uses += r.Intn(3) - 1
	}
	return l
}

// P4, P3: what is handed over is only read, and what lies behind a list's length not even that.
func TestCheckOnlyReads(t *testing.T) {
	l := blocks()
	make1 := func() ([]api.Recipe, []Load) {
		a := file(t, "a", l[0], l[1])
		a.IDs = append(a.IDs, api.ID{})[:2]
		pieces := []api.Held{held(l[0], 1), held(l[1], 1), {Uses: 9}}
		return []api.Recipe{a, {}}, []Load{{print.ID(l[0]), pieces[:2]}, {}}
	}
	files, bins := make1()
	wantErr(t, "parts of lists", Check(files[:1], bins[:1]), -1, nil)
	wantFiles, wantBins := make1()
	if !reflect.DeepEqual(files, wantFiles) || !reflect.DeepEqual(bins, wantBins) {
		t.Errorf("%v, %v", files, bins)
	}
	if behind := files[0].IDs[:3][2]; behind != (api.ID{}) {
		t.Errorf("behind the IDs: %v", behind)
	}
	if behind := bins[0].L[:3][2]; behind != (api.Held{Uses: 9}) {
		t.Errorf("behind the pieces: %v", behind)
	}
}

// P1: long lists end soon.
func TestCheckLong(t *testing.T) {
	x := file(t, "x", "x")
	pieces := slices.Repeat([]api.Held{held("y", 0)}, 200000)
	wantErr(t, "many pieces", Check([]api.Recipe{x}, []Load{{print.ID("x"), append(pieces, held("x", 1))}}), 0, api.ErrOrder)
	wantErr(t, "many bins", Check([]api.Recipe{x}, append(make([]Load, 200000), load("x", held("x", 1)))), 0, api.ErrShape)
}

// P61: nil is no node; an empty one is right.
func TestOfNone(t *testing.T) {
	wantErr(t, "nil", Of(nil), -1, api.ErrShape)
	wantErr(t, "new", Of(node.New()), -1, nil)
	wantErr(t, "nothing in it", Of(&node.Node{}), -1, nil)
}

// P61: all that a node has, in its order; and nothing of it changes.
func TestOf(t *testing.T) {
	l := blocks()
	n := node.New()
	texts := map[string]string{"b": l[0] + l[1], "a": l[0] + l[0], "e": "", "c": l[3] + l[2], "d": l[4]}
	for name, s := range texts {
		if _, err := n.Put(name, s); err != nil {
			t.Fatal(err)
		}
	}
	if err := n.Drop("b"); err != nil {
		t.Fatal(err)
	}
	wantFiles := []api.Recipe{file(t, "a", l[0], l[0]), file(t, "c", l[3], l[2]), file(t, "d", l[4]), file(t, "e")}
	wantBins := []Load{
		load(""),
		load(l[0], held(l[0], 2), held(l[1], 0)),
		load(l[2], held(l[2], 1), held(l[3], 1)),
		load(l[4], held(l[4], 1)),
	}
	slices.SortFunc(wantBins, func(a, b Load) int { return order(a.Rep, b.Rep) })
	for range 2 {
		if got := filesOf(n); !reflect.DeepEqual(got, wantFiles) {
			t.Errorf("files %v, want %v", got, wantFiles)
		}
		if got := binsOf(n); fmt.Sprint(got) != fmt.Sprint(wantBins) {
			t.Errorf("bins %v, want %v", got, wantBins)
		}
		wantErr(t, "a node", Of(n), -1, nil)
	}
}

// P61: no call makes a node wrong, so what it keeps is changed from here.
func TestOfWrong(t *testing.T) {
	l := blocks()
	inside := func(n *node.Node) (map[string]api.Recipe, map[api.ID]*bin.Bin) {
		v := reflect.ValueOf(n).Elem()
		files := (*map[string]api.Recipe)(v.FieldByName("files").Addr().UnsafePointer())
		bins := (*map[api.ID]*bin.Bin)(v.FieldByName("bins").Addr().UnsafePointer())
		return *files, *bins
	}
	for _, c := range []struct {
		what   string
		change func(map[string]api.Recipe, map[api.ID]*bin.Bin)
		at     int
		want   error
	}{
		{"nothing", func(map[string]api.Recipe, map[api.ID]*bin.Bin) {}, -1, nil},
		{"a recipe", func(files map[string]api.Recipe, _ map[api.ID]*bin.Bin) {
			files["b"] = bent(files["b"], func(r *api.Recipe) { r.Len++ })
		}, 1, api.ErrSum},
		{"a bin that is missing", func(_ map[string]api.Recipe, bins map[api.ID]*bin.Bin) { delete(bins, print.ID(l[5])) }, 2, api.ErrNone},
		{"a bin too many", func(_ map[string]api.Recipe, bins map[api.ID]*bin.Bin) { bins[print.ID(l[1])] = bin.New() }, 1, api.ErrShape},
		{"a use more", func(_ map[string]api.Recipe, bins map[api.ID]*bin.Bin) { bins[print.ID(l[5])].Put(l[5]) }, 1, api.ErrUsed},
		{"a use less", func(_ map[string]api.Recipe, bins map[api.ID]*bin.Bin) { bins[print.ID(l[0])].Drop(print.ID(l[1])) }, 0, api.ErrUsed},
	} {
		n := node.New()
		for name, s := range map[string]string{"a": l[0] + l[1], "b": l[0], "c": l[5]} {
			if _, err := n.Put(name, s); err != nil {
				t.Fatal(err)
			}
		}
		c.change(inside(n))
		wantErr(t, c.what, Of(n), c.at, c.want)
	}
}

// P62: a node is right, whatever was done, and whether it was done or refused.
func TestAlwaysRight(t *testing.T) {
	r := rand.New(rand.NewSource(62))
	tally := map[error]int{}
	n := node.New()
	for k := range 6000 {
		name := fmt.Sprint("n", r.Intn(api.MaxFiles+4))
		switch c := r.Intn(20); {
		case c == 0:
			n.Sweep()
		case c == 1:
			n = n.Copy()
		case c == 2:
			c := n.Copy()
			c.Drop(name)
			c.Sweep()
			wantErr(t, "a copy", Of(c), -1, nil)
		case c == 3:
			tally[n.Drop(name)]++
		case c == 4:
			scribble(n)
		default:
			_, err := n.Put(name, block(byte(r.Intn(3)))+wilderText(r))
			tally[err]++
		}
		if err := Of(n); err != nil {
			t.Fatalf("round %d: %v", k, err)
		}
	}
	for _, err := range []error{nil, api.ErrNone, api.ErrExist, api.ErrFull, api.ErrClash, api.ErrBound} {
		if tally[err] < 10 {
			t.Errorf("only %d times %v", tally[err], err)
		}
	}
}

func wilderText(r *rand.Rand) string {
	var s strings.Builder
	for range r.Intn(8) {
		s.WriteString(block(byte(r.Intn(256))))
	}
	return s.String() + []string{"", clashA, clashB, "x", strings.Repeat("x", api.MaxFile)}[r.Intn(5)]
}

// scribble into what a node answers.
func scribble(n *node.Node) {
	for _, name := range n.Names() {
		r, _ := n.Recipe(name)
		for i := range r.IDs {
			r.IDs[i] = api.ID{}
		}
	}
	for _, rep := range n.Reps() {
		b := n.Bin(rep)
		b.Put("scribble")
		b.Fill(nil)
	}
}
