package node

import (
	"errors"
	"fmt"
	"maps"
	"math"
	"math/rand"
	"slices"
	"strings"
	"testing"

	"cornbin/api"
	"cornbin/bin"
	"cornbin/cut"
	"cornbin/print"
	"cornbin/recipe"
)

// Two texts of one print and as many bytes.
const (
	clashA = "declinate"
	clashB = "macallums"
)

// block: one byte as often as a piece may have it; whatever stands ahead of it, it is a piece.
func block(c byte) string { return strings.Repeat(string([]byte{c}), api.MaxPiece) }

// blocks: of each byte, by print.Less.
func blocks() []string {
	var l []string
	for c := range 256 {
		l = append(l, block(byte(c)))
	}
	slices.SortFunc(l, func(a, b string) int {
		if print.Less(print.ID(a), print.ID(b)) {
			return -1
		}
		return 1
	})
	return l
}

// clashingBlocks: two of one ID, each of which is a piece wherever it stands: no end is among even bytes.
func clashingBlocks(t *testing.T) (string, string) {
	t.Helper()
	r := rand.New(rand.NewSource(3))
	seen := map[uint32]string{}
	for range 1 << 20 {
		b := make([]byte, api.MaxPiece)
		for i := range b {
			b[i] = byte(2 * r.Intn(128))
		}
		s := string(b)
		if other, there := seen[print.Of(s)]; there {
			return other, s
		}
		seen[print.Of(s)] = s
	}
	t.Fatal("no two blocks of one ID")
	return "", ""
}

func put(t *testing.T, n *Node, name, s string) int {
	t.Helper()
	fresh, err := n.Put(name, s)
	if err != nil {
		t.Fatalf("Put(%q, %.20q): %v", name, s, err)
	}
	return fresh
}

func drop(t *testing.T, n *Node, names ...string) {
	t.Helper()
	for _, name := range names {
		if err := n.Drop(name); err != nil {
			t.Fatalf("Drop(%q): %v", name, err)
		}
	}
}

// model: the same by plain counting; of a bin how often each text is used.
type model struct {
	files map[string]string
	bins  map[api.ID]map[string]int
}

func newModel() *model { return &model{map[string]string{}, map[api.ID]map[string]int{}} }

func repOf(s string) api.ID {
	l := cut.Pieces(s)
	if len(l) == 0 {
		return print.ID("")
	}
	rep := print.ID(l[0])
	for _, p := range l {
		if print.Less(print.ID(p), rep) {
			rep = print.ID(p)
		}
	}
	return rep
}

func (m *model) put(name, s string) int {
	m.files[name] = s
	b := m.bins[repOf(s)]
	if b == nil {
		b = map[string]int{}
		m.bins[repOf(s)] = b
	}
	fresh := 0
	for _, p := range cut.Pieces(s) {
		if _, there := b[p]; !there {
			fresh += len(p)
		}
		b[p]++
	}
	return fresh
}

func (m *model) drop(name string) {
	s := m.files[name]
	delete(m.files, name)
	for _, p := range cut.Pieces(s) {
		m.bins[repOf(s)][p]--
	}
	for _, other := range m.files {
		if repOf(other) == repOf(s) {
			return
		}
	}
	delete(m.bins, repOf(s))
}

func (m *model) sweep() int {
	gone := 0
	for _, b := range m.bins {
		maps.DeleteFunc(b, func(p string, uses int) bool {
			if uses == 0 {
				gone += len(p)
			}
			return uses == 0
		})
	}
	return gone
}

// tell: all that calls tell of a node.
func tell(n *Node) string {
	var t strings.Builder
	fmt.Fprintln(&t, "size", n.Size())
	for _, name := range n.Names() {
		s, bad := n.Get(name)
		r, err := n.Recipe(name)
		fmt.Fprintf(&t, "%q %q %v %v %v\n", name, s, bad, r, err)
	}
	for _, rep := range n.Reps() {
		fmt.Fprintf(&t, "%v %v\n", rep, n.Bin(rep).All())
	}
	return t.String()
}

// tell: what a node like this has to tell.
func (m *model) tell() string {
	var t, bins strings.Builder
	size := 0
	for _, rep := range slices.SortedFunc(maps.Keys(m.bins), order) {
		l := []api.Held{}
		for p, uses := range m.bins[rep] {
			size += len(p)
			l = append(l, api.Held{ID: print.ID(p), Uses: uses, Text: p})
		}
		slices.SortFunc(l, func(a, b api.Held) int { return order(a.ID, b.ID) })
		fmt.Fprintf(&bins, "%v %v\n", rep, l)
	}
	fmt.Fprintln(&t, "size", size)
	for _, name := range slices.Sorted(maps.Keys(m.files)) {
		s := m.files[name]
		r := api.Recipe{Name: name, Len: len(s), Print: print.Of(s)}
		for _, p := range cut.Pieces(s) {
			r.IDs = append(r.IDs, print.ID(p))
		}
		fmt.Fprintf(&t, "%q %q %v %v %v\n", name, s, nil, r, nil)
	}
	return t.String() + bins.String()
}

func order(a, b api.ID) int {
	switch {
	case print.Less(a, b):
		return -1
	case print.Less(b, a):
		return 1
	}
	return 0
}

func wantTold(t *testing.T, what string, n *Node, want string) {
	t.Helper()
	if got := tell(n); got != want {
		t.Errorf("%s:\n%s\nwant:\n%s", what, got, want)
	}
}

// wantNoPut: the bare error, no bytes, and nothing that changes.
func wantNoPut(t *testing.T, n *Node, name, s string, want error) {
	t.Helper()
	before := tell(n)
	fresh, err := n.Put(name, s)
	if fresh != 0 || err != want {
		t.Errorf("Put(%.20q, %.20q) = %d, %#v, want the bare %v", name, s, fresh, err, want)
	}
	wantTold(t, fmt.Sprintf("behind Put(%.20q, %.20q)", name, s), n, before)
}

// wantNone: nothing of this name is there, and nothing changes.
func wantNone(t *testing.T, n *Node, name string) {
	t.Helper()
	before := tell(n)
	if s, err := n.Get(name); s != "" || err != api.ErrNone {
		t.Errorf("Get(%.20q) = %q, %#v", name, s, err)
	}
	if r, err := n.Recipe(name); fmt.Sprint(r) != fmt.Sprint(api.Recipe{}) || err != api.ErrNone {
		t.Errorf("Recipe(%.20q) = %v, %#v", name, r, err)
	}
	if err := n.Drop(name); err != api.ErrNone {
		t.Errorf("Drop(%.20q) = %#v", name, err)
	}
	wantTold(t, fmt.Sprintf("none of %.20q", name), n, before)
}

// P50: a new node has nothing.
func TestNew(t *testing.T) {
	n := New()
	wantTold(t, "new", n, "size 0\n")
	if len(n.Names()) != 0 || len(n.Reps()) != 0 || n.Sweep() != 0 || n.Bin(print.ID("")) != nil {
		t.Error("a new node has something")
	}
	wantNone(t, n, "a")
	put(t, n, "a", "text")
	wantTold(t, "another new one", New(), "size 0\n")
}

// P50: Put tells how many bytes were new, of each rep for itself; Get has the text.
func TestPut(t *testing.T) {
	l := blocks()
	low, x, y, z := l[0], l[10], l[20], l[30]
	n, m := New(), newModel()
	for _, c := range []struct {
		name, s string
		fresh   int
	}{
		{"one", low + x, 128},
		{"two", low + x, 0},
		{"twice", low + low + x + x, 0},
		{"part", low, 0},
		{"more", y + low + z, 128},
		{"own", x, 64},
		{"own2", x + x + x + "x", 1},
		{"rep", z + y, 128},
		{"empty", "", 0},
		{"empty2", "", 0},
		{"-.0", "\x00", 1},
		{"line", "a\nb\xff", 4},
		{"twelve.bytes", strings.Repeat("ab", 500), 64 + 40},
		{"most", strings.Repeat(low, 62) + strings.Repeat("q", 32), 32},
	} {
		if fresh := put(t, n, c.name, c.s); fresh != c.fresh || m.put(c.name, c.s) != fresh {
			t.Errorf("Put(%q): %d bytes are new, want %d", c.name, fresh, c.fresh)
		}
		if s, err := n.Get(c.name); s != c.s || err != nil {
			t.Errorf("Get(%q) = %q, %v", c.name, s, err)
		}
		if r, err := n.Recipe(c.name); err != nil || n.Bin(recipe.Rep(r)) == nil {
			t.Errorf("Recipe(%q) = %v, %v: no bin", c.name, r, err)
		}
		wantTold(t, "behind "+c.name, n, m.tell())
	}
}

// P50: all a file's pieces are there already, without a use: none is new; when swept, they are.
func TestPutWhatIsUnused(t *testing.T) {
	l := blocks()
	n := New()
	put(t, n, "stays", l[0])
	put(t, n, "goes", l[0]+l[1])
	drop(t, n, "goes")
	if fresh := put(t, n, "again", l[1]+l[0]); fresh != 0 {
		t.Errorf("%d bytes are new", fresh)
	}
	drop(t, n, "again")
	n.Sweep()
	if fresh := put(t, n, "again", l[1]+l[0]); fresh != 64 {
		t.Errorf("%d bytes are new when they were swept", fresh)
	}
}

// P50: Put's errors in their order.
func TestPutWrong(t *testing.T) {
	over := strings.Repeat("x", api.MaxFile+1)
	full := New()
	for k := range api.MaxFiles {
		put(t, full, fmt.Sprint("n", k), clashA)
	}
	few := New()
	put(t, few, "n0", clashA)
	for _, n := range []*Node{few, full} {
		for _, name := range []string{"", "A", "a b", "a_b", "ä", "a\n", "thirteen.byte", strings.Repeat("a", 100000), "\x00", "n0 "} {
			wantNoPut(t, n, name, "text", api.ErrName)
			wantNoPut(t, n, name, over, api.ErrName)
			wantNone(t, n, name)
		}
		for _, name := range []string{"n0", "more"} {
			wantNoPut(t, n, name, over, api.ErrBound)
			wantNoPut(t, n, name, strings.Repeat(over, 30), api.ErrBound)
		}
		for _, s := range []string{"", "text", clashA, clashB} {
			wantNoPut(t, n, "n0", s, api.ErrExist)
		}
	}
	for _, s := range []string{"", "text", clashA, clashB} {
		wantNoPut(t, full, "more", s, api.ErrFull)
	}
	wantNoPut(t, few, "more", clashB, api.ErrClash)
	drop(t, full, "n7")
	wantNoPut(t, full, "more", clashB, api.ErrClash)
	put(t, full, "more", "text")
	wantNoPut(t, full, "n7", "text", api.ErrFull)
	if len(full.Names()) != api.MaxFiles {
		t.Errorf("%d files", len(full.Names()))
	}
}

// P50: as many bytes as a file may have, in as many pieces.
func TestPutMost(t *testing.T) {
	var t16 strings.Builder
	for k := range api.MaxPieces {
		// Of 16 bytes whose last eight have a sum that ends a piece.
		t16.WriteString(fmt.Sprintf("%08d", k) + "\x00\x00\x00\x00\x00\x00\x00\x0f")
	}
	s := t16.String()
	if len(s) != api.MaxFile || len(cut.Pieces(s)) != api.MaxPieces {
		t.Fatalf("%d bytes, %d pieces", len(s), len(cut.Pieces(s)))
	}
	n := New()
	if fresh := put(t, n, "most", s); fresh != api.MaxFile || n.Size() != api.MaxFile {
		t.Errorf("%d bytes are new, of %d", fresh, n.Size())
	}
	for k := range api.MaxFiles - 1 {
		if fresh := put(t, n, fmt.Sprint("most", k), s); fresh != 0 {
			t.Errorf("again: %d bytes are new", fresh)
		}
	}
	if got, err := n.Get("most28"); got != s || err != nil {
		t.Errorf("%q, %v", got, err)
	}
}

// P50: bin.Put's ErrClash, of a bin only: in another one the same ID may have another text.
func TestPutClash(t *testing.T) {
	if print.ID(clashA) != print.ID(clashB) {
		t.Fatal("these tests need two texts of one ID")
	}
	low := blocks()[0]
	n := New()
	put(t, n, "a", low+clashA)
	wantNoPut(t, n, "b", low+clashB, api.ErrClash)
	wantNoPut(t, n, "b", low+low+block('x')+clashB, api.ErrClash)
	put(t, n, "b", clashB)
	wantNoPut(t, n, "c", clashA, api.ErrClash)
	for name, want := range map[string]string{"a": low + clashA, "b": clashB} {
		if s, err := n.Get(name); s != want || err != nil {
			t.Errorf("Get(%q) = %q, %v", name, s, err)
		}
	}
	put(t, n, "stays", low)
	drop(t, n, "a")
	wantNoPut(t, n, "c", low+clashB, api.ErrClash)
	n.Sweep()
	put(t, n, "c", low+clashB)
	drop(t, n, "b")
	put(t, n, "b", clashA)
}

// P50: a file whose own pieces clash leaves no bin.
func TestPutClashOfItsOwn(t *testing.T) {
	a, b := clashingBlocks(t)
	n := New()
	for _, s := range []string{a + b, b + a, a + a + block('x') + b} {
		wantNoPut(t, n, "a", s, api.ErrClash)
		if l := n.Reps(); len(l) != 0 {
			t.Errorf("bins %v", l)
		}
	}
	put(t, n, "a", a)
	wantNoPut(t, n, "b", b, api.ErrClash)
}

// P50: bin.Put's ErrFull, in the middle of a file; what is there already may be put still.
func TestPutFullOfPieces(t *testing.T) {
	l := blocks()
	n := New()
	at := 1
	for k := range 5 {
		most := min(at+50, api.MaxPieces)
		put(t, n, fmt.Sprint("n", k), l[0]+strings.Join(l[at:most], ""))
		at = most
	}
	if b := n.Bin(print.ID(l[0])); at != api.MaxPieces || len(b.All()) != at {
		t.Fatalf("%d pieces", len(b.All()))
	}
	wantNoPut(t, n, "more", l[0]+l[at], api.ErrFull)
	wantNoPut(t, n, "more", l[0]+l[1]+l[2]+l[at]+l[3], api.ErrFull)
	if fresh := put(t, n, "again", l[0]+l[1]+l[2]); fresh != 0 {
		t.Errorf("%d bytes are new", fresh)
	}
	if fresh := put(t, n, "own", l[at]); fresh != 64 {
		t.Errorf("in a bin of its own: %d bytes are new", fresh)
	}
	drop(t, n, "n4")
	wantNoPut(t, n, "more", l[0]+l[at], api.ErrFull)
	if gone := n.Sweep(); gone != 49*64 {
		t.Errorf("%d bytes are swept", gone)
	}
	put(t, n, "more", l[0]+l[at])
}

// P50: Get tells recipe.Join's errors, bare.
func TestGetWrong(t *testing.T) {
	change := func(f func(*api.Recipe)) *Node {
		n := New()
		put(t, n, "a", block('x')+block('y'))
		r := n.files["a"]
		f(&r)
		n.files["a"] = r
		return n
	}
	for i, c := range []struct {
		change func(*api.Recipe)
		want   error
	}{
		{func(r *api.Recipe) {}, nil},
		{func(r *api.Recipe) { r.Print++ }, api.ErrSum},
		{func(r *api.Recipe) { r.Len++ }, api.ErrSum},
		{func(r *api.Recipe) { r.Len = -1 }, api.ErrBound},
		{func(r *api.Recipe) { r.Name = "" }, api.ErrName},
		{func(r *api.Recipe) { r.IDs = append(r.IDs, api.ID{Print: math.MaxUint32}) }, api.ErrShape},
	} {
		n := change(c.change)
		if s, err := n.Get("a"); err != c.want || (s == "") != (err != nil) {
			t.Errorf("%d: %q, %#v, want the bare %v", i, s, err, c.want)
		}
	}
	n := New()
	put(t, n, "a", block('x')+block('y'))
	n.bins[n.Reps()[0]] = bin.New()
	if s, err := n.Get("a"); s != "" || err != api.ErrSum {
		t.Errorf("of an empty bin: %q, %#v", s, err)
	}
}

// P50: Drop: a use less of each piece, as often as the file has it; they stay until they are swept.
func TestDrop(t *testing.T) {
	l := blocks()
	n, m := New(), newModel()
	for name, s := range map[string]string{"a": l[0] + l[1], "b": l[0] + l[0] + l[2] + l[1], "c": l[1], "empty": ""} {
		put(t, n, name, s)
		m.put(name, s)
	}
	drop(t, n, "b")
	m.drop("b")
	wantTold(t, "dropped", n, m.tell())
	wantNone(t, n, "b")
	if n.Size() != 4*64 {
		t.Errorf("%d bytes", n.Size())
	}
	if gone := n.Sweep(); gone != 64 || m.sweep() != gone || n.Size() != 3*64 {
		t.Errorf("%d bytes are swept, %d are left", gone, n.Size())
	}
	wantTold(t, "swept", n, m.tell())
	if s, err := n.Get("a"); s != l[0]+l[1] || err != nil {
		t.Errorf("%q, %v", s, err)
	}
}

// P50: a bin goes with the last file of its rep, and only then; also one without a piece.
func TestDropLast(t *testing.T) {
	n := New()
	for _, name := range []string{"a", "b"} {
		put(t, n, name, block('x')+"y")
		put(t, n, name+"0", "")
	}
	put(t, n, "q", "q")
	rep := repOf(block('x') + "y")
	drop(t, n, "a", "a0")
	if len(n.Reps()) != 3 || n.Bin(rep) == nil || n.Bin(print.ID("")) == nil || n.Size() != 66 {
		t.Errorf("bins %v", n.Reps())
	}
	drop(t, n, "b")
	if n.Bin(rep) != nil || n.Size() != 1 {
		t.Errorf("bins %v", n.Reps())
	}
	drop(t, n, "b0")
	if n.Bin(print.ID("")) != nil || !slices.Equal(n.Reps(), []api.ID{print.ID("q")}) {
		t.Errorf("bins %v", n.Reps())
	}
	drop(t, n, "q")
	wantTold(t, "all dropped", n, "size 0\n")
	if fresh := put(t, n, "a", block('x')); fresh != 64 {
		t.Errorf("put when its bin had gone: %d bytes are new", fresh)
	}
}

// P50: a copy and its node do not see each other.
func TestCopy(t *testing.T) {
	l := blocks()
	n := New()
	put(t, n, "a", l[0]+l[1])
	put(t, n, "b", l[0]+l[2])
	put(t, n, "c", l[5])
	put(t, n, "d", l[0]+l[3])
	drop(t, n, "d")
	before := tell(n)
	for what, change := range map[string]func(*Node){
		"Put":        func(n *Node) { n.Put("e", "e") },
		"Put beside": func(n *Node) { n.Put("e", l[0]) },
		"Drop":       func(n *Node) { n.Drop("a") },
		"Drop last":  func(n *Node) { n.Drop("c") },
		"Sweep":      func(n *Node) { n.Sweep() },
	} {
		c := n.Copy()
		wantTold(t, "a copy", c, before)
		d := c.Copy()
		change(c)
		wantTold(t, what+" of a copy: the node", n, before)
		wantTold(t, what+" of a node: its copy", d, before)
		if tell(c) == before {
			t.Errorf("%s changes nothing", what)
		}
	}
	c := New().Copy()
	put(t, c, "a", "text")
	wantTold(t, "a copy of an empty one", New(), "size 0\n")
}

// P51: Names rise by their bytes, and Reps by print.Less, in whichever order they were put.
func TestListsRise(t *testing.T) {
	names := []string{"-", ".", "0", "10", "9", "a", "a-", "a.", "a0", "aa", "b", "z"}
	texts := []string{"", "costarring", "liquid"}
	for k := range len(names) - len(texts) {
		texts = append(texts, blocks()[20*k])
	}
	var reps []api.ID
	for _, s := range texts {
		reps = append(reps, repOf(s))
	}
	slices.SortFunc(reps, order)
	r := rand.New(rand.NewSource(1))
	for range 20 {
		r.Shuffle(len(texts), func(i, k int) { texts[i], texts[k] = texts[k], texts[i] })
		n := New()
		for i, k := range r.Perm(len(names)) {
			put(t, n, names[k], texts[i])
		}
		if got := n.Names(); !slices.Equal(got, names) {
			t.Errorf("names %v", got)
		}
		if got := n.Reps(); !slices.Equal(got, reps) {
			t.Errorf("reps %v, want %v", got, reps)
		}
	}
}

// P4: what is answered is new memory.
func TestAnswersAreNew(t *testing.T) {
	n := New()
	put(t, n, "a", block('x')+block('y'))
	put(t, n, "b", "b")
	c := n.Copy()
	before := tell(n)
	for i, l := 0, n.Names(); i < len(l); i++ {
		l[i] = "written"
	}
	for i, l := 0, n.Reps(); i < len(l); i++ {
		l[i] = api.ID{}
	}
	for _, n := range []*Node{n, c} {
		r, err := n.Recipe("a")
		if err != nil {
			t.Fatal(err)
		}
		r.IDs[0] = api.ID{}
		r.IDs = append(r.IDs[:1], api.ID{})
	}
	b := n.Bin(n.Reps()[0])
	b.Put("more")
	b.Fill(nil)
	wantTold(t, "written into", n, before)
	wantTold(t, "written into: the copy", c, before)
}

// P51: no bin but of a rep: of no other piece, and of nothing else.
func TestBinNone(t *testing.T) {
	n := New()
	s := block('x') + block('y') + "z"
	put(t, n, "a", s)
	for _, id := range []api.ID{{}, {Len: -1}, print.ID(""), print.ID("q"), {Len: math.MinInt}, {Print: math.MaxUint32, Len: math.MaxInt}} {
		if n.Bin(id) != nil {
			t.Errorf("a bin of %v", id)
		}
	}
	for _, p := range cut.Pieces(s) {
		if b := n.Bin(print.ID(p)); (b != nil) != (print.ID(p) == repOf(s)) {
			t.Errorf("a bin of %v: %t", print.ID(p), b != nil)
		}
	}
}

// P51: Sweep and Size are of all bins.
func TestSweepAll(t *testing.T) {
	l := blocks()
	n := New()
	for k, low := range []string{l[0], l[1], l[2]} {
		put(t, n, fmt.Sprint("stays", k), low)
		put(t, n, fmt.Sprint("goes", k), low+l[10]+l[11+k])
	}
	put(t, n, "empty", "")
	if n.Size() != 9*64 || n.Sweep() != 0 {
		t.Errorf("%d bytes", n.Size())
	}
	drop(t, n, "goes0", "goes2")
	if n.Size() != 9*64 {
		t.Errorf("%d bytes when dropped", n.Size())
	}
	if gone := n.Sweep(); gone != 4*64 || n.Size() != 5*64 || n.Sweep() != 0 {
		t.Errorf("%d bytes are swept, %d are left", gone, n.Size())
	}
	for name, want := range map[string]string{"stays0": l[0], "goes1": l[1] + l[10] + l[12], "empty": ""} {
		if s, err := n.Get(name); s != want || err != nil {
			t.Errorf("Get(%q) = %q, %v", name, s, err)
		}
	}
}

// P52: what was put is got, and the same text under another name has no new byte: held against plain counting.
func TestPutIsGot(t *testing.T) {
	r := rand.New(rand.NewSource(5))
	l := blocks()
	some := func() string {
		var s strings.Builder
		for range r.Intn(5) {
			s.WriteString(l[r.Intn(8)])
		}
		return s.String() + []string{"", "x", "yz", "end\n"}[r.Intn(4)]
	}
	n, m := New(), newModel()
	for k := range 3000 {
		name := fmt.Sprint("n", r.Intn(api.MaxFiles+10))
		_, there := m.files[name]
		switch c := r.Intn(12); {
		case c == 0:
			if got, want := n.Sweep(), m.sweep(); got != want {
				t.Fatalf("%d bytes are swept, want %d", got, want)
			}
		case c == 1:
			n = n.Copy()
		case c < 6 && there:
			drop(t, n, name)
			m.drop(name)
		case there:
			wantNoPut(t, n, name, some(), api.ErrExist)
		case len(m.files) == api.MaxFiles:
			wantNoPut(t, n, name, some(), api.ErrFull)
		default:
			s := some()
			if got, want := put(t, n, name, s), m.put(name, s); got != want {
				t.Fatalf("Put(%q, %.20q): %d bytes are new, want %d", name, s, got, want)
			}
			wantSameIsOld(t, n.Copy(), s)
		}
		if k%10 == 0 && tell(n) != m.tell() {
			t.Fatalf("round %d:\n%s\nwant:\n%s", k, tell(n), m.tell())
		}
	}
}

func wantSameIsOld(t *testing.T, n *Node, s string) {
	t.Helper()
	if len(n.Names()) == api.MaxFiles {
		return
	}
	if fresh := put(t, n, "same", s); fresh != 0 {
		t.Errorf("%.20q again: %d bytes are new", s, fresh)
	}
	if got, err := n.Get("same"); got != s || err != nil {
		t.Errorf("%.20q again: %q, %v", s, got, err)
	}
}

// P52: any bytes.
func TestAnyBytesAreGot(t *testing.T) {
	r := rand.New(rand.NewSource(9))
	for range 300 {
		b := make([]byte, r.Intn(api.MaxFile+1))
		r.Read(b)
		n := New()
		if fresh := put(t, n, "a", string(b)); fresh > len(b) || fresh != n.Size() {
			t.Fatalf("%q: %d bytes are new, of %d", b, fresh, n.Size())
		}
		wantSameIsOld(t, n, string(b))
		if s, err := n.Get("a"); s != string(b) || err != nil {
			t.Fatalf("%q: %q, %v", b, s, err)
		}
	}
}

// Files of a rep (beside the document): by names, of no other rep, and new memory.
func TestFiles(t *testing.T) {
	l := blocks()
	n := New()
	for name, s := range map[string]string{"b": l[0] + l[1], "a": l[0] + l[0], "c": l[1] + l[2], "-": l[0], "e": ""} {
		put(t, n, name, s)
	}
	before := tell(n)
	for range 2 {
		for rep, want := range map[string][]string{l[0]: {"-", "a", "b"}, l[1]: {"c"}, "": {"e"}, l[2]: nil, "q": nil} {
			var got []string
			for _, r := range n.Files(print.ID(rep)) {
				own, err := n.Recipe(r.Name)
				if fmt.Sprint(r) != fmt.Sprint(own) || err != nil {
					t.Errorf("%v, want %v, %v", r, own, err)
				}
				got = append(got, r.Name)
				for i := range r.IDs {
					r.IDs[i] = api.ID{}
				}
			}
			if !slices.Equal(got, want) {
				t.Errorf("files of %.3q: %v, want %v", rep, got, want)
			}
		}
	}
	wantTold(t, "written into", n, before)
	if got := (&Node{}).Files(print.ID("")); len(got) != 0 {
		t.Errorf("files of a node that New did not make: %v", got)
	}
}

// Take of what another node has (beside the document): all of it, and nothing that is handed over is kept.
func TestTake(t *testing.T) {
	l := blocks()
	from := New()
	for name, s := range map[string]string{"b": l[0] + l[1], "a": l[0] + l[0], "goes": l[0] + l[2], "c": l[1]} {
		put(t, from, name, s)
	}
	drop(t, from, "goes")
	rep := print.ID(l[0])
	for _, n := range []*Node{New(), {}} {
		files, pieces := from.Files(rep), from.Bin(rep).All()
		if err := n.Take(rep, files, pieces); err != nil {
			t.Fatal(err)
		}
		files[0].IDs[0], files[0].Name, pieces[0] = api.ID{}, "written", api.Held{}
		want := from.Copy()
		drop(t, want, "c")
		wantTold(t, "taken", n, tell(want))
		put(t, n, "c", l[1])
		wantTold(t, "put behind", n, tell(from))
		if fresh := put(t, n, "again", l[0]+l[2]); fresh != 0 {
			t.Errorf("%d bytes are new", fresh)
		}
	}
}

// Take's errors in their order; with one nothing changes.
func TestTakeWrong(t *testing.T) {
	l := blocks()
	n := New()
	for k := range api.MaxFiles - 1 {
		put(t, n, fmt.Sprint("n", k), l[0])
	}
	before := tell(n)
	of := func(names ...string) []api.Recipe {
		var files []api.Recipe
		for _, name := range names {
			r, err := recipe.Of(name, "x")
			if err != nil {
				t.Fatal(err)
			}
			files = append(files, r)
		}
		return files
	}
	rep, there := print.ID("x"), print.ID(l[0])
	right, wrong := []api.Held{{ID: rep, Uses: 1, Text: "x"}}, []api.Held{{ID: print.ID("")}}
	for i, c := range []struct {
		rep    api.ID
		files  []api.Recipe
		pieces []api.Held
		want   error
	}{
		{rep, of("n3"), right, api.ErrExist},
		{rep, of("a", "b", "n28"), wrong, api.ErrExist},
		{there, of("a"), right, api.ErrExist},
		{there, of("a", "b"), wrong, api.ErrExist},
		{there, nil, nil, api.ErrExist},
		{rep, of("a", "b"), right, api.ErrFull},
		{rep, of("a", "b"), wrong, api.ErrFull},
		{rep, of("a"), wrong, api.ErrBound},
		{rep, of("a"), append(right, right...), api.ErrOrder},
		{rep, of("a"), make([]api.Held, api.MaxPieces+1), api.ErrFull},
	} {
		err := n.Take(c.rep, c.files, c.pieces)
		if !errors.Is(err, c.want) {
			t.Errorf("%d: %v, want %v", i, err, c.want)
		}
		wantTold(t, fmt.Sprint("behind ", i), n, before)
	}
	if err := n.Take(rep, of("a"), right); err != nil || len(n.Names()) != api.MaxFiles {
		t.Errorf("as many as may be: %v", err)
	}
}
