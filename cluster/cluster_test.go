package cluster

import (
	"fmt"
	"maps"
	"math"
	"math/rand"
	"slices"
	"strings"
	"testing"

	"cornbin/api"
	"cornbin/cut"
	"cornbin/move"
	"cornbin/node"
	"cornbin/owner"
	"cornbin/plain"
	"cornbin/print"
	"cornbin/scrub"
)

// Two texts of one print and as many bytes.
const (
	clashA = "declinate"
	clashB = "macallums"
)

// block: one byte as often as a piece may have it; whatever stands ahead of it, it is a piece.
func block(c byte) string { return strings.Repeat(string([]byte{c}), api.MaxPiece) }

// blocks: of each byte, by print.Less.
func blocks() []string {
	var l []string
	for c := range 256 {
		l = append(l, block(byte(c)))
	}
	slices.SortFunc(l, func(a, b string) int { return order(print.ID(a), print.ID(b)) })
	return l
}

func order(a, b api.ID) int {
	switch {
	case print.Less(a, b):
		return -1
	case print.Less(b, a):
		return 1
	}
	return 0
}

// odd numbers: no nodes.
func odd() []int {
	return []int{math.MinInt, math.MinInt32, -257, -6, -1, 0, 7, 8, 257, math.MaxInt32, math.MaxInt}
}

// lists: each list of nodes that there can be, but the empty one.
func lists() [][]int {
	var all [][]int
	for set := 1; set < 1<<6; set++ {
		var l []int
		for n := 1; n <= 6; n++ {
			if set>>(n-1)&1 == 1 {
				l = append(l, n)
			}
		}
		all = append(all, l)
	}
	return all
}

func of(t *testing.T, l ...int) *Cluster {
	t.Helper()
	c, err := New(l)
	if err != nil || c == nil {
		t.Fatalf("New(%v) = %v, %v", l, c, err)
	}
	return c
}

func put(t *testing.T, c *Cluster, name, s string) int {
	t.Helper()
	fresh, err := c.Put(name, s)
	if err != nil {
		t.Fatalf("Put(%q, %.20q): %v", name, s, err)
	}
	return fresh
}

func drop(t *testing.T, c *Cluster, names ...string) {
	t.Helper()
	for _, name := range names {
		if err := c.Drop(name); err != nil {
			t.Fatalf("Drop(%q): %v", name, err)
		}
	}
}

// repOf: the least of a text's pieces.
func repOf(s string) api.ID {
	l := cut.Pieces(s)
	if len(l) == 0 {
		return print.ID("")
	}
	return print.ID(slices.MinFunc(l, func(a, b string) int { return order(print.ID(a), print.ID(b)) }))
}

// whose: by owner.Of.
func whose(t *testing.T, l []int, rep api.ID) int {
	t.Helper()
	n, err := owner.Of(l, rep)
	if err != nil {
		t.Fatal(l, rep, err)
	}
	return n
}

// textsOf: so many short texts, each a rep of its own, that are node a's of some nodes, and node b's of others.
func textsOf(t *testing.T, many int, l []int, a int, others []int, b int) []string {
	t.Helper()
	var texts []string
	for k := 0; len(texts) < many; k++ {
		if s := fmt.Sprint("text ", k); whose(t, l, repOf(s)) == a && whose(t, others, repOf(s)) == b {
			texts = append(texts, s)
		}
	}
	return texts
}

// model: the same by plain counting, without nodes; of a bin how often each text is used.
type model struct {
	nodes []int
	files map[string]string
	bins  map[api.ID]map[string]int
}

func newModel(l ...int) *model {
	return &model{l, map[string]string{}, map[api.ID]map[string]int{}}
}

func (m *model) put(name, s string) int {
	m.files[name] = s
	b := m.bins[repOf(s)]
	if b == nil {
		b = map[string]int{}
		m.bins[repOf(s)] = b
	}
	fresh := 0
	for _, p := range cut.Pieces(s) {
		if _, there := b[p]; !there {
			fresh += len(p)
		}
		b[p]++
	}
	return fresh
}

func (m *model) drop(name string) {
	s := m.files[name]
	delete(m.files, name)
	for _, p := range cut.Pieces(s) {
		m.bins[repOf(s)][p]--
	}
	for _, other := range m.files {
		if repOf(other) == repOf(s) {
			return
		}
	}
	delete(m.bins, repOf(s))
}

func (m *model) sweep() int {
	gone := 0
	for _, b := range m.bins {
		maps.DeleteFunc(b, func(p string, uses int) bool {
			if uses == 0 {
				gone += len(p)
			}
			return uses == 0
		})
	}
	return gone
}

// many: how many files are a node's, of some nodes.
func (m *model) many(t *testing.T, l []int, i int) int {
	t.Helper()
	n := 0
	for _, s := range m.files {
		if whose(t, l, repOf(s)) == i {
			n++
		}
	}
	return n
}

// moves: how many reps are another node's of other nodes; and whether these can have them all.
func (m *model) moves(t *testing.T, l []int) (int, bool) {
	t.Helper()
	moved, fits := 0, true
	for rep := range m.bins {
		if whose(t, l, rep) != whose(t, m.nodes, rep) {
			moved++
		}
	}
	for _, i := range l {
		fits = fits && m.many(t, l, i) <= api.MaxFiles
	}
	return moved, fits
}

// tell: what a cluster like this has to tell.
func (m *model) tell(t *testing.T) string {
	t.Helper()
	var files, nodes strings.Builder
	size := 0
	for _, name := range slices.Sorted(maps.Keys(m.files)) {
		s := m.files[name]
		fmt.Fprintf(&files, "%q %q %v %d\n", name, s, nil, whose(t, m.nodes, repOf(s)))
	}
	for _, i := range m.nodes {
		fmt.Fprintf(&nodes, "node %d\n", i)
		for _, name := range slices.Sorted(maps.Keys(m.files)) {
			if s := m.files[name]; whose(t, m.nodes, repOf(s)) == i {
				fmt.Fprintf(&nodes, "%q %q\n", name, s)
			}
		}
		for _, rep := range slices.SortedFunc(maps.Keys(m.bins), order) {
			if whose(t, m.nodes, rep) != i {
				continue
			}
			l := []api.Held{}
			for p, uses := range m.bins[rep] {
				size += len(p)
				l = append(l, api.Held{ID: print.ID(p), Uses: uses, Text: p})
			}
			slices.SortFunc(l, func(a, b api.Held) int { return order(a.ID, b.ID) })
			fmt.Fprintf(&nodes, "%v %v\n", rep, l)
		}
	}
	return fmt.Sprintln(m.nodes, size) + files.String() + nodes.String()
}

// tell: all that calls tell of a cluster.
func tell(c *Cluster) string {
	var t strings.Builder
	fmt.Fprintln(&t, c.Nodes(), c.Size())
	for _, name := range c.Names() {
		s, err := c.Get(name)
		fmt.Fprintf(&t, "%q %q %v %d\n", name, s, err, c.Where(name))
	}
	for _, i := range c.Nodes() {
		n := c.Node(i)
		fmt.Fprintf(&t, "node %d\n", i)
		for _, name := range n.Names() {
			s, _ := n.Get(name)
			fmt.Fprintf(&t, "%q %q\n", name, s)
		}
		for _, rep := range n.Reps() {
			fmt.Fprintf(&t, "%v %v\n", rep, n.Bin(rep).All())
		}
	}
	return t.String()
}

// wantTold: also that its nodes are right, and each rep is where it belongs.
func wantTold(t *testing.T, what string, c *Cluster, want string) {
	t.Helper()
	if got := tell(c); got != want {
		t.Errorf("%s:\n%s\nwant:\n%s", what, got, want)
	}
	for _, i := range c.Nodes() {
		n := c.Node(i)
		if err := scrub.Of(n); err != nil {
			t.Errorf("%s: node %d is wrong: %v", what, i, err)
		}
		for _, rep := range n.Reps() {
			if w := whose(t, c.Nodes(), rep); w != i {
				t.Errorf("%s: node %d has %v, which is node %d's", what, i, rep, w)
			}
		}
	}
}

// wantRefused: the bare error, 0, and nothing that changes.
func wantRefused(t *testing.T, what string, c *Cluster, call func() (int, error), want error) {
	t.Helper()
	before := tell(c)
	if n, err := call(); n != 0 || err != want {
		t.Errorf("%s = %d, %#v, want the bare %v", what, n, err, want)
	}
	wantTold(t, "behind "+what, c, before)
}

func wantNoPut(t *testing.T, c *Cluster, name, s string, want error) {
	t.Helper()
	wantRefused(t, fmt.Sprintf("Put(%.20q, %.20q)", name, s), c, func() (int, error) { return c.Put(name, s) }, want)
}

func wantNoJoin(t *testing.T, c *Cluster, i int, want error) {
	t.Helper()
	wantRefused(t, fmt.Sprintf("Join(%d)", i), c, func() (int, error) { return c.Join(i) }, want)
}

func wantNoLeave(t *testing.T, c *Cluster, i int, want error) {
	t.Helper()
	wantRefused(t, fmt.Sprintf("Leave(%d)", i), c, func() (int, error) { return c.Leave(i) }, want)
}

func wantMoved(t *testing.T, what string, call func(int) (int, error), i, want int) {
	t.Helper()
	if n, err := call(i); n != want || err != nil {
		t.Errorf("%s(%d) = %d, %v, want %d", what, i, n, err, want)
	}
}

// wantNone: nothing of this name is there, and nothing changes.
func wantNone(t *testing.T, c *Cluster, name string) {
	t.Helper()
	before := tell(c)
	if s, err := c.Get(name); s != "" || err != api.ErrNone {
		t.Errorf("Get(%.20q) = %q, %#v", name, s, err)
	}
	if err := c.Drop(name); err != api.ErrNone {
		t.Errorf("Drop(%.20q) = %#v", name, err)
	}
	if w := c.Where(name); w != 0 {
		t.Errorf("Where(%.20q) = %d", name, w)
	}
	wantTold(t, fmt.Sprintf("none of %.20q", name), c, before)
}

// P90: a new cluster has its nodes, and nothing else.
func TestNew(t *testing.T) {
	for _, l := range lists() {
		// What lies behind the list is no node's number.
		behind := append(slices.Clone(l), 9, -1)
		c := of(t, behind[:len(l)]...)
		wantTold(t, fmt.Sprint("New ", l), c, newModel(l...).tell(t))
		if !slices.Equal(c.Nodes(), l) || len(c.Names()) != 0 || c.Size() != 0 || c.Sweep() != 0 {
			t.Errorf("New(%v): %s", l, tell(c))
		}
		wantNone(t, c, "a")
		for k := range behind {
			behind[k] = 5
		}
		wantTold(t, fmt.Sprint("written into what was handed over: ", l), c, newModel(l...).tell(t))
	}
}

// P90: New tells owner.Check's errors, with their places.
func TestNewWrong(t *testing.T) {
	wrongs := [][]int{nil, {}, {0}, {7}, {1, 1}, {2, 1}, {1, 7}, {1, 3, 2}, {1, 0}, {2, 1, 9}, {9, 1}, {1, 2, 3, 4, 5, 6, 7}, {1, 2, 3, 4, 5, 6, 6}, slices.Repeat([]int{3}, 10000)}
	for _, n := range odd() {
		wrongs = append(wrongs, []int{n}, []int{1, n}, []int{n, n})
	}
	for _, l := range wrongs {
		c, err := New(l)
		code, at := plain.Code(err)
		want, wantAt := plain.Code(owner.Check(l))
		if c != nil || err == nil || code != want || at != wantAt {
			t.Errorf("New(%.40s) = %v, %v at %d, want %d at %d", fmt.Sprint(l), c, err, at, want, wantAt)
		}
	}
	if _, err := New(nil); err != api.ErrNone {
		t.Errorf("New(nil): %#v", err)
	}
}

// P90: a file is on the node whose its rep is, of all nodes that there can be; the bytes that are new are those of its bin.
func TestPut(t *testing.T) {
	l := blocks()
	files := []struct {
		name, s string
		fresh   int
	}{
		{"one", l[0] + l[10], 128},
		{"two", l[0] + l[10], 0},
		{"twice", l[10] + l[0] + l[10], 0},
		{"own", l[10], 64},
		{"more", l[20] + l[0] + l[30], 128},
		{"rep", l[30] + l[20], 128},
		{"empty", "", 0},
		{"empty2", "", 0},
		{"-.0", "\x00", 1},
		{"line", "a\nb\xff", 4},
		{"twelve.bytes", strings.Repeat("ab", 500), 64 + 40},
		{"most", strings.Repeat(l[5], 62) + strings.Repeat("q", 32), 96},
	}
	used := map[int]int{}
	for _, nodes := range lists() {
		c, m := of(t, nodes...), newModel(nodes...)
		for _, f := range files {
			if fresh := put(t, c, f.name, f.s); fresh != f.fresh || m.put(f.name, f.s) != fresh {
				t.Errorf("%v: Put(%q): %d bytes are new, want %d", nodes, f.name, fresh, f.fresh)
			}
			used[c.Where(f.name)]++
			wantNoPut(t, c, f.name, f.s, api.ErrExist)
		}
		wantTold(t, fmt.Sprint(nodes), c, m.tell(t))
	}
	for n := 1; n <= 6; n++ {
		if used[n] == 0 {
			t.Errorf("no file is on node %d", n)
		}
	}
}

// P90: known places: of these texts, made elsewhere, and by their least piece alone.
func TestWhereKnown(t *testing.T) {
	a := block('a')
	for _, k := range []struct {
		l    []int
		s    string
		want int
	}{
		{[]int{1, 2, 3, 4, 5, 6}, "", 1},
		{[]int{2, 3, 4, 5, 6}, "", 3},
		{[]int{1, 2, 3, 4, 5, 6}, "a", 4},
		{[]int{1, 2, 3, 5, 6}, "a", 5},
		{[]int{1, 2, 3, 4, 5, 6}, "hello", 1},
		{[]int{4, 5, 6}, "hello", 5},
		{[]int{1, 2, 3, 4, 5, 6}, a, 3},
		{[]int{1, 2, 3, 4, 5, 6}, a + a + a, 3},
		{[]int{4, 5, 6}, a, 6},
		{[]int{5}, a, 5},
	} {
		c := of(t, k.l...)
		put(t, c, "x", k.s)
		if w := c.Where("x"); w != k.want {
			t.Errorf("%v: %.10q is on %d, want %d", k.l, k.s, w, k.want)
		}
	}
	// The least piece tells, not the first one.
	l := blocks()
	for k := 1; k < 40; k++ {
		c := of(t, 1, 2, 3, 4, 5, 6)
		put(t, c, "x", l[k]+l[0])
		put(t, c, "y", l[0])
		if c.Where("x") != c.Where("y") || len(c.Node(c.Where("x")).Reps()) != 1 {
			t.Errorf("%d: on %d, and %d", k, c.Where("x"), c.Where("y"))
		}
	}
}

// P90: Put's errors in their order.
func TestPutWrong(t *testing.T) {
	over := strings.Repeat("x", api.MaxFile+1)
	c := of(t, 2, 5)
	texts := textsOf(t, api.MaxFiles+1, []int{2, 5}, 2, []int{2, 5}, 2)
	fives := textsOf(t, 3, []int{2, 5}, 5, []int{2, 5}, 5)
	for k := range api.MaxFiles {
		put(t, c, fmt.Sprint("n", k), texts[k])
	}
	put(t, c, "five", fives[0])
	for _, name := range []string{"", "A", "a b", "a_b", "ä", "a\n", "thirteen.byte", strings.Repeat("a", 100000), "\x00", "n0 "} {
		for _, s := range []string{"", texts[30], fives[1], over} {
			wantNoPut(t, c, name, s, api.ErrName)
		}
		wantNone(t, c, name)
	}
	for _, name := range []string{"n0", "five", "more"} {
		wantNoPut(t, c, name, over, api.ErrBound)
		wantNoPut(t, c, name, strings.Repeat(over, 30), api.ErrBound)
	}
	// A name is there, whichever node the text would be on, full or not.
	for _, s := range []string{texts[0], texts[30], fives[0], fives[1], ""} {
		wantNoPut(t, c, "n0", s, api.ErrExist)
		wantNoPut(t, c, "five", s, api.ErrExist)
	}
	// One node is full, also of what it has already; the other one is not.
	wantNoPut(t, c, "more", texts[30], api.ErrFull)
	wantNoPut(t, c, "more", texts[0], api.ErrFull)
	put(t, c, "more", fives[1])
	wantNoPut(t, c, "more2", texts[30], api.ErrFull)
	drop(t, c, "n7")
	put(t, c, "more2", texts[30])
	wantNoPut(t, c, "n7", texts[7], api.ErrFull)
	if len(c.Names()) != api.MaxFiles+2 {
		t.Errorf("names %v", c.Names())
	}
}

// P90: bin.Put's errors come through bare: of one ID, and of a full bin.
func TestPutOfBins(t *testing.T) {
	l := blocks()
	for _, nodes := range lists() {
		c := of(t, nodes...)
		put(t, c, "a", l[0]+clashA)
		wantNoPut(t, c, "b", l[0]+clashB, api.ErrClash)
		put(t, c, "b", clashB)
		wantNoPut(t, c, "c", clashA, api.ErrClash)
		drop(t, c, "b")
		put(t, c, "c", clashA)
	}
	c := of(t, 1, 6)
	at := 1
	for k := range 5 {
		most := min(at+50, api.MaxPieces)
		put(t, c, fmt.Sprint("n", k), l[0]+strings.Join(l[at:most], ""))
		at = most
	}
	wantNoPut(t, c, "more", l[0]+l[1]+l[at], api.ErrFull)
	put(t, c, "own", l[at])
}

// P90: Get, Drop and Where of what is not there, and not there any more.
func TestNone(t *testing.T) {
	c := of(t, 1, 2, 3, 4, 5, 6)
	names := []string{"", "a", "A", "thirteen.byte", strings.Repeat("x", 100000), "\xff", "n1 ", "n"}
	for _, name := range names {
		wantNone(t, c, name)
	}
	for k := range 20 {
		put(t, c, fmt.Sprint("n", k), fmt.Sprint("text ", k))
	}
	for _, name := range names {
		wantNone(t, c, name)
	}
	for k := range 20 {
		drop(t, c, fmt.Sprint("n", k))
		wantNone(t, c, fmt.Sprint("n", k))
	}
	wantTold(t, "all dropped", c, newModel(1, 2, 3, 4, 5, 6).tell(t))
}

// P90: Names rise over all nodes, whichever has them, in whichever order they were put.
func TestNamesRise(t *testing.T) {
	names := []string{"-", ".", "0", "10", "9", "a", "a-", "a.", "a0", "aa", "b", "z"}
	r := rand.New(rand.NewSource(1))
	for range 30 {
		c := of(t, 1, 2, 3, 4, 5, 6)
		for _, k := range r.Perm(len(names)) {
			put(t, c, names[k], fmt.Sprint("text ", r.Intn(100)))
		}
		if got := c.Names(); !slices.Equal(got, names) {
			t.Errorf("names %v", got)
		}
	}
}

// P90: Sweep and Size are of all nodes.
func TestSweepAll(t *testing.T) {
	l := blocks()
	c := of(t, 1, 2, 3, 4, 5, 6)
	on := map[int]int{}
	for k := range 20 {
		put(t, c, fmt.Sprint("stays", k), l[k])
		put(t, c, fmt.Sprint("goes", k), l[k]+l[100+k])
		on[c.Where(fmt.Sprint("goes", k))]++
	}
	if len(on) < 3 || c.Size() != 40*64 || c.Sweep() != 0 {
		t.Errorf("%d bytes on %v", c.Size(), on)
	}
	for k := range 20 {
		drop(t, c, fmt.Sprint("goes", k))
	}
	if c.Size() != 40*64 {
		t.Errorf("%d bytes when dropped", c.Size())
	}
	if gone := c.Sweep(); gone != 20*64 || c.Size() != 20*64 || c.Sweep() != 0 {
		t.Errorf("%d bytes are swept, %d are left", gone, c.Size())
	}
}

// some: a cluster with files on all its nodes, and pieces that nobody uses.
func some(t *testing.T, l ...int) (*Cluster, *model) {
	t.Helper()
	b := blocks()
	c, m := of(t, l...), newModel(l...)
	for k := range 20 {
		for what, s := range map[string]string{"stays": b[k] + b[50], "goes": b[k] + b[100+k]} {
			name := fmt.Sprint(what, k)
			put(t, c, name, s)
			m.put(name, s)
		}
		drop(t, c, fmt.Sprint("goes", k))
		m.drop(fmt.Sprint("goes", k))
	}
	put(t, c, "empty", "")
	m.put("empty", "")
	return c, m
}

// P90: a copy and its cluster do not see each other.
func TestCopy(t *testing.T) {
	for what, change := range map[string]func(*Cluster){
		"Put":   func(c *Cluster) { c.Put("more", "more") },
		"Again": func(c *Cluster) { c.Put("more", blocks()[0]) },
		"Drop":  func(c *Cluster) { c.Drop("stays3") },
		"Sweep": func(c *Cluster) { c.Sweep() },
		"Join":  func(c *Cluster) { c.Join(4) },
		"Leave": func(c *Cluster) { c.Leave(1) },
	} {
		c, m := some(t, 1, 3, 6)
		d := c.Copy()
		wantTold(t, "a copy", d, m.tell(t))
		e := d.Copy()
		change(d)
		wantTold(t, what+" of a copy: the cluster", c, m.tell(t))
		wantTold(t, what+" of a cluster: its copy", e, m.tell(t))
		if tell(d) == m.tell(t) {
			t.Errorf("%s changes nothing", what)
		}
	}
	c := of(t, 2)
	d := c.Copy()
	put(t, d, "a", "text")
	wantTold(t, "a copy of an empty one", c, newModel(2).tell(t))
}

// P4, P91: what is answered is new memory, and a node is a copy.
func TestAnswersAreNew(t *testing.T) {
	c, m := some(t, 1, 3, 6)
	for i, l := 0, c.Nodes(); i < len(l); i++ {
		l[i] = 5
	}
	for i, l := 0, c.Names(); i < len(l); i++ {
		l[i] = "written"
	}
	for _, i := range c.Nodes() {
		n := c.Node(i)
		if _, err := n.Put("more", "more"); err != nil {
			t.Error(err)
		}
		for _, rep := range n.Reps() {
			if _, err := move.Away(n, rep); err != nil {
				t.Error(err)
			}
		}
		if len(n.Names()) != 0 || n.Size() != 0 {
			t.Errorf("node %d: %v", i, n.Names())
		}
	}
	wantTold(t, "written into", c, m.tell(t))
	n := c.Node(c.Where("stays0"))
	was := n.Names()
	drop(t, c, "stays0")
	if !slices.Equal(n.Names(), was) {
		t.Errorf("a node that was handed out has %v now, it had %v", n.Names(), was)
	}
}

// P91: there is no node but those of its numbers.
func TestNodeNone(t *testing.T) {
	for _, l := range lists() {
		c := of(t, l...)
		for i := 1; i <= 6; i++ {
			if n := c.Node(i); (n != nil) != slices.Contains(l, i) {
				t.Errorf("%v: node %d: %v", l, i, n)
			}
		}
		for _, i := range odd() {
			if n := c.Node(i); n != nil {
				t.Errorf("%v: node %d: %v", l, i, n)
			}
		}
	}
}

// P91: whoever joins takes what is its own, and whoever leaves gives what it had, of all nodes that there can be; pieces that nobody uses go with their bin.
func TestJoinAndLeaveAll(t *testing.T) {
	took, gave := 0, 0
	for _, l := range lists() {
		for i := 1; i <= 6; i++ {
			c, m := some(t, l...)
			size := c.Size()
			if slices.Contains(l, i) {
				wantNoJoin(t, c, i, api.ErrExist)
				if len(l) == 1 {
					wantNoLeave(t, c, i, api.ErrNone)
					continue
				}
				m.nodes = slices.DeleteFunc(slices.Clone(l), func(o int) bool { return o == i })
				reps := len(c.Node(i).Reps())
				wantMoved(t, fmt.Sprint(l, " Leave"), c.Leave, i, reps)
				gave += reps
			} else {
				wantNoLeave(t, c, i, api.ErrNone)
				m.nodes = append(slices.Clone(l), i)
				slices.Sort(m.nodes)
				want := 0
				for rep := range m.bins {
					if whose(t, m.nodes, rep) == i {
						want++
					}
				}
				wantMoved(t, fmt.Sprint(l, " Join"), c.Join, i, want)
				took += want
			}
			wantTold(t, fmt.Sprint(l, " and ", i), c, m.tell(t))
			if c.Size() != size || c.Sweep() != 20*64 {
				t.Errorf("%v and %d: %d bytes, it was %d", l, i, c.Size(), size)
			}
		}
	}
	if took == 0 || gave == 0 {
		t.Errorf("%d reps taken, %d given", took, gave)
	}
}

// P91: nothing is there to move.
func TestNothingMoves(t *testing.T) {
	c := of(t, 3)
	for _, i := range []int{6, 1, 2} {
		wantMoved(t, "Join", c.Join, i, 0)
	}
	if !slices.Equal(c.Nodes(), []int{1, 2, 3, 6}) {
		t.Errorf("nodes %v", c.Nodes())
	}
	for _, i := range []int{3, 6, 1} {
		wantMoved(t, "Leave", c.Leave, i, 0)
	}
	wantTold(t, "only 2 is left", c, newModel(2).tell(t))
	wantNoLeave(t, c, 2, api.ErrNone)
	wantMoved(t, "Join", c.Join, 3, 0)
	wantMoved(t, "Leave", c.Leave, 2, 0)
	wantTold(t, "only 3 is left", c, newModel(3).tell(t))
}

// P91: numbers that are no nodes: out of bounds for who joins, not there for who leaves.
func TestJoinAndLeaveWrong(t *testing.T) {
	for _, l := range [][]int{{4}, {1, 6}, {1, 2, 3, 4, 5, 6}} {
		c, _ := some(t, l...)
		for _, i := range odd() {
			wantNoJoin(t, c, i, api.ErrBound)
			wantNoLeave(t, c, i, api.ErrNone)
		}
	}
}

// P91: of another node's files and its own together no node has more than it may; then nothing changes, of all nodes.
func TestJoinFull(t *testing.T) {
	c := of(t, 1, 2)
	k := 0
	for _, a := range []int{1, 2} {
		for _, s := range textsOf(t, 16, []int{1, 2}, a, []int{1, 2, 3}, 3) {
			put(t, c, fmt.Sprint("n", k), s)
			k++
		}
	}
	put(t, c, "stays", textsOf(t, 1, []int{1, 2}, 2, []int{1, 2, 3}, 2)[0])
	wantNoJoin(t, c, 3, api.ErrFull)
	drop(t, c, "n3")
	wantNoJoin(t, c, 3, api.ErrFull)
	drop(t, c, "n20")
	wantMoved(t, "Join", c.Join, 3, api.MaxFiles)
	if len(c.Node(3).Names()) != api.MaxFiles || c.Where("stays") != 2 || c.Where("n0") != 3 || c.Where("n31") != 3 {
		t.Errorf("%v", c.Node(3).Names())
	}
}

// P91: what leaves has to fit where it goes; then nothing changes, also of what would have fitted elsewhere.
func TestLeaveFull(t *testing.T) {
	c := of(t, 1, 2, 3)
	for k, s := range textsOf(t, 29, []int{1, 2, 3}, 1, []int{1, 3}, 1) {
		put(t, c, fmt.Sprint("one", k), s)
	}
	for k, s := range textsOf(t, 2, []int{1, 2, 3}, 2, []int{1, 3}, 1) {
		put(t, c, fmt.Sprint("to-one", k), s)
	}
	for k, s := range textsOf(t, 5, []int{1, 2, 3}, 2, []int{1, 3}, 3) {
		put(t, c, fmt.Sprint("to-three", k), s)
	}
	wantNoLeave(t, c, 2, api.ErrFull)
	drop(t, c, "one7")
	wantMoved(t, "Leave", c.Leave, 2, 7)
	if len(c.Node(1).Names()) != api.MaxFiles || len(c.Node(3).Names()) != 5 || c.Node(2) != nil {
		t.Errorf("%v and %v", c.Node(1).Names(), c.Node(3).Names())
	}
}

// shorts: as many pieces as a bin may have, each of 16 bytes whose last eight have a sum that ends a piece; by print.Less. Another begin makes others.
func shorts(begin int) []string {
	var l []string
	for k := range api.MaxPieces {
		l = append(l, fmt.Sprintf("%08d", begin+k)+"\x00\x00\x00\x00\x00\x00\x00\x0f")
	}
	slices.SortFunc(l, func(a, b string) int { return order(print.ID(a), print.ID(b)) })
	return l
}

// big: files of such pieces, of one rep, whose load has so many bytes: names fill up what is left.
func big(t *testing.T, l []string, size int) map[string]string {
	t.Helper()
	long := strings.Join(l, "")
	files := map[string]string{}
	name := func() string { return fmt.Sprint("b", 10+len(files)) }
	for loadLen(t, files, name(), long) <= size {
		files[name()] = long
	}
	last, short := name(), long
	for loadLen(t, files, last, short) > size {
		short = short[:len(short)-api.MinPiece]
	}
	left := size - loadLen(t, files, last, short)
	for _, s := range slices.Sorted(maps.Keys(files)) {
		more := min(left, api.MaxName-len(s))
		delete(files, s)
		files[s+strings.Repeat("-", more)] = long
		left -= more
	}
	if files[last] = short; left > 0 || loadLen(t, files, last, short) != size {
		t.Fatalf("%d bytes are left of %d", left, size)
	}
	return files
}

// loadLen: how many bytes the load of these files and another one has.
func loadLen(t *testing.T, files map[string]string, name, s string) int {
	t.Helper()
	n := node.New()
	for o, text := range files {
		if _, err := n.Put(o, text); err != nil && o != name {
			t.Fatal(o, err)
		}
	}
	n.Put(name, s)
	text, err := move.Out(n, repOf(s))
	if err != nil {
		t.Fatal(err)
	}
	return len(text)
}

// bigOf: the same, that is node a's of some nodes and node b's of others; and its rep.
func bigOf(t *testing.T, size int, l []int, a int, others []int, b int) (map[string]string, api.ID) {
	t.Helper()
	for begin := 0; ; begin += 1000 {
		pieces := shorts(begin)
		rep := print.ID(pieces[0])
		if whose(t, l, rep) == a && whose(t, others, rep) == b {
			return big(t, pieces, size), rep
		}
	}
}

func putAll(t *testing.T, c *Cluster, files map[string]string) {
	t.Helper()
	for name, s := range files {
		put(t, c, name, s)
	}
}

// P91: a load of more bytes than are read stays where it is, and so does all else; move.In's ErrBound, bare.
func TestLoadTooLong(t *testing.T) {
	two, three := []int{1, 2}, []int{1, 2, 3}
	for size, want := range map[int]error{api.MaxText: nil, api.MaxText + 1: api.ErrBound} {
		joined, left := of(t, two...), of(t, three...)
		small := textsOf(t, 4, two, 2, three, 3)
		files, _ := bigOf(t, size, two, 2, three, 3)
		putAll(t, joined, files)
		putAll(t, left, files)
		for k, s := range small {
			put(t, joined, fmt.Sprint("small", k), s)
			put(t, left, fmt.Sprint("small", k), s)
		}
		if want == nil {
			wantMoved(t, "Join", joined.Join, 3, 5)
			wantMoved(t, "Leave", left.Leave, 3, 5)
			continue
		}
		wantNoJoin(t, joined, 3, want)
		wantNoLeave(t, left, 3, want)
		// Whoever leaves it where it is may come and go.
		wantMoved(t, "Leave", left.Leave, 1, 0)
		wantMoved(t, "Join", left.Join, 1, 0)
	}
}

// P3, P91: of two loads that don't fit the first one is told: by nodes, then by reps.
func TestFirstThatDoesNotFit(t *testing.T) {
	two, three := []int{1, 2}, []int{1, 2, 3}
	files, rep := bigOf(t, api.MaxText+1, two, 2, three, 3)
	ones := textsOf(t, api.MaxFiles, two, 1, three, 3)
	twos := textsOf(t, 1000, two, 2, three, 3)
	slices.SortFunc(twos, func(a, b string) int { return order(print.ID(a), print.ID(b)) })
	low, high := twos[0], twos[len(twos)-1]
	if !print.Less(print.ID(low), rep) || !print.Less(rep, print.ID(high)) {
		t.Fatal("no rep ahead of the long one, or none behind")
	}
	for _, c := range []struct {
		other string
		want  error
	}{{low, api.ErrFull}, {high, api.ErrBound}} {
		for range 5 {
			d := of(t, two...)
			putAll(t, d, files)
			put(t, d, "other", c.other)
			for k, s := range ones {
				put(t, d, fmt.Sprint("n", k), s)
			}
			wantNoJoin(t, d, 3, c.want)
		}
	}
	// On the node ahead, the long one comes first, whichever reps the other node has.
	first, _ := bigOf(t, api.MaxText+1, two, 1, three, 3)
	for range 5 {
		d := of(t, two...)
		putAll(t, d, first)
		for k := range 30 {
			put(t, d, fmt.Sprint("n", k), twos[k])
		}
		wantNoJoin(t, d, 3, api.ErrBound)
	}
}

// P92: whoever joins and leaves, each file is got, and each rep is where it belongs: held against plain counting.
func TestWhoeverComesAndGoes(t *testing.T) {
	r := rand.New(rand.NewSource(92))
	l := blocks()
	text := func() string {
		var s strings.Builder
		for range r.Intn(4) {
			s.WriteString(l[r.Intn(12)])
		}
		return s.String() + []string{"", "x", "yz", "end\n", fmt.Sprint("t", r.Intn(40))}[r.Intn(5)]
	}
	full := map[string]int{}
	c, m := of(t, 2, 5), newModel(2, 5)
	for k := range 1500 {
		name := fmt.Sprint("n", r.Intn(150))
		_, there := m.files[name]
		switch d := r.Intn(40); {
		case d == 0:
			if got, want := c.Sweep(), m.sweep(); got != want {
				t.Fatalf("%d bytes are swept, want %d", got, want)
			}
		case d == 1:
			c = c.Copy()
		case d < 6:
			full["comes and goes"] += oneComesOrGoes(t, c, m, 1+r.Intn(6))
		case d < 16 && there:
			drop(t, c, name)
			m.drop(name)
		case there:
			wantNoPut(t, c, name, text(), api.ErrExist)
		default:
			full["put"] += putOne(t, c, m, name, text())
		}
		if k%25 == 0 && tell(c) != m.tell(t) {
			t.Fatalf("round %d:\n%s\nwant:\n%s", k, tell(c), m.tell(t))
		}
	}
	wantTold(t, "behind all", c, m.tell(t))
	if full["put"] == 0 || full["comes and goes"] == 0 {
		t.Errorf("never full: %v", full)
	}
}

// putOne: 1 if its node is full.
func putOne(t *testing.T, c *Cluster, m *model, name, s string) int {
	t.Helper()
	if m.many(t, m.nodes, whose(t, m.nodes, repOf(s))) >= api.MaxFiles {
		wantNoPut(t, c, name, s, api.ErrFull)
		return 1
	}
	if got, want := put(t, c, name, s), m.put(name, s); got != want {
		t.Fatalf("Put(%q, %.20q): %d bytes are new, want %d", name, s, got, want)
	}
	return 0
}

// oneComesOrGoes: 1 if what moves doesn't fit.
func oneComesOrGoes(t *testing.T, c *Cluster, m *model, i int) int {
	t.Helper()
	call, refused := c.Join, wantNoJoin
	l, err := owner.Join(m.nodes, i)
	if err != nil {
		call, refused = c.Leave, wantNoLeave
		l, err = owner.Leave(m.nodes, i)
	}
	if err != nil || len(l) == 0 {
		wantNoLeave(t, c, i, api.ErrNone)
		return 0
	}
	moved, fits := m.moves(t, l)
	if !fits {
		refused(t, c, i, api.ErrFull)
		return 1
	}
	wantMoved(t, fmt.Sprint(m.nodes), call, i, moved)
	m.nodes = l
	wantTold(t, fmt.Sprint(l, " now"), c, m.tell(t))
	return 0
}

// P92: who leaves and comes back, in whichever order, has what it had, and so have all others.
func TestThereAndBack(t *testing.T) {
	r := rand.New(rand.NewSource(7))
	all := []int{1, 2, 3, 4, 5, 6}
	for range 20 {
		c, m := some(t, all...)
		gone := slices.Clone(all)
		r.Shuffle(len(gone), func(i, k int) { gone[i], gone[k] = gone[k], gone[i] })
		for k, i := range gone[:5] {
			wantMoved(t, "Leave", c.Leave, i, len(c.Node(i).Reps()))
			m.nodes = slices.Sorted(slices.Values(gone[k+1:]))
			wantTold(t, fmt.Sprint("left are ", m.nodes), c, m.tell(t))
		}
		back := gone[:5]
		r.Shuffle(len(back), func(i, k int) { back[i], back[k] = back[k], back[i] })
		for _, i := range back {
			if n, err := c.Join(i); err != nil || n != len(c.Node(i).Reps()) {
				t.Errorf("Join(%d) = %d, %v", i, n, err)
			}
		}
		m.nodes = all
		wantTold(t, "all back", c, m.tell(t))
	}
}
