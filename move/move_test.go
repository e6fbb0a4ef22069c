package move

import (
	"errors"
	"fmt"
	"math"
	"math/rand"
	"slices"
	"strings"
	"testing"

	"cornbin/api"
	"cornbin/bin"
	"cornbin/node"
	"cornbin/print"
	"cornbin/recipe"
	"cornbin/scrub"
)

// block: one byte as often as a piece may have it; whatever stands ahead of it, it is a piece.
func block(c byte) string { return strings.Repeat(string([]byte{c}), api.MaxPiece) }

// blocks: of each byte, by print.Less.
func blocks() []string {
	var l []string
	for c := range 256 {
		l = append(l, block(byte(c)))
	}
	slices.SortFunc(l, func(a, b string) int { return order(print.ID(a), print.ID(b)) })
	return l
}

func order(a, b api.ID) int {
	switch {
	case print.Less(a, b):
		return -1
	case print.Less(b, a):
		return 1
	}
	return 0
}

// of: a node with these files, each NAME:TEXT.
func of(t *testing.T, files ...string) *node.Node {
	t.Helper()
	n := node.New()
	put(t, n, files...)
	return n
}

func put(t *testing.T, n *node.Node, files ...string) {
	t.Helper()
	for _, f := range files {
		name, s, _ := strings.Cut(f, ":")
		if _, err := n.Put(name, s); err != nil {
			t.Fatalf("Put(%q, %.20q): %v", name, s, err)
		}
	}
}

func drop(t *testing.T, n *node.Node, names ...string) {
	t.Helper()
	for _, name := range names {
		if err := n.Drop(name); err != nil {
			t.Fatalf("Drop(%q): %v", name, err)
		}
	}
}

// line of a file that has these pieces, and of its own line end.
func line(name string, pieces ...string) string {
	s := strings.Join(pieces, "")
	t := fmt.Sprintf("%s %d %08x", name, len(s), print.Of(s))
	for _, p := range pieces {
		t += fmt.Sprintf(" %08x-%d", print.Of(p), len(p))
	}
	return t + "\n"
}

// held: a piece of a bin's text.
func held(s string, uses int) string {
	return fmt.Sprintf("%08x-%d %d\n%s\n", print.Of(s), len(s), uses, s)
}

// marked: with its print behind.
func marked(s string) string { return fmt.Sprintf("%s%08x", s, print.Of(s)) }

// told: the text of a load of so many files' lines, and a bin's text.
func told(lines, pieces string) string {
	return marked(fmt.Sprintf("load %d %d\n%s%s", strings.Count(lines, "\n"), len(pieces), lines, pieces))
}

func out(t *testing.T, n *node.Node, rep api.ID) string {
	t.Helper()
	s, err := Out(n, rep)
	if err != nil {
		t.Fatalf("Out of %v: %v", rep, err)
	}
	return s
}

// tell: all that calls tell of a node.
func tell(n *node.Node) string {
	var t strings.Builder
	fmt.Fprintln(&t, "size", n.Size())
	for _, name := range n.Names() {
		s, bad := n.Get(name)
		r, err := n.Recipe(name)
		fmt.Fprintf(&t, "%q %q %v %v %v\n", name, s, bad, r, err)
	}
	for _, rep := range n.Reps() {
		fmt.Fprintf(&t, "%v %v\n", rep, n.Bin(rep).All())
	}
	return t.String()
}

func wantTold(t *testing.T, what string, n *node.Node, want string) {
	t.Helper()
	if got := tell(n); got != want {
		t.Errorf("%s:\n%s\nwant:\n%s", what, got, want)
	}
	if err := scrub.Of(n); err != nil {
		t.Errorf("%s: the node is wrong: %v", what, err)
	}
}

// wantRefused: the bare error, no names, and nothing that changes.
func wantRefused(t *testing.T, what string, n *node.Node, s string, want error) {
	t.Helper()
	before := tell(n)
	if l, err := In(n, s); len(l) != 0 || err != want {
		t.Errorf("%s: In(%.60q) = %v, %#v, want the bare %v", what, s, l, err, want)
	}
	wantTold(t, what, n, before)
}

func wantIn(t *testing.T, what string, n *node.Node, s string, want ...string) {
	t.Helper()
	l, err := In(n, s)
	if !slices.Equal(l, want) || err != nil {
		t.Errorf("%s: In(%.60q) = %v, %v, want %v", what, s, l, err, want)
	}
	if err := scrub.Of(n); err != nil {
		t.Errorf("%s: the node is wrong: %v", what, err)
	}
}

// P70: the text of a load, and that nothing changes.
func TestOut(t *testing.T) {
	l := blocks()
	n := of(t, "b:"+l[0]+l[2], "c:"+l[1], "a:"+l[0], "-:"+l[0]+l[2]+l[2]+"a\nb", "a.:"+l[0]+l[3], "empty:", "other:x y\n")
	drop(t, n, "a.")
	before := tell(n)
	pieces := []string{l[0], l[2], "a\nb", l[3]}
	uses := map[string]int{l[0]: 3, l[2]: 3, "a\nb": 1, l[3]: 0}
	slices.SortFunc(pieces, func(a, b string) int { return order(print.ID(a), print.ID(b)) })
	var text string
	for _, p := range pieces {
		text += held(p, uses[p])
	}
	lines := line("-", l[0], l[2], l[2], "a\nb") + line("a", l[0]) + line("b", l[0], l[2])
	for _, c := range []struct {
		rep, want string
	}{
		{l[0], told(lines, text)},
		{l[1], told(line("c", l[1]), held(l[1], 1))},
		{"x y\n", told(line("other", "x y\n"), held("x y\n", 1))},
		{"", marked("load 1 0\nempty 0 811c9dc5\n")},
	} {
		for range 2 {
			if s, err := Out(n, print.ID(c.rep)); s != c.want || err != nil {
				t.Errorf("Out of %q = %q, %v, want %q", c.rep, s, err, c.want)
			}
		}
	}
	wantTold(t, "behind Out", n, before)
}

// P70: the same text of the same files, in whichever order they came.
func TestOutHangsOnFilesAlone(t *testing.T) {
	l := blocks()
	var files []string
	for k := range 12 {
		files = append(files, fmt.Sprint("n", k, ":", l[0], l[1+k], l[30-k]))
	}
	want := out(t, of(t, files...), print.ID(l[0]))
	r := rand.New(rand.NewSource(1))
	for range 20 {
		r.Shuffle(len(files), func(i, k int) { files[i], files[k] = files[k], files[i] })
		if got := out(t, of(t, files...), print.ID(l[0])); got != want {
			t.Errorf("%v:\n%q\nwant:\n%q", files, got, want)
		}
	}
}

// P70, P71: no node, and no such bin: also not of a piece that is no rep.
func TestNoBin(t *testing.T) {
	l := blocks()
	n := of(t, "a:"+l[0]+l[1])
	before := tell(n)
	ids := []api.ID{{}, {Len: -1}, print.ID(""), print.ID(l[1]), print.ID("q"), {Print: print.Of(l[0]), Len: 63}, {Print: math.MaxUint32, Len: math.MaxInt}, {Len: math.MinInt}}
	for _, id := range ids {
		wantNoBin(t, n, id, api.ErrNone)
		wantNoBin(t, node.New(), id, api.ErrNone)
		wantNoBin(t, &node.Node{}, id, api.ErrNone)
		wantNoBin(t, nil, id, api.ErrShape)
	}
	wantNoBin(t, nil, print.ID(l[0]), api.ErrShape)
	wantTold(t, "behind all", n, before)
}

func wantNoBin(t *testing.T, n *node.Node, id api.ID, want error) {
	t.Helper()
	if s, err := Out(n, id); s != "" || err != want {
		t.Errorf("Out of %v = %q, %#v, want the bare %v", id, s, err, want)
	}
	if l, err := Away(n, id); len(l) != 0 || err != want {
		t.Errorf("Away of %v = %v, %#v, want the bare %v", id, l, err, want)
	}
}

// P70: files, and their bin with what nobody uses, come beside what is there.
func TestIn(t *testing.T) {
	l := blocks()
	n := of(t, "b:"+l[0]+l[2], "a:"+l[0], "goes:"+l[0]+l[3]+l[2], "c:"+l[1])
	drop(t, n, "goes")
	o := of(t, "aa:"+l[1]+l[2], "z:third")
	s := out(t, n, print.ID(l[0]))
	wantIn(t, "two files", o, s, "a", "b")
	if got := o.Names(); !slices.Equal(got, []string{"a", "aa", "b", "z"}) {
		t.Errorf("names %v", got)
	}
	for name, want := range map[string]string{"a": l[0], "b": l[0] + l[2], "aa": l[1] + l[2], "z": "third"} {
		if got, err := o.Get(name); got != want || err != nil {
			t.Errorf("Get(%q) = %q, %v", name, got, err)
		}
	}
	if size := o.Size(); size != 5*64+5 {
		t.Errorf("%d bytes", size)
	}
	if fresh, err := o.Put("again", l[0]+l[3]); fresh != 0 || err != nil {
		t.Errorf("%d bytes are new of what nobody used, %v", fresh, err)
	}
	drop(t, o, "again")
	if gone := o.Sweep(); gone != 64 {
		t.Errorf("%d bytes are swept", gone)
	}
	wantIn(t, "an empty file", o, told("0 0 811c9dc5\n", ""), "0")
	wantIn(t, "into a new node", node.New(), s, "a", "b")
	wantIn(t, "into a node that New did not make", &node.Node{}, s, "a", "b")
}

// P70: what its words do not refuse is taken.
func TestInTakesWhatIsNotRefused(t *testing.T) {
	l := blocks()
	odd := of(t)
	wantIn(t, "pieces that are no cuts", odd, told(line("a", "he", "llo"), pieceTexts("he", 1, "llo", 1)), "a")
	if s, err := odd.Get("a"); s != "hello" || err != nil {
		t.Errorf("%q, %v", s, err)
	}
	lied := strings.Replace(line("b", l[0]), fmt.Sprintf("%08x ", print.Of(l[0])), "00000000 ", 1)
	wantIn(t, "another print of all of it", odd, told(lied, held(l[0], 1)), "b")
	if s, err := odd.Get("b"); s != "" || err != api.ErrSum {
		t.Errorf("%q, %v", s, err)
	}
	wantIn(t, "pieces that nobody uses, of an empty file", odd, told(line("c"), pieceTexts("q", 0, "r\n", 0)), "c")
}

// pieceTexts: a bin's text, of pieces and their uses, by print.Less.
func pieceTexts(l ...any) string {
	var h []api.Held
	for i := 0; i < len(l); i += 2 {
		s := l[i].(string)
		h = append(h, api.Held{ID: print.ID(s), Uses: l[i+1].(int), Text: s})
	}
	slices.SortFunc(h, func(a, b api.Held) int { return order(a.ID, b.ID) })
	return bin.Text(h)
}

// P70: texts that are none.
func TestInText(t *testing.T) {
	a := line("a", "hello")
	b := line("b", "hello")
	two := held("hello", 2)
	full := node.New()
	for k := range api.MaxFiles {
		put(t, full, fmt.Sprint("n", k, ":hello"))
	}
	head := func(s string) string { return marked(s + "\n" + a + b + two) }
	size := len(two)
	for what, s := range map[string]string{
		"nothing":                       "",
		"seven digits":                  "811c9dc",
		"a print alone":                 marked(""),
		"no head":                       marked("\n"),
		"no print":                      told(a+b, two)[:len(told(a+b, two))-8],
		"a print in capitals":           strings.ToUpper(marked("load 0 0\n")),
		"a print of other letters":      "load 0 0\n0000000g",
		"a print of seven digits":       "load 1 0\ne 0 811c9dc5\n1234567",
		"a print of nine digits":        "load 0 0\n012345678",
		"a line end behind":             told(a+b, two) + "\n",
		"a line end ahead of the print": marked(fmt.Sprint("load 2 ", size, "\n", a, b, two, "\n")),
		"another word":                  head(fmt.Sprint("loads 2 ", size)),
		"a capital":                     head(fmt.Sprint("Load 2 ", size)),
		"no word":                       head(fmt.Sprint(" 2 ", size)),
		"no word, no blank":             head(fmt.Sprint("2 ", size)),
		"a blank ahead":                 head(fmt.Sprint(" load 2 ", size)),
		"a blank behind":                head(fmt.Sprint("load 2 ", size, " ")),
		"two blanks":                    head(fmt.Sprint("load  2 ", size)),
		"two blanks between":            head(fmt.Sprint("load 2  ", size)),
		"a tab":                         head(fmt.Sprint("load\t2 ", size)),
		"a carriage return":             head(fmt.Sprint("load 2 ", size, "\r")),
		"one number":                    head("load 2"),
		"three numbers":                 head(fmt.Sprint("load 2 ", size, " 0")),
		"no number":                     head("load"),
		"a needless zero":               head(fmt.Sprint("load 02 ", size)),
		"a needless zero of the bin":    head(fmt.Sprint("load 2 0", size)),
		"a sign":                        head(fmt.Sprint("load +2 ", size)),
		"a sign of the bin":             head(fmt.Sprint("load 2 +", size)),
		"below 0":                       head(fmt.Sprint("load -2 ", size)),
		"a letter":                      head(fmt.Sprint("load a ", size)),
		"seven digits of N":             head(fmt.Sprint("load 2000000 ", size)),
		"twenty digits of N":            head(fmt.Sprint("load 18446744073709551618 ", size)),
		"seven digits of M":             head("load 2 1000000"),
		"many files":                    head(fmt.Sprint("load 999999 ", size)),
		"a file more":                   head(fmt.Sprint("load 3 ", size)),
		"a file less":                   head(fmt.Sprint("load 1 ", size)),
		"no files":                      head(fmt.Sprint("load 0 ", size)),
		"a byte more":                   head(fmt.Sprint("load 2 ", size+1)),
		"a byte less":                   head(fmt.Sprint("load 2 ", size-1)),
		"no bytes":                      head("load 2 0"),
		"all bytes":                     head(fmt.Sprint("load 2 ", size+len(a)+len(b))),
		"no number, nothing else":       marked("load x 0\n"),
		"no number of the bin":          marked("load 0 x\n"),
		"no digits":                     marked("load  0\n"),
		"no digits of the bin":          marked("load 0 \n"),
		"two zeros":                     marked("load 00 0\n"),
		"two zeros of the bin":          marked("load 0 00\n"),
		"a sign of zero":                marked("load -0 0\n"),
		"a sign of the bin's zero":      marked("load 0 -0\n"),
		"no line end of the head":       marked("load 0 0"),
		"no line end of a file":         marked("load 1 0\ne 0 811c9dc5"),
		"an empty line":                 told(a+"\n"+b, two),
		"a file without a name":         told(" 0 811c9dc5\n", ""),
		"a file with a wrong name":      told("A 0 811c9dc5\n", ""),
		"a file with a long name":       told("thirteen.byte 0 811c9dc5\n", ""),
		"a file without a print":        told("e 0\n", ""),
		"a file with two blanks":        told("e  0 811c9dc5\n", ""),
		"a file with a blank behind":    told("e 0 811c9dc5 \n", ""),
		"a file of another sum":         told(strings.Replace(a, " 5 ", " 6 ", 1), held("hello", 1)),
		"a file out of bounds":          told("e 4001 811c9dc5\n", ""),
		"a file below 0":                told("e -1 811c9dc5\n", ""),
		"a file of an empty piece":      told("e 0 811c9dc5 811c9dc5-0\n", ""),
		"a file of 251 pieces":          told(line("a", slices.Repeat([]string{"x"}, 251)...), held("x", 251)),
		"a piece of another text":       told(a, strings.Replace(held("hello", 1), "\nhello", "\nhallo", 1)),
		"a piece that is cut":           told(a, strings.TrimSuffix(held("hello", 1), "\n")),
		"a piece without its uses":      told(a, strings.Replace(held("hello", 1), " 1", "", 1)),
		"pieces twice":                  told(a, held("hello", 1)+held("hello", 1)),
		"pieces that fall":              told(a, held("a", 0)+held("hello", 1)),
		"uses of seven digits":          told(a, strings.Replace(held("hello", 1), " 1", " 1000000", 1)),
		"not a load at all":             bin.Text([]api.Held{{ID: print.ID("hello"), Uses: 1, Text: "hello"}}),
		"blanks":                        strings.Repeat(" ", api.MaxText),
		"line ends":                     strings.Repeat("\n", api.MaxText),
		"zeros":                         strings.Repeat("0", api.MaxText),
	} {
		wantRefused(t, what, of(t, "z:third"), s, api.ErrText)
		// Ahead of what the node has.
		wantRefused(t, what+", full", full, s, api.ErrText)
	}
	wantRefused(t, "right, with what is refused above", full, told(a+b, two), api.ErrExist)
}

// P70: its errors in their order: each text has all that may come behind.
func TestInFirst(t *testing.T) {
	l := blocks()
	n := of(t, "a:"+l[0], "b:x")
	over := strings.Repeat("x", api.MaxText+1)
	right := told(line("c", "hello"), held("hello", 1))
	resum := func(s string) string { return s[:len(s)-8] + "00000000" }
	a, b, c := line("a", l[0]), line("b", l[0]), line("c", l[1])
	wantRefused(t, "as long as it may be", n, over[1:], api.ErrText)
	wantRefused(t, "too long", n, over, api.ErrBound)
	wantRefused(t, "too long, with its print", n, marked(over), api.ErrBound)
	for _, s := range []struct {
		what, s string
		want    error
	}{
		{"no text, another print", resum(told("A 0 811c9dc5\n", "")), api.ErrText},
		{"no text in its bin, another print", resum(told(a, held(l[0], 1)+held(l[0], 1))), api.ErrText},
		{"another print", resum(right), api.ErrSum},
		{"another print, no files", resum(told("", held("x", 0))), api.ErrSum},
		{"another print, two reps", resum(told(c+a, held(l[0], 1))), api.ErrSum},
		{"another print, other uses", resum(told(a, held(l[0], 7))), api.ErrSum},
		{"another print, there", resum(told(a, held(l[0], 1))), api.ErrSum},
		{"no files", told("", ""), api.ErrShape},
		{"no files, but a bin", told("", held(l[0], 3)), api.ErrShape},
		{"two reps", told(a+c, pieceTexts(l[0], 1, l[1], 1)), api.ErrShape},
		{"two reps, names that fall", told(c+a, pieceTexts(l[0], 1, l[1], 1)), api.ErrShape},
		{"two reps, an empty file's ahead", told(line("0")+a, held(l[0], 1)), api.ErrShape},
		{"two reps, an empty file's behind", told(a+line("b"), held(l[0], 1)), api.ErrShape},
		{"two reps, no bin", told(a+b+c, ""), api.ErrShape},
		{"two reps, many files", told(strings.Repeat(a, 31)+c, held(l[0], 31)), api.ErrShape},
		{"many files, one name", told(strings.Repeat(a, 31), held(l[0], 31)), api.ErrFull},
		{"many files, no bin", told(strings.Repeat(a, 31), ""), api.ErrFull},
		{"one name", told(a+a, held(l[0], 2)), api.ErrOrder},
		{"names that fall", told(b+a, held(l[0], 2)), api.ErrOrder},
		{"a piece is missing, names that fall behind", told(b+a, ""), api.ErrNone},
		{"names that fall, other uses", told(b+a, held(l[0], 7)), api.ErrOrder},
		{"no piece", told(a, ""), api.ErrNone},
		{"another piece", told(a, held("x", 1)), api.ErrNone},
		{"a piece is missing", told(line("c", l[0], l[9]), held(l[0], 1)), api.ErrNone},
		{"a use more", told(line("c", "hello"), held("hello", 2)), api.ErrUsed},
		{"a use less", told(line("c", "hello"), held("hello", 0)), api.ErrUsed},
		{"other uses, there", told(a, held(l[0], 2)), api.ErrUsed},
		{"other uses of an empty file", told(line("c"), held("x", 1)), api.ErrUsed},
		{"a name is there", told(line("b", "hello"), held("hello", 1)), api.ErrExist},
		{"the second name is there", told(line("0", "hello")+line("a", "hello"), held("hello", 2)), api.ErrExist},
		{"its bin is there", told(line("c", l[0]), held(l[0], 1)), api.ErrExist},
		{"both are there", told(a, held(l[0], 1)), api.ErrExist},
		{"there, a piece out of bounds", told(a, pieceTexts("", 0, l[0], 1)), api.ErrExist},
		{"a piece of nothing", told(line("c", "hello"), pieceTexts("", 0, "hello", 1)), api.ErrBound},
		{"a piece of 65", told(line("c", "hello"), pieceTexts(l[0]+"x", 0, "hello", 1)), api.ErrBound},
	} {
		wantRefused(t, s.what, n, s.s, s.want)
	}
	wantIn(t, "right", n, right, "c")
}

// P70: without a node, whatever the text.
func TestInNoNode(t *testing.T) {
	for _, s := range []string{"", "load 0 0\n", told(line("a", "hello"), held("hello", 1)), strings.Repeat("x", api.MaxText+1)} {
		if l, err := In(nil, s); len(l) != 0 || err != api.ErrShape {
			t.Errorf("In(nil, %.30q) = %v, %#v", s, l, err)
		}
	}
}

// P70: as many files as a node may have, and no more; behind ErrExist, and ahead of bin.Fill's.
func TestInFull(t *testing.T) {
	n := node.New()
	for k := range api.MaxFiles - 2 {
		put(t, n, fmt.Sprint("n", k, ":x"))
	}
	one, two, three := line("a", "hello"), line("a", "hello")+line("b", "hello"), line("a", "hello")+line("b", "hello")+line("c", "hello")
	wantRefused(t, "one too many", n, told(three, held("hello", 3)), api.ErrFull)
	wantRefused(t, "one too many, a name is there", n, told(two+line("n0", "hello"), held("hello", 3)), api.ErrExist)
	wantRefused(t, "one too many, its bin is there", n, told(line("a", "x")+line("b", "x")+line("c", "x"), held("x", 3)), api.ErrExist)
	wantRefused(t, "one too many, a piece of nothing", n, told(three, pieceTexts("", 0, "hello", 3)), api.ErrFull)
	wantRefused(t, "a piece of nothing", n, told(two, pieceTexts("", 0, "hello", 2)), api.ErrBound)
	wantIn(t, "just as many", n.Copy(), told(two, held("hello", 2)), "a", "b")
	drop(t, n, "n7")
	wantIn(t, "when one is dropped", n.Copy(), told(three, held("hello", 3)), "a", "b", "c")
	put(t, n, "n7:x", "m0:x", "m1:x")
	wantRefused(t, "full", n, told(one, held("hello", 1)), api.ErrFull)
	all := ""
	for k := range api.MaxFiles {
		all += line(fmt.Sprint("n", 10+k), "hello")
	}
	wantIn(t, "all that may be, at once", node.New(), told(all, held("hello", api.MaxFiles)), strings.Fields("n10 n11 n12 n13 n14 n15 n16 n17 n18 n19 n20 n21 n22 n23 n24 n25 n26 n27 n28 n29 n30 n31 n32 n33 n34 n35 n36 n37 n38 n39")...)
}

// P70: as many pieces as a bin may have, and no more (bin.Fill's ErrFull, bare; of more than MaxFiles none is here).
func TestInFullOfPieces(t *testing.T) {
	var l []any
	for k := range api.MaxPieces - 1 {
		l = append(l, fmt.Sprint("p", k), 0)
	}
	a := line("a", "hello")
	wantIn(t, "as many as may be", node.New(), told(a, pieceTexts(append(l, "hello", 1)...)), "a")
	wantRefused(t, "one more", of(t, "z:third"), told(a, pieceTexts(append(l, "hello", 1, "more", 0)...)), api.ErrFull)
	wantRefused(t, "one more, there", of(t, "a:third"), told(a, pieceTexts(append(l, "hello", 1, "more", 0)...)), api.ErrExist)
	wantRefused(t, "one more, one of nothing", of(t, "z:third"), told(a, pieceTexts(append(l, "hello", 1, "", 0)...)), api.ErrFull)
}

// P70: a load that is right is read up to MaxText bytes, and not beyond; Out tells it all the same.
func TestInMost(t *testing.T) {
	n := most(t, api.MaxText)
	rep := n.Reps()[0]
	s := out(t, n, rep)
	if len(s) != api.MaxText {
		t.Fatalf("%d bytes", len(s))
	}
	wantIn(t, "as long as may be", node.New(), s, n.Names()...)
	n = most(t, api.MaxText+1)
	s = out(t, n, rep)
	if len(s) != api.MaxText+1 {
		t.Fatalf("%d bytes", len(s))
	}
	wantRefused(t, "one byte longer", node.New(), s, api.ErrBound)
	if len(n.Reps()) != 1 || scrub.Of(n) != nil {
		t.Error("the node is not as it was")
	}
}

// most: a node with files of one rep whose load has so many bytes: of short pieces, so that recipes are long; names fill up what is left.
func most(t *testing.T, size int) *node.Node {
	t.Helper()
	// Each one of 16 bytes whose last eight have a sum that ends a piece.
	var l []string
	for k := range api.MaxPieces {
		l = append(l, fmt.Sprintf("%08d", k)+"\x00\x00\x00\x00\x00\x00\x00\x0f")
	}
	slices.SortFunc(l, func(a, b string) int { return order(print.ID(a), print.ID(b)) })
	long := strings.Join(l, "")
	n := node.New()
	names := "abcdefghijklmnopqrstuvwxyz"
	k := 0
	for ; len(outWith(t, n, names[k:k+1], long)) <= size; k++ {
		put(t, n, names[k:k+1]+":"+long)
	}
	last := long
	for len(outWith(t, n, names[k:k+1], last)) > size {
		last = last[:len(last)-16]
	}
	left := size - len(outWith(t, n, names[k:k+1], last))
	put(t, n, names[k:k+1]+":"+last)
	for i := 0; left > 0; i++ {
		more := min(left, api.MaxName-1)
		drop(t, n, names[i:i+1])
		put(t, n, names[i:i+1]+strings.Repeat("-", more)+":"+long)
		left -= more
	}
	return n
}

// outWith: the load of a node that had one file more.
func outWith(t *testing.T, n *node.Node, name, s string) string {
	t.Helper()
	n = n.Copy()
	put(t, n, name+":"+s)
	return out(t, n, n.Reps()[0])
}

// P70: whichever byte is another one, whatever is cut off, and whatever comes behind.
func TestInAnyByte(t *testing.T) {
	n := of(t, "b:a\nb", "a:a\nb", "c:a\nb")
	s := out(t, n, print.ID("a\nb"))
	o := of(t, "z:third")
	before := tell(o)
	refused := func(d string) {
		if l, err := In(o, d); len(l) != 0 || err != api.ErrText && err != api.ErrSum {
			t.Errorf("In(%q) = %v, %#v", d, l, err)
		}
	}
	for k := range s {
		for c := range 256 {
			if byte(c) != s[k] {
				refused(s[:k] + string([]byte{byte(c)}) + s[k+1:])
			}
		}
		refused(s[:k])
		refused(s[k+1:])
		refused(s[:k] + s[k+1:])
		refused(s[:k] + "0" + s[k:] + "0")
	}
	for c := range 256 {
		refused(s + string([]byte{byte(c)}))
	}
	wantTold(t, "behind all", o, before)
	wantIn(t, "as it was", o, s, "a", "b", "c")
}

// P71: all files of a rep are dropped, and its bin with what nobody used; nothing else.
func TestAway(t *testing.T) {
	l := blocks()
	n := of(t, "b:"+l[0]+l[2], "c:"+l[1]+l[2], "a:"+l[0], "-:"+l[0]+l[0], "goes:"+l[0]+l[3], "d:"+l[1], "e:", "f:")
	drop(t, n, "goes")
	want := of(t, "c:"+l[1]+l[2], "d:"+l[1], "e:", "f:")
	gone, err := Away(n, print.ID(l[0]))
	if !slices.Equal(gone, []string{"-", "a", "b"}) || err != nil {
		t.Errorf("%v, %v", gone, err)
	}
	wantTold(t, "away", n, tell(want))
	wantNoBin(t, n, print.ID(l[0]), api.ErrNone)
	gone, err = Away(n, print.ID(""))
	if !slices.Equal(gone, []string{"e", "f"}) || err != nil {
		t.Errorf("%v, %v", gone, err)
	}
	wantTold(t, "away", n, tell(of(t, "c:"+l[1]+l[2], "d:"+l[1])))
	if gone, err := Away(n, print.ID(l[1])); !slices.Equal(gone, []string{"c", "d"}) || err != nil {
		t.Errorf("%v, %v", gone, err)
	}
	wantTold(t, "all away", n, "size 0\n")
	if fresh, err := n.Put("a", l[0]); fresh != 64 || err != nil {
		t.Errorf("put when it was away: %d bytes are new, %v", fresh, err)
	}
}

// P71: from a copy: the node keeps what it has, and the other way round.
func TestCopiesStay(t *testing.T) {
	n := of(t, "a:hello", "b:hello", "c:other")
	c := n.Copy()
	before := tell(n)
	if _, err := Away(c, print.ID("hello")); err != nil {
		t.Fatal(err)
	}
	wantTold(t, "away from a copy: the node", n, before)
	wantIn(t, "into the copy", c, out(t, n, print.ID("hello")), "a", "b")
	d := c.Copy()
	wantTold(t, "in again", c, before)
	drop(t, c, "a")
	wantTold(t, "dropped from a copy: the node", n, before)
	wantTold(t, "dropped from a node: its copy", d, before)
}

// P4: names are new memory.
func TestAnswersAreNew(t *testing.T) {
	n, o := of(t, "a:hello", "b:hello", "c:other"), node.New()
	l, err := In(o, out(t, n, print.ID("hello")))
	if err != nil {
		t.Fatal(err)
	}
	l[0], l = "written", append(l[:1], "written")
	wantTold(t, "written into what In answers", o, tell(of(t, "a:hello", "b:hello")))
	gone, err := Away(n, print.ID("hello"))
	if err != nil {
		t.Fatal(err)
	}
	gone[0] = "written"
	wantTold(t, "written into what Away answers", n, tell(of(t, "c:other")))
}

// Only what is beside the document makes a node wrong: then Out tells recipe.Text's error, bare.
func TestOutOfWrong(t *testing.T) {
	n := node.New()
	rep := api.ID{Print: 1}
	if err := n.Take(rep, []api.Recipe{{Name: "a", IDs: []api.ID{rep}}}, nil); err != nil {
		t.Fatal(err)
	}
	if s, err := Out(n, rep); s != "" || err != api.ErrShape {
		t.Errorf("%q, %#v", s, err)
	}
}

// P72: what goes out, and in elsewhere, is got there: any files, here and there.
func TestWhatGoesOutIsGot(t *testing.T) {
	r := rand.New(rand.NewSource(72))
	moved := 0
	for range 300 {
		n, o := someNode(t, r, "n"), someNode(t, r, "o")
		for _, rep := range n.Reps() {
			s := out(t, n, rep)
			if len(s) > api.MaxText || o.Bin(rep) != nil || len(o.Names())+len(n.Files(rep)) > api.MaxFiles {
				continue
			}
			moved++
			wantMoved(t, n, o, rep, s)
		}
	}
	if moved < 500 {
		t.Errorf("only %d loads moved", moved)
	}
}

func wantMoved(t *testing.T, n, o *node.Node, rep api.ID, s string) {
	t.Helper()
	texts := map[string]string{}
	var names []string
	for _, name := range n.Names() {
		r, err := n.Recipe(name)
		text, bad := n.Get(name)
		if err != nil || bad != nil {
			t.Fatal(err, bad)
		}
		if recipe.Rep(r) == rep {
			texts[name] = text
			names = append(names, name)
		}
	}
	sizes := n.Size() + o.Size()
	wantIn(t, "elsewhere", o, s, names...)
	if again := out(t, o, rep); again != s {
		t.Errorf("out from elsewhere: %q, want %q", again, s)
	}
	if gone, err := Away(n, rep); !slices.Equal(gone, names) || err != nil {
		t.Errorf("Away = %v, %v, want %v", gone, err, names)
	}
	for name, want := range texts {
		if got, err := o.Get(name); got != want || err != nil {
			t.Errorf("Get(%q) = %q, %v, want %q", name, got, err, want)
		}
		if _, err := n.Get(name); !errors.Is(err, api.ErrNone) {
			t.Errorf("%q is still there: %v", name, err)
		}
	}
	if n.Size()+o.Size() != sizes || scrub.Of(n) != nil {
		t.Errorf("%d and %d bytes, of %d; %v", n.Size(), o.Size(), sizes, scrub.Of(n))
	}
}

// someNode: names begin with what is given; some files are dropped, so that pieces stay that nobody uses.
func someNode(t *testing.T, r *rand.Rand, ahead string) *node.Node {
	t.Helper()
	n := node.New()
	for k := range r.Intn(14) {
		var s strings.Builder
		for range r.Intn(4) {
			s.WriteString(block(byte(r.Intn(6))))
		}
		b := make([]byte, r.Intn(2)*r.Intn(300))
		r.Read(b)
		put(t, n, fmt.Sprint(ahead, k, ":", s.String(), string(b), []string{"", "x", "\n", "load 1 0\n"}[r.Intn(4)]))
	}
	for range r.Intn(3) {
		n.Drop(fmt.Sprint(ahead, r.Intn(14)))
	}
	return n
}
