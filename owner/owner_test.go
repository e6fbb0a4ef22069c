package owner

import (
	"fmt"
	"hash/fnv"
	"math"
	"slices"
	"strings"
	"testing"

	"cornbin/api"
	"cornbin/print"
)

// ids of all kinds of texts, and some that are no text's.
func ids() []api.ID {
	l := []api.ID{{}, {Print: math.MaxUint32}, {Len: math.MaxInt}, {Print: 1 << 31, Len: 999999}, {Print: math.MaxUint32, Len: 1000000}}
	for _, s := range []string{"", "a", "hello", "\x00\xff", strings.Repeat("a", 64)} {
		l = append(l, print.ID(s))
	}
	for k := range 100 {
		l = append(l, print.ID(fmt.Sprint("piece ", k)))
	}
	return l
}

// odd numbers: no nodes.
func odd() []int {
	return []int{math.MinInt, math.MinInt + 1, math.MinInt32, -257, -6, -1, 0, 7, 8, 257, math.MaxInt32, math.MaxInt - 1, math.MaxInt}
}

// nodes: each list of them that there can be, but the empty one.
func nodes() [][]int {
	var all [][]int
	for set := 1; set < 1<<6; set++ {
		var l []int
		for n := 1; n <= 6; n++ {
			if set>>(n-1)&1 == 1 {
				l = append(l, n)
			}
		}
		all = append(all, l)
	}
	return all
}

// otherScore: by the library's sum, of a text that fmt makes.
func otherScore(node int, id api.ID) uint32 {
	s := fmt.Sprintf("%08x-%d@%d", id.Print, id.Len, node)
	if id.Len < 0 {
		s = fmt.Sprintf("@%d", node)
	}
	h := fnv.New32a()
	h.Write([]byte(s))
	return h.Sum32()
}

// otherOf: by scores that stand behind one another.
func otherOf(l []int, id api.ID) int {
	best := l[0]
	for _, n := range l[1:] {
		if otherScore(n, id) > otherScore(best, id) {
			best = n
		}
	}
	return best
}

// wantErr: an error with its place, or (at below 0) a bare one.
func wantErr(t *testing.T, what string, got error, at int, want error) {
	t.Helper()
	if at < 0 {
		if got != want {
			t.Errorf("%s: %#v, want the bare %v", what, got, want)
		}
		return
	}
	f, ok := got.(*api.Fault)
	if !ok || f.At != at || f.Err != want {
		t.Errorf("%s: %#v, want %v at %d", what, got, want, at)
	}
}

func of(t *testing.T, l []int, id api.ID) int {
	t.Helper()
	n, err := Of(l, id)
	if err != nil || !slices.Contains(l, n) {
		t.Fatalf("Of(%v, %v) = %d, %v", l, id, n, err)
	}
	return n
}

func wantList(t *testing.T, what string, got []int, err error, want ...int) {
	t.Helper()
	if !slices.Equal(got, want) || err != nil {
		t.Errorf("%s: %v, %v, want %v", what, got, err, want)
	}
}

type wrong struct {
	l   []int
	at  int
	err error
}

// wrongs: lists that are no nodes, the empty one aside.
func wrongs() []wrong {
	l := []wrong{
		{[]int{0}, 0, api.ErrBound},
		{[]int{7}, 0, api.ErrBound},
		{[]int{1, 1}, 1, api.ErrOrder},
		{[]int{6, 6}, 1, api.ErrOrder},
		{[]int{2, 1}, 1, api.ErrOrder},
		{[]int{1, 3, 2}, 2, api.ErrOrder},
		{[]int{1, 2, 3, 4, 5, 6, 7}, 6, api.ErrBound},
		{[]int{1, 2, 3, 4, 5, 6, 6}, 6, api.ErrOrder},
		{[]int{1, 2, 3, 4, 5, 6, 1}, 6, api.ErrOrder},
		// Out of bounds and out of order at one place: the bound is named first.
		{[]int{1, 0}, 1, api.ErrBound},
		{[]int{3, -1}, 1, api.ErrBound},
		// Two places: the first one, whichever error it has.
		{[]int{2, 1, 9}, 1, api.ErrOrder},
		{[]int{9, 1}, 0, api.ErrBound},
		{[]int{0, 0}, 0, api.ErrBound},
		{[]int{7, 8}, 0, api.ErrBound},
		{[]int{1, 7, 2, 2}, 1, api.ErrBound},
		{[]int{1, 2, 2, 0}, 2, api.ErrOrder},
		{slices.Repeat([]int{4}, 100000), 1, api.ErrOrder},
		{slices.Repeat([]int{0}, 100000), 0, api.ErrBound},
	}
	for _, n := range odd() {
		l = append(l, wrong{[]int{n}, 0, api.ErrBound}, wrong{[]int{1, n, 2}, 1, api.ErrBound}, wrong{[]int{6, n}, 1, api.ErrBound}, wrong{[]int{n, n}, 0, api.ErrBound})
	}
	return l
}

// P80: lists that are nodes.
func TestCheckRight(t *testing.T) {
	all := nodes()
	if len(all) != 63 {
		t.Fatalf("%d lists", len(all))
	}
	for _, l := range all {
		if err := Check(l); err != nil {
			t.Errorf("Check(%v): %#v", l, err)
		}
	}
}

// P80: lists that are none.
func TestCheckWrong(t *testing.T) {
	wantErr(t, "Check of nil", Check(nil), -1, api.ErrNone)
	wantErr(t, "Check of an empty list", Check([]int{}), -1, api.ErrNone)
	for _, c := range wrongs() {
		wantErr(t, fmt.Sprintf("Check(%.40s)", fmt.Sprint(c.l)), Check(c.l), c.at, c.err)
	}
}

// P80: each list of up to four numbers in and around the bounds.
func TestCheckEachList(t *testing.T) {
	var each func(l []int)
	each = func(l []int) {
		if len(l) > 0 {
			at, want := -1, error(nil)
			for i := len(l) - 1; i >= 0; i-- {
				if i > 0 && l[i] <= l[i-1] {
					at, want = i, api.ErrOrder
				}
				if l[i] < 1 || l[i] > 6 {
					at, want = i, api.ErrBound
				}
			}
			wantErr(t, fmt.Sprintf("Check(%v)", l), Check(l), at, want)
		}
		if len(l) == 4 {
			return
		}
		for n := -1; n <= 8; n++ {
			each(append(slices.Clone(l), n))
		}
	}
	each(nil)
}

// P80: scores that were made elsewhere.
func TestScoreKnown(t *testing.T) {
	for _, c := range []struct {
		s    string
		want [6]uint32
	}{
		{"", [6]uint32{0xc7fb3365, 0xc4fb2eac, 0xc5fb303f, 0xc2fb2b86, 0xc3fb2d19, 0xc0fb2860}},
		{"a", [6]uint32{0x7b4ff036, 0x7a4feea3, 0x794fed10, 0x804ff815, 0x7f4ff682, 0x7e4ff4ef}},
		{"hello", [6]uint32{0xcb4cee5d, 0xc84ce9a4, 0xc94ceb37, 0xc64ce67e, 0xc74ce811, 0xc44ce358}},
		{strings.Repeat("a", 64), [6]uint32{0xdd38123f, 0xde3813d2, 0xdf381565, 0xd8380a60, 0xd9380bf3, 0xda380d86}},
	} {
		for i, want := range c.want {
			if got := Score(i+1, print.ID(c.s)); got != want {
				t.Errorf("Score(%d, ID of %.9q) = %08x, want %08x", i+1, c.s, got, want)
			}
		}
	}
	for n, want := range map[int]uint32{0: 0xca4cecca, -1: 0xee250b48, math.MaxInt64: 0xec9ad522, math.MinInt64: 0xd2b99ed6} {
		if got := Score(n, print.ID("hello")); got != want {
			t.Errorf("Score(%d, ID of hello) = %08x, want %08x", n, got, want)
		}
	}
	// The text of an ID whose Len is below 0 is empty.
	for _, id := range []api.ID{{Len: -1}, {Print: 7, Len: -5}, {Print: math.MaxUint32, Len: math.MinInt}} {
		if got := Score(1, id); got != 0x9fd8152a {
			t.Errorf("Score(1, %v) = %08x", id, got)
		}
		if got := Score(-1, id); got != 0x3432f0c5 {
			t.Errorf("Score(-1, %v) = %08x", id, got)
		}
	}
}

// P80: scores of any number, node or not, and any ID.
func TestScoreOfAny(t *testing.T) {
	numbers := append(odd(), 1, 2, 3, 4, 5, 6)
	for _, id := range append(ids(), api.ID{Len: -1}, api.ID{Print: 9, Len: math.MinInt}) {
		for _, n := range numbers {
			if got, want := Score(n, id), otherScore(n, id); got != want {
				t.Errorf("Score(%d, %v) = %08x, want %08x", n, id, got, want)
			}
		}
	}
}

// P80: whose it is, of known scores: the greatest, neither the least nor the one with the greatest number.
func TestOfKnown(t *testing.T) {
	for _, c := range []struct {
		l    []int
		s    string
		want int
	}{
		{[]int{1, 2, 3, 4, 5, 6}, "", 1},
		{[]int{2, 3, 4, 5, 6}, "", 3},
		{[]int{2, 6}, "", 2},
		{[]int{6}, "", 6},
		{[]int{1, 2, 3, 4, 5, 6}, "a", 4},
		{[]int{1, 2, 3, 5, 6}, "a", 5},
		{[]int{1, 2, 3, 6}, "a", 6},
		{[]int{1, 2, 3}, "a", 1},
		{[]int{1, 2, 3, 4, 5, 6}, "hello", 1},
		{[]int{2, 3, 4, 5, 6}, "hello", 3},
		{[]int{4, 5, 6}, "hello", 5},
		{[]int{1, 2, 3, 4, 5, 6}, strings.Repeat("a", 64), 3},
		{[]int{1, 2, 4, 5, 6}, strings.Repeat("a", 64), 2},
		{[]int{4, 5, 6}, strings.Repeat("a", 64), 6},
	} {
		if n, err := Of(c.l, print.ID(c.s)); n != c.want || err != nil {
			t.Errorf("Of(%v, ID of %.9q) = %d, %v, want %d", c.l, c.s, n, err, c.want)
		}
	}
}

// P80, P2: whose it is, of all nodes that there can be, time and again.
func TestOfAll(t *testing.T) {
	times := map[int]int{}
	for _, id := range ids() {
		for _, l := range nodes() {
			want := otherOf(l, id)
			for range 2 {
				if n, err := Of(l, id); n != want || err != nil {
					t.Errorf("Of(%v, %v) = %d, %v, want %d", l, id, n, err, want)
				}
			}
		}
		times[of(t, []int{1, 2, 3, 4, 5, 6}, id)]++
	}
	for n := 1; n <= 6; n++ {
		if times[n] == 0 {
			t.Errorf("nothing is node %d's", n)
		}
	}
}

// P80: no two nodes have one score of an ID, so that no list has two that are the greatest.
func TestNoTwoScoresAreOne(t *testing.T) {
	for _, id := range ids() {
		seen := map[uint32]int{}
		for n := 1; n <= 6; n++ {
			s := Score(n, id)
			if o, there := seen[s]; there {
				t.Errorf("%v: nodes %d and %d have the score %08x", id, o, n, s)
			}
			seen[s] = n
		}
	}
}

// P80: Of, its errors in their order.
func TestOfWrong(t *testing.T) {
	below := []api.ID{{Len: -1}, {Print: 5, Len: -64}, {Print: math.MaxUint32, Len: math.MinInt}}
	for _, id := range append(below, print.ID("a"), api.ID{}) {
		for _, c := range append(wrongs(), wrong{nil, -1, api.ErrNone}, wrong{[]int{}, -1, api.ErrNone}) {
			n, err := Of(c.l, id)
			if n != 0 {
				t.Errorf("Of(%.40s, %v) = %d with an error", fmt.Sprint(c.l), id, n)
			}
			wantErr(t, fmt.Sprintf("Of(%.40s, %v)", fmt.Sprint(c.l), id), err, c.at, c.err)
		}
	}
	for _, id := range below {
		for _, l := range nodes() {
			n, err := Of(l, id)
			if n != 0 {
				t.Errorf("Of(%v, %v) = %d with an error", l, id, n)
			}
			wantErr(t, fmt.Sprintf("Of(%v, %v)", l, id), err, -1, api.ErrShape)
		}
	}
}

// P80: who joins, and who leaves, of all nodes that there can be.
func TestJoinAndLeaveAll(t *testing.T) {
	for _, l := range nodes() {
		for n := 1; n <= 6; n++ {
			joined, joinErr := Join(l, n)
			left, leaveErr := Leave(l, n)
			what := fmt.Sprintf("%v and %d", l, n)
			if slices.Contains(l, n) {
				wantErr(t, "Join: "+what, joinErr, -1, api.ErrExist)
				wantList(t, "Join: "+what, joined, nil)
				wantList(t, "Leave: "+what, left, leaveErr, slices.DeleteFunc(slices.Clone(l), func(o int) bool { return o == n })...)
				continue
			}
			want := append(slices.Clone(l), n)
			slices.Sort(want)
			wantList(t, "Join: "+what, joined, joinErr, want...)
			wantErr(t, "Leave: "+what, leaveErr, -1, api.ErrNone)
			wantList(t, "Leave: "+what, left, nil)
		}
	}
}

// P80: the first one joins nobody, and the only one leaves nobody behind.
func TestFirstAndOnly(t *testing.T) {
	for n := 1; n <= 6; n++ {
		for _, none := range [][]int{nil, {}} {
			l, err := Join(none, n)
			wantList(t, fmt.Sprint("Join of none and ", n), l, err, n)
			l, err = Leave(l, n)
			wantList(t, fmt.Sprint("Leave of the only ", n), l, err)
		}
	}
}

// P80: Join, its errors in their order.
func TestJoinWrong(t *testing.T) {
	for _, n := range append(odd(), 1, 4, 6) {
		for _, c := range wrongs() {
			what := fmt.Sprintf("Join(%.40s, %d)", fmt.Sprint(c.l), n)
			l, err := Join(c.l, n)
			wantList(t, what, l, nil)
			wantErr(t, what, err, c.at, c.err)
		}
	}
	for _, n := range odd() {
		for _, right := range append(nodes(), nil, []int{}) {
			what := fmt.Sprintf("Join(%v, %d)", right, n)
			l, err := Join(right, n)
			wantList(t, what, l, nil)
			wantErr(t, what, err, -1, api.ErrBound)
		}
	}
}

// P80: Leave, its errors in their order: a number that is no node is one that is not there.
func TestLeaveWrong(t *testing.T) {
	for _, n := range append(odd(), 1, 4, 6) {
		for _, c := range append(wrongs(), wrong{nil, -1, api.ErrNone}, wrong{[]int{}, -1, api.ErrNone}) {
			what := fmt.Sprintf("Leave(%.40s, %d)", fmt.Sprint(c.l), n)
			l, err := Leave(c.l, n)
			wantList(t, what, l, nil)
			wantErr(t, what, err, c.at, c.err)
		}
	}
	for _, n := range odd() {
		for _, right := range nodes() {
			what := fmt.Sprintf("Leave(%v, %d)", right, n)
			l, err := Leave(right, n)
			wantList(t, what, l, nil)
			wantErr(t, what, err, -1, api.ErrNone)
		}
	}
}

// P81: who joins takes from others, and nobody else.
func TestWhoJoinsAloneTakes(t *testing.T) {
	took := 0
	for _, l := range nodes() {
		for n := 1; n <= 6; n++ {
			joined, err := Join(l, n)
			if err != nil {
				continue
			}
			for _, id := range ids() {
				before, now := of(t, l, id), of(t, joined, id)
				if now != before && now != n {
					t.Errorf("%v: of %v's %d joins, and %d takes it from %d", id, l, n, now, before)
				}
				if now == n {
					took++
				}
			}
		}
	}
	if took == 0 {
		t.Error("nobody who joins takes anything")
	}
}

// P81: what was another's when one leaves stays so, and what was its own goes to who is left.
func TestWhoLeavesAloneGives(t *testing.T) {
	gave := 0
	for _, l := range nodes() {
		for _, n := range l {
			left, err := Leave(l, n)
			if err != nil {
				t.Fatal(l, n, err)
			}
			if len(left) == 0 {
				continue
			}
			for _, id := range ids() {
				before, now := of(t, l, id), of(t, left, id)
				if before != n && now != before {
					t.Errorf("%v: of %v's %d leaves, and %d has what was %d's", id, l, n, now, before)
				}
				if before == n {
					gave++
				}
			}
		}
	}
	if gave == 0 {
		t.Error("nobody who leaves had anything")
	}
}

// P81: who leaves and joins again has what it had, and so have all others.
func TestThereAndBack(t *testing.T) {
	for _, l := range nodes() {
		for n := 1; n <= 6; n++ {
			there, back := Join, Leave
			if slices.Contains(l, n) {
				there, back = Leave, Join
			}
			other, err := there(l, n)
			if err != nil || len(other) == 0 {
				continue
			}
			again, err := back(other, n)
			wantList(t, fmt.Sprintf("%v, %d there and back", l, n), again, err, l...)
		}
	}
}

// P3, P4: what is handed over is only read, what lies behind its length not even that; answers are new memory.
func TestOnlyRead(t *testing.T) {
	for _, l := range nodes() {
		for n := 0; n <= 7; n++ {
			// What lies behind would be another fault, or another answer.
			behind := append(slices.Clone(l), n, 3, -9)
			kept := slices.Clone(behind)
			given := behind[:len(l)]
			if Check(given) != nil || of(t, given, print.ID("a")) != otherOf(l, print.ID("a")) {
				t.Errorf("%v: what lies behind is read", l)
			}
			for what, call := range map[string]func([]int, int) ([]int, error){"Join": Join, "Leave": Leave} {
				want, wantedErr := call(slices.Clone(l), n)
				got, err := call(given, n)
				if !slices.Equal(got, want) || err != wantedErr {
					t.Errorf("%s of %v and %d: %v, %v, want %v, %v", what, l, n, got, err, want, wantedErr)
				}
				got = got[:cap(got)]
				for i := range got {
					got[i] = 77
				}
				if !slices.Equal(behind, kept) {
					t.Fatalf("%s of %v and %d: what was handed over is %v now, it was %v", what, l, n, behind, kept)
				}
			}
		}
	}
}

// P4: an answer stays when what was handed over changes.
func TestNotKept(t *testing.T) {
	l := []int{1, 3, 5}
	joined, _ := Join(l, 4)
	left, _ := Leave(l, 1)
	l[0], l[1], l[2] = 9, 9, 9
	wantList(t, "Join", joined, nil, 1, 3, 4, 5)
	wantList(t, "Leave", left, nil, 3, 5)
}
