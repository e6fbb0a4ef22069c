package once

import (
	"fmt"
	"math"
	"math/rand"
	"slices"
	"strings"
	"testing"

	"cornbin/api"
)

func wantAsk(t *testing.T, b *Table, client string, n int, want string, again bool, bad error) {
	t.Helper()
	// Errors bare: no place is told for them.
	if s, is, err := b.Ask(client, n); s != want || is != again || err != bad {
		t.Errorf("Ask(%.20q, %d) = %.20q, %v, %#v; want %.20q, %v, %v", client, n, s, is, err, want, again, bad)
	}
}

func wantNote(t *testing.T, b *Table, client string, n int, answer string, bad error) {
	t.Helper()
	if err := b.Note(client, n, answer); err != bad {
		t.Errorf("Note(%.20q, %d) = %#v, want %v", client, n, err, bad)
	}
}

func wantClients(t *testing.T, b *Table, want ...string) {
	t.Helper()
	if l := b.Clients(); !slices.Equal(l, want) {
		t.Errorf("Clients = %q, want %q", l, want)
	}
}

// full table: as many clients as there may be, each answered once.
func full(t *testing.T) *Table {
	t.Helper()
	b := New()
	for k := range api.MaxTokens {
		wantNote(t, b, fmt.Sprint("c", k), 1, fmt.Sprint("of ", k), nil)
	}
	return b
}

func names() []string {
	return []string{"a", "z", "0", ".", "-", "..", "x.1-y", "twelve-chars"}
}

func noNames() []string {
	return []string{"", "A", "thirteenchars", "a b", " a", "a\n", "a_", "ä", "\xff", "\x00", strings.Repeat("a", 100000)}
}

// odd numbers: never the next one, nor the last, of a client with few.
func odd() []int {
	return []int{math.MinInt, math.MinInt + 1, math.MinInt32, -2, -1, 0, 100, math.MaxInt32, math.MaxInt - 1, math.MaxInt}
}

// P100: New, and a new client.
func TestNew(t *testing.T) {
	b := New()
	if b == nil {
		t.Fatal("New is nil")
	}
	wantClients(t, b)
	for _, client := range names() {
		wantAsk(t, b, client, 1, "", false, nil)
		for _, n := range append(odd(), 2) {
			wantAsk(t, b, client, n, "", false, api.ErrOrder)
		}
	}
	// To ask makes no client.
	wantClients(t, b)
	if New() == b {
		t.Error("New twice is one table")
	}
}

// P100: Ask, of the last one, the next one, and all others.
func TestAsk(t *testing.T) {
	b := New()
	for _, client := range names() {
		for n := 1; n <= 12; n++ {
			wantNote(t, b, client, n, fmt.Sprint(client, " ", n), nil)
			for range 2 {
				wantAsk(t, b, client, n, fmt.Sprint(client, " ", n), true, nil)
				wantAsk(t, b, client, n+1, "", false, nil)
			}
			for k := 0; k < n; k++ {
				wantAsk(t, b, client, k, "", false, api.ErrOrder)
			}
			for _, k := range append(odd(), -n, n+2, n+3) {
				wantAsk(t, b, client, k, "", false, api.ErrOrder)
			}
		}
	}
	for _, client := range names() {
		wantAsk(t, b, client, 12, client+" 12", true, nil)
	}
	wantAsk(t, b, "other", 1, "", false, nil)
	wantAsk(t, b, "other", 12, "", false, api.ErrOrder)
	wantAsk(t, b, "other", 13, "", false, api.ErrOrder)
}

// P100: any answer is given again as it was, the empty one too.
func TestAnswers(t *testing.T) {
	b := New()
	for i, s := range []string{"", "ok", " ", "\n", "\x00", "\xff\xfe", "ä€𝄞", strings.Repeat("x", 100000), ""} {
		wantNote(t, b, "a", i+1, s, nil)
		wantAsk(t, b, "a", i+1, s, true, nil)
	}
}

// P100: what is no name, whatever the number, and also where the table is full.
func TestNoName(t *testing.T) {
	for _, b := range []*Table{New(), full(t)} {
		before := b.Clients()
		for _, client := range noNames() {
			for _, n := range append(odd(), 1, 2) {
				wantAsk(t, b, client, n, "", false, api.ErrName)
				wantNote(t, b, client, n, "x", api.ErrName)
			}
		}
		wantClients(t, b, before...)
	}
}

// P100, P101: Note of a number that is not the next one; nothing changes.
func TestNoteOrder(t *testing.T) {
	b := New()
	for n := 1; n <= 9; n++ {
		for k := 0; k < n; k++ {
			wantNote(t, b, "a", k, "wrong", api.ErrOrder)
		}
		for _, k := range append(odd(), n+1, n+2) {
			wantNote(t, b, "a", k, "wrong", api.ErrOrder)
		}
		wantAsk(t, b, "a", n, "", false, nil)
		if n > 1 {
			wantAsk(t, b, "a", n-1, fmt.Sprint(n-1), true, nil)
		} else {
			wantClients(t, b)
		}
		wantNote(t, b, "a", n, fmt.Sprint(n), nil)
		wantNote(t, b, "a", n, fmt.Sprint(n), api.ErrOrder)
		wantNote(t, b, "a", n, "wrong", api.ErrOrder)
		wantAsk(t, b, "a", n, fmt.Sprint(n), true, nil)
		wantClients(t, b, "a")
	}
	wantNote(t, b, "b", 10, "x", api.ErrOrder)
	wantNote(t, b, "b", 9, "x", api.ErrOrder)
	wantClients(t, b, "a")
}

// P100: MaxTokens clients; those that are there go on.
func TestFull(t *testing.T) {
	b := full(t)
	before := b.Clients()
	if len(before) != 20 {
		t.Fatal(before)
	}
	wantAsk(t, b, "new", 1, "", false, nil)
	wantNote(t, b, "new", 1, "x", api.ErrFull)
	wantNote(t, b, "new", 2, "x", api.ErrOrder)
	wantNote(t, b, "new", 0, "x", api.ErrOrder)
	wantNote(t, b, "New", 1, "x", api.ErrName)
	wantAsk(t, b, "new", 1, "", false, nil)
	wantClients(t, b, before...)
	for k := range api.MaxTokens {
		client := fmt.Sprint("c", k)
		wantAsk(t, b, client, 1, fmt.Sprint("of ", k), true, nil)
		wantNote(t, b, client, 2, "y", nil)
		wantAsk(t, b, client, 2, "y", true, nil)
	}
	wantNote(t, b, "new", 1, "x", api.ErrFull)
	wantClients(t, b, before...)
}

// P100: with one less than MaxTokens a new client fits.
func TestAlmostFull(t *testing.T) {
	b := New()
	for k := range 19 {
		wantNote(t, b, fmt.Sprint("c", k), 1, "", nil)
		wantNote(t, b, fmt.Sprint("c", k), 2, "", nil)
	}
	wantNote(t, b, "last", 1, "x", nil)
	wantNote(t, b, "more", 1, "x", api.ErrFull)
	wantAsk(t, b, "last", 1, "x", true, nil)
}

// P100: Clients rise by their bytes; P4: they are new memory.
func TestClients(t *testing.T) {
	b := New()
	for _, client := range []string{"b", "a.1", "aa", "a", "10", "9", "z", "-", ".", "a-1"} {
		wantNote(t, b, client, 1, "x", nil)
	}
	want := []string{"-", ".", "10", "9", "a", "a-1", "a.1", "aa", "b", "z"}
	for range 5 {
		l := b.Clients()
		if !slices.Equal(l, want) {
			t.Fatal(l)
		}
		for i := range l {
			l[i] = "changed"
		}
	}
}

// P100, P4: a copy and what it is of do not see each other.
func TestCopy(t *testing.T) {
	b := New()
	empty := b.Copy()
	wantNote(t, b, "a", 1, "one", nil)
	wantClients(t, empty)
	wantAsk(t, empty, "a", 1, "", false, nil)

	c := b.Copy()
	wantAsk(t, c, "a", 1, "one", true, nil)
	wantNote(t, b, "a", 2, "of b", nil)
	wantNote(t, c, "a", 2, "of c", nil)
	wantNote(t, c, "a", 3, "of c", nil)
	wantNote(t, b, "b", 1, "b", nil)
	wantNote(t, c, "c", 1, "c", nil)
	wantAsk(t, b, "a", 2, "of b", true, nil)
	wantAsk(t, b, "a", 3, "", false, nil)
	wantAsk(t, c, "a", 3, "of c", true, nil)
	wantClients(t, b, "a", "b")
	wantClients(t, c, "a", "c")
	wantNote(t, empty, "d", 1, "d", nil)
	wantClients(t, empty, "d")
	wantClients(t, New())
}

// answers: a model of a table: all that each client was answered, one behind the other.
type answers map[string][]string

func (m answers) ask(client string, n int, named bool) (string, bool, error) {
	l := m[client]
	switch {
	case !named:
		return "", false, api.ErrName
	case n == len(l)+1:
		return "", false, nil
	case n == len(l) && n > 0:
		return l[n-1], true, nil
	}
	return "", false, api.ErrOrder
}

func (m answers) note(client string, n int, answer string, named bool) error {
	switch {
	case !named:
		return api.ErrName
	case n != len(m[client])+1:
		return api.ErrOrder
	case n == 1 && len(m) == 20:
		return api.ErrFull
	}
	m[client] = append(m[client], answer)
	return nil
}

func (m answers) copied() answers {
	c := answers{}
	for client, l := range m {
		c[client] = slices.Clone(l)
	}
	return c
}

func (m answers) clients() []string {
	var l []string
	for client := range m {
		l = append(l, client)
	}
	slices.Sort(l)
	return l
}

// P100, P101: rounds of whatever, against plain lists.
func TestAny(t *testing.T) {
	for seed := range int64(40) {
		// The same each time: the seed is fixed.
		r := rand.New(rand.NewSource(seed))
		b, m := New(), answers{}
		for k := range 600 {
			client, named := fmt.Sprint("c", r.Intn(24)), true
			if r.Intn(10) == 0 {
				client, named = fmt.Sprint("C", r.Intn(24)), false
			}
			n := len(m[client]) + r.Intn(5) - 2
			switch r.Intn(8) {
			case 0, 1, 2:
				answer := fmt.Sprint(client, " ", n, " ", k)
				wantNote(t, b, client, n, answer, m.note(client, n, answer, named))
			case 3, 4, 5, 6:
				want, again, bad := m.ask(client, n, named)
				wantAsk(t, b, client, n, want, again, bad)
			case 7:
				other := b.Copy()
				if r.Intn(2) == 0 {
					b, other = other, b
				}
				// What is noted in the one that is left behind is not to be seen in the other one.
				left := m.copied()
				wantNote(t, other, client, n, "left", left.note(client, n, "left", named))
			}
			wantClients(t, b, m.clients()...)
			if t.Failed() {
				t.Fatal("seed ", seed, ", round ", k)
			}
		}
	}
}

// P101: however often it is tried, each number is noted once, and its answer is the first one.
func TestNotedOnce(t *testing.T) {
	b := New()
	noted := map[int]int{}
	for try := range 300 {
		n := try%30 - 5
		if try%3 == 0 {
			n = len(noted) + 1
		}
		if b.Note("a", n, fmt.Sprint(n, " at try ", try)) == nil {
			noted[n]++
		}
	}
	for n := 1; n <= len(noted); n++ {
		if noted[n] != 1 {
			t.Errorf("%d is noted %d times", n, noted[n])
		}
	}
	if len(noted) < 100 {
		t.Error("noted only", len(noted))
	}
}
