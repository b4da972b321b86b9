package causal

import (
	"errors"
	"fmt"
	"math"
	"math/rand"
	"reflect"
	"slices"
	"strings"
	"testing"

	"leafbinder/api"
	"leafbinder/doc"
)

const tooLong = "zzzzzzzzzzzzb"

func at(who, n int) api.Dot { return api.Dot{Who: who, N: n} }

func write(d api.Dot, p string, letter int) api.Op {
	return api.Op{Dot: d, What: api.Write, Place: p, Letter: letter}
}

func strike(d api.Dot, p string) api.Op { return api.Op{Dot: d, What: api.Strike, Place: p} }

func cut(d api.Dot, p string) api.Op { return api.Op{Dot: d, What: api.Cut, Place: p} }

func join(d api.Dot, p string, seen ...api.Dot) api.Op {
	return api.Op{Dot: d, What: api.Join, Place: p, Seen: seen}
}

// state is all that a Buffer tells, and its Doc.
type state struct {
	waits []api.Dot
	book  []api.Leaf
	marks []api.Mark
	text  string
	known []int
	ops   []api.Op
}

// told is a copy, whatever the Buffer hands out.
func told(b *Buffer) state { return stateOf(slices.Clone(b.Waits()), b.Doc()) }

func stateOf(waits []api.Dot, d *doc.Doc) state {
	return state{waits, d.Book(), d.Marks(), d.Text(), d.Known(), d.Ops()}
}

func sameOp(a, b api.Op) bool {
	seen := slices.Equal(a.Seen, b.Seen)
	a.Seen, b.Seen = nil, nil
	return seen && reflect.DeepEqual(a, b)
}

func same(a, b state) bool {
	return slices.Equal(a.waits, b.waits) && slices.Equal(a.book, b.book) && slices.Equal(a.marks, b.marks) &&
		a.text == b.text && slices.Equal(a.known, b.known) && slices.EqualFunc(a.ops, b.ops, sameOp)
}

func wantState(t *testing.T, b *Buffer, want state, why string) {
	t.Helper()
	if got := told(b); !same(got, want) {
		t.Errorf("%s: got %v, want %v", why, got, want)
	}
}

// wantPut puts an op that sets so many free; those dots wait then.
func wantPut(t *testing.T, b *Buffer, o api.Op, want int, waits ...api.Dot) {
	t.Helper()
	n, err := b.Put(o)
	if n != want || err != nil {
		t.Errorf("Put(%v): got %v, %v, want %v and no error", o, n, err, want)
	}
	wantWaits(t, b, waits...)
}

// wantError puts an op of which, or behind which, an error is told.
func wantError(t *testing.T, b *Buffer, o api.Op, want api.Errno) {
	t.Helper()
	n, err := b.Put(o)
	var got api.Errno
	if n != 0 || !errors.As(err, &got) || got != want {
		t.Errorf("Put(%v): got %v, %v, want 0, %v", o, n, err, want)
	}
}

func wantRefused(t *testing.T, b *Buffer, o api.Op, want api.Errno) {
	t.Helper()
	ahead := told(b)
	wantError(t, b, o, want)
	wantState(t, b, ahead, fmt.Sprint("after the refused ", o))
}

// wantIdle puts an op that changes nothing.
func wantIdle(t *testing.T, b *Buffer, o api.Op) {
	t.Helper()
	ahead := told(b)
	if n, err := b.Put(o); n != 0 || err != nil {
		t.Errorf("Put(%v): got %v, %v, want 0 and no error", o, n, err)
	}
	wantState(t, b, ahead, fmt.Sprint("after the idle ", o))
}

func wantWaits(t *testing.T, b *Buffer, want ...api.Dot) {
	t.Helper()
	if got := b.Waits(); !slices.Equal(got, want) {
		t.Errorf("Waits: got %v, want %v", got, want)
	}
}

func wantText(t *testing.T, b *Buffer, want string) {
	t.Helper()
	if got := b.Doc().Text(); got != want {
		t.Errorf("Text: got %q, want %q", got, want)
	}
}

// wantOrder of the ops that were applied.
func wantOrder(t *testing.T, b *Buffer, want ...api.Dot) {
	t.Helper()
	var got []api.Dot
	for _, o := range b.Doc().Ops() {
		got = append(got, o.Dot)
	}
	if !slices.Equal(got, want) {
		t.Errorf("applied in the order %v, want %v", got, want)
	}
}

// applied gives a Doc to which ops were applied that must all be new to it.
func applied(t *testing.T, ops ...api.Op) *doc.Doc {
	t.Helper()
	d := doc.New()
	apply(t, d, ops...)
	return d
}

// apply to a Doc behind its Buffer's back.
func apply(t *testing.T, d *doc.Doc, ops ...api.Op) {
	t.Helper()
	for _, o := range ops {
		if is, err := d.Apply(o); !is || err != nil {
			t.Fatalf("Apply(%v): got %v, %v, want true and no error", o, is, err)
		}
	}
}

// waiting gives a Buffer of a Doc at which ops wait.
func waiting(t *testing.T, d *doc.Doc, ops ...api.Op) *Buffer {
	t.Helper()
	b := New(d)
	for _, o := range ops {
		if n, err := b.Put(o); n != 0 || err != nil {
			t.Fatalf("Put(%v): got %v, %v, want 0 and no error", o, n, err)
		}
	}
	if n := len(b.Waits()); n != len(ops) {
		t.Fatalf("%d wait, want %d", n, len(ops))
	}
	return b
}

// places gives so many, rising.
func places(n int) []string {
	var l []string
	for i := range n {
		l = append(l, string([]byte{byte('b' + i/20), byte('b' + i%20), 'b'}))
	}
	return l
}

// row gives what an author writes, letter by letter, from its first op on.
func row(who int, text string) []api.Op {
	var l []api.Op
	for i, p := range places(len(text)) {
		p = p[:2] + string(rune('a'+who))
		l = append(l, write(at(who, i+1), p, int(text[i])))
	}
	return l
}

func TestNewBuffer(t *testing.T) {
	b := New(doc.New())
	wantState(t, b, state{known: make([]int, 8)}, "a new one")
	wantPut(t, b, write(at(1, 2), "hb", 'a'), 0, at(1, 2))
	wantState(t, New(doc.New()), state{known: make([]int, 8)}, "a new one beside another")
}

func TestDocIsTheOneItWasMadeWith(t *testing.T) {
	d := applied(t, write(at(1, 1), "hb", 'a'))
	b := New(d)
	if b.Doc() != d {
		t.Error("a new one has another Doc")
	}
	wantPut(t, b, write(at(1, 3), "qb", 'c'), 0, at(1, 3))
	wantPut(t, b, write(at(1, 2), "mb", 'b'), 2)
	wantError(t, b, write(at(1, 4), "mb", 'x'), api.ErrClash)
	wantError(t, b, api.Op{}, api.ErrRange)
	if b.Doc() != d {
		t.Error("it has another Doc then")
	}
	if d.Text() != "abc" {
		t.Errorf("the Doc has %q, want abc", d.Text())
	}
}

func TestOpsInTheirOrder(t *testing.T) {
	b := New(doc.New())
	for _, o := range row(1, "leaf") {
		wantPut(t, b, o, 1)
	}
	for _, o := range row(8, "bind") {
		wantPut(t, b, o, 1)
	}
	wantOrder(t, b, at(1, 1), at(1, 2), at(1, 3), at(1, 4), at(8, 1), at(8, 2), at(8, 3), at(8, 4))
	wantText(t, b, "lbeianfd")
}

func TestOpsInTheOppositeOrder(t *testing.T) {
	b := New(doc.New())
	l := row(3, "leafs")
	var waits []api.Dot
	for i := len(l) - 1; i > 0; i-- {
		waits = slices.Insert(waits, 0, l[i].Dot)
		wantPut(t, b, l[i], 0, waits...)
		wantText(t, b, "")
	}
	wantPut(t, b, l[0], 5)
	wantText(t, b, "leafs")
	wantOrder(t, b, at(3, 1), at(3, 2), at(3, 3), at(3, 4), at(3, 5))
}

func TestOpsOfSeveralAuthorsMixed(t *testing.T) {
	b := New(doc.New())
	one, two, eight := row(1, "abc"), row(2, "xyz"), row(8, "--")
	wantPut(t, b, two[2], 0, at(2, 3))
	wantPut(t, b, one[1], 0, at(1, 2), at(2, 3))
	wantPut(t, b, eight[1], 0, at(1, 2), at(2, 3), at(8, 2))
	wantPut(t, b, two[0], 1, at(1, 2), at(2, 3), at(8, 2))
	wantPut(t, b, one[0], 2, at(2, 3), at(8, 2))
	wantPut(t, b, two[1], 2, at(8, 2))
	wantPut(t, b, one[2], 1, at(8, 2))
	wantPut(t, b, eight[0], 2)
	wantOrder(t, b, at(2, 1), at(1, 1), at(1, 2), at(2, 2), at(2, 3), at(1, 3), at(8, 1), at(8, 2))
	wantText(t, b, "ax-by-cz")
}

// Each kind of op waits, and is done as it came.
func TestEachKindOfOpWaits(t *testing.T) {
	b := waiting(t, doc.New(),
		join(at(1, 5), "mb", at(1, 4), at(2, 2)),
		cut(at(1, 4), "mb"),
		strike(at(1, 3), "hb"),
		write(at(1, 2), "mb", 'b'),
		cut(at(2, 3), "hb"),
		cut(at(2, 2), "mb"))
	wantPut(t, b, write(at(1, 1), "hb", 'a'), 5, at(2, 2), at(2, 3))
	wantText(t, b, "b")
	wantPut(t, b, strike(at(2, 1), "qb"), 3)
	want := state{
		book:  []api.Leaf{{Place: "hb", Letter: 'a', Struck: true}, {Place: "mb", Letter: 'b'}, {Place: "qb", Struck: true}},
		marks: []api.Mark{{Place: "hb", Dot: at(2, 3)}},
		text:  "b",
		known: []int{5, 3, 0, 0, 0, 0, 0, 0},
		ops: []api.Op{
			write(at(1, 1), "hb", 'a'), write(at(1, 2), "mb", 'b'), strike(at(1, 3), "hb"), cut(at(1, 4), "mb"),
			join(at(1, 5), "mb", at(1, 4), at(2, 2)),
			strike(at(2, 1), "qb"), cut(at(2, 2), "mb"), cut(at(2, 3), "hb"),
		},
	}
	wantState(t, b, want, "ops of each kind")
}

func TestNextAndTooFar(t *testing.T) {
	for who := 1; who <= api.MaxWho; who++ {
		b := New(doc.New())
		wantPut(t, b, strike(at(who, 9999), "zb"), 0, at(who, 9999))
		wantPut(t, b, strike(at(who, 3), "hb"), 0, at(who, 3), at(who, 9999))
		wantPut(t, b, strike(at(who, 1), "hb"), 1, at(who, 3), at(who, 9999))
		wantPut(t, b, strike(at(who, 401), "hb"), 0, at(who, 3), at(who, 401), at(who, 9999))
		wantPut(t, b, strike(at(who, 2), "hb"), 2, at(who, 401), at(who, 9999))
		wantPut(t, b, strike(at(who, 5), "hb"), 0, at(who, 5), at(who, 401), at(who, 9999))
		wantPut(t, b, strike(at(who, 4), "hb"), 2, at(who, 401), at(who, 9999))
	}
}

func TestOpThatIsKnown(t *testing.T) {
	ops := []api.Op{write(at(1, 1), "hb", 'a'), cut(at(2, 1), "hb"), strike(at(1, 2), "mb"), join(at(3, 1), "hb", at(4, 1))}
	b := waiting(t, applied(t, ops[:2]...), write(at(1, 4), "qb", 'c'), write(at(5, 2), "tb", 'd'))
	wantPut(t, b, ops[2], 1, at(1, 4), at(5, 2))
	wantPut(t, b, ops[3], 1, at(1, 4), at(5, 2))
	for _, o := range ops {
		wantIdle(t, b, o)
		wantIdle(t, b, write(o.Dot, "hb", 'z')) // another letter is there
		wantIdle(t, b, write(o.Dot, "zb", 'z'))
		wantIdle(t, b, strike(o.Dot, "hb"))
		wantIdle(t, b, cut(o.Dot, "mb"))
		wantIdle(t, b, join(o.Dot, "hb", at(2, 1)))
	}
	wantPut(t, b, write(at(1, 3), "mb", 'b'), 2, at(5, 2))
	wantOrder(t, b, at(1, 1), at(2, 1), at(1, 2), at(3, 1), at(1, 3), at(1, 4))
}

func TestOpThatWaitsAlready(t *testing.T) {
	first := write(at(1, 2), "mb", 'b')
	b := waiting(t, doc.New(), first, join(at(2, 3), "hb", at(3, 1)))
	for range 3 {
		wantIdle(t, b, first)
		wantIdle(t, b, join(at(2, 3), "hb", at(3, 1)))
	}
	wantPut(t, b, write(at(1, 1), "hb", 'a'), 2, at(2, 3))
	wantIdle(t, b, first)
	wantText(t, b, "ab")
}

// The same Dot with another op: the one that waits stays.
func TestAnotherOpOfADotThatWaits(t *testing.T) {
	first := write(at(1, 2), "mb", 'b')
	b := waiting(t, doc.New(), first, join(at(2, 2), "hb", at(3, 1)))
	for _, other := range []api.Op{
		write(at(1, 2), "mb", 'z'), write(at(1, 2), "zb", 'b'), strike(at(1, 2), "mb"), cut(at(1, 2), "mb"), join(at(1, 2), "mb"),
		join(at(2, 2), "hb"), join(at(2, 2), "mb", at(3, 1)), join(at(2, 2), "hb", at(3, 2)), strike(at(2, 2), "hb"),
	} {
		wantIdle(t, b, other)
	}
	wantPut(t, b, write(at(1, 1), "hb", 'a'), 2, at(2, 2))
	wantPut(t, b, strike(at(2, 1), "qb"), 2)
	wantText(t, b, "ab")
	want := []api.Op{write(at(1, 1), "hb", 'a'), first, strike(at(2, 1), "qb"), join(at(2, 2), "hb", at(3, 1))}
	if got := b.Doc().Ops(); !slices.EqualFunc(got, want, sameOp) {
		t.Errorf("applied: %v, want %v", got, want)
	}
}

func TestManyOfOneAuthorAreSetFree(t *testing.T) {
	b := New(doc.New())
	l := row(4, strings.Repeat("abcdefghij", 30))
	r := rand.New(rand.NewSource(1))
	for _, i := range r.Perm(len(l) - 1) {
		if n, err := b.Put(l[i+1]); n != 0 || err != nil {
			t.Fatalf("Put: %v, %v", n, err)
		}
	}
	wantPut(t, b, l[0], 300)
	wantText(t, b, strings.Repeat("abcdefghij", 30))
}

// Ops of several authors are next at once where the Doc came to know others
// otherwise: the least author's come first, all of them.
func TestManyOfSeveralAuthorsAreSetFree(t *testing.T) {
	d := doc.New()
	b := waiting(t, d,
		strike(at(8, 2), "hb"), strike(at(5, 3), "hb"), strike(at(5, 2), "hb"), strike(at(2, 2), "hb"),
		strike(at(2, 4), "hb"), strike(at(1, 3), "hb"), strike(at(1, 2), "hb"), strike(at(7, 2), "hb"))
	apply(t, d, strike(at(8, 1), "hb"), strike(at(5, 1), "hb"), strike(at(2, 1), "hb"), strike(at(1, 1), "hb"))
	wantPut(t, b, strike(at(6, 1), "hb"), 7, at(2, 4), at(7, 2))
	wantOrder(t, b,
		at(8, 1), at(5, 1), at(2, 1), at(1, 1),
		at(1, 2), at(1, 3), at(2, 2), at(5, 2), at(5, 3), at(6, 1), at(8, 2))
	wantPut(t, b, strike(at(2, 3), "hb"), 2, at(7, 2))
	// Also one that is not next itself comes to those that are.
	apply(t, d, strike(at(7, 1), "hb"))
	wantPut(t, b, strike(at(7, 9), "hb"), 1, at(7, 9))
}

// What waits and is known meanwhile is not next any more: it is not done twice.
func TestWhatWaitsAndIsKnownOtherwise(t *testing.T) {
	d := doc.New()
	b := waiting(t, d, write(at(1, 2), "mb", 'b'), write(at(1, 3), "qb", 'c'))
	apply(t, d, write(at(1, 1), "hb", 'a'), write(at(1, 2), "mb", 'b'))
	wantIdle(t, b, write(at(1, 2), "mb", 'b'))
	wantPut(t, b, write(at(2, 1), "tc", 'd'), 2, at(1, 2))
	wantText(t, b, "abcd")
	wantOrder(t, b, at(1, 1), at(1, 2), at(1, 3), at(2, 1))
}

func TestDocThatHasOpsAlready(t *testing.T) {
	b := New(applied(t, append(row(1, "abc"), row(2, "x")...)...))
	wantWaits(t, b)
	for _, o := range row(1, "abc") {
		wantIdle(t, b, o)
	}
	wantPut(t, b, strike(at(1, 5), "bcb"), 0, at(1, 5))
	wantPut(t, b, strike(at(2, 3), "bcb"), 0, at(1, 5), at(2, 3))
	wantPut(t, b, strike(at(1, 4), "bbb"), 2, at(2, 3))
	wantPut(t, b, strike(at(2, 2), "bdb"), 2)
	wantText(t, b, "x")
}

// clashing gives a Buffer at which ops of the authors 1, 2, 3 and 5 wait that are
// next; author 2's can't be done: another letter is there.
func clashing(t *testing.T) *Buffer {
	t.Helper()
	d := applied(t, write(at(4, 1), "hb", 'a'))
	b := waiting(t, d,
		strike(at(1, 2), "mb"),
		write(at(2, 2), "hb", 'z'), strike(at(2, 3), "mb"),
		strike(at(3, 2), "mb"), strike(at(3, 3), "mb"),
		strike(at(5, 2), "mb"))
	apply(t, d, strike(at(1, 1), "mb"), strike(at(2, 1), "mb"), strike(at(3, 1), "mb"), strike(at(5, 1), "mb"))
	return b
}

func TestApplyHasAnError(t *testing.T) {
	b := New(applied(t, write(at(1, 1), "hb", 'a')))
	wantRefused(t, b, write(at(2, 1), "hb", 'b'), api.ErrClash)
	wantRefused(t, b, write(at(1, 2), "hb", 'b'), api.ErrClash)
	wantPut(t, b, write(at(2, 2), "mb", 'c'), 0, at(2, 2))
	wantRefused(t, b, write(at(2, 1), "hb", 'b'), api.ErrClash)
	wantWaits(t, b, at(2, 2))
	// It waits no more: another one of its dot may come.
	wantPut(t, b, write(at(2, 1), "hb", 'a'), 2)
	wantText(t, b, "ac")
}

func TestErrorBehindSomeThatWereApplied(t *testing.T) {
	b := waiting(t, applied(t, write(at(2, 1), "hb", 'x')),
		write(at(1, 2), "mb", 'b'), write(at(1, 3), "hb", 'y'), write(at(1, 4), "qb", 'd'))
	wantError(t, b, write(at(1, 1), "bb", 'a'), api.ErrClash)
	wantWaits(t, b, at(1, 4))
	wantOrder(t, b, at(2, 1), at(1, 1), at(1, 2))
	wantText(t, b, "axb")
	wantIdle(t, b, write(at(1, 2), "mb", 'b'))
	wantPut(t, b, write(at(1, 3), "oc", 'c'), 2)
	wantText(t, b, "axbcd")
}

// Behind an error nothing more is done; what is next of the others is done at the
// next Put that comes to it.
func TestWhatIsNextBehindAnError(t *testing.T) {
	b := clashing(t)
	wantError(t, b, strike(at(6, 1), "mb"), api.ErrClash)
	rest := []api.Dot{at(2, 3), at(3, 2), at(3, 3), at(5, 2), at(6, 1)}
	wantWaits(t, b, rest...)
	wantOrder(t, b, at(4, 1), at(1, 1), at(2, 1), at(3, 1), at(5, 1), at(1, 2))

	// Those that do not come to it:
	wantRefused(t, b, strike(at(9, 1), "mb"), api.ErrRange)
	wantIdle(t, b, strike(at(1, 2), "mb"))
	wantIdle(t, b, strike(at(3, 2), "mb"))
	wantIdle(t, b, strike(at(6, 1), "mb"))

	wantPut(t, b, strike(at(8, 7), "mb"), 4, at(2, 3), at(8, 7))
	wantOrder(t, b, at(4, 1), at(1, 1), at(2, 1), at(3, 1), at(5, 1), at(1, 2), at(3, 2), at(3, 3), at(5, 2), at(6, 1))
	wantPut(t, b, write(at(2, 2), "hb", 'a'), 2, at(8, 7))
}

// Two that can't be done: each of them is told by a Put of its own, and what was
// put then waits.
func TestOneErrorAfterTheOther(t *testing.T) {
	d := applied(t, write(at(1, 1), "hb", 'a'))
	b := waiting(t, d, write(at(2, 2), "hb", 'b'), write(at(3, 2), "hb", 'c'))
	apply(t, d, strike(at(2, 1), "mb"), strike(at(3, 1), "mb"))
	wantError(t, b, write(at(4, 1), "qe", 'd'), api.ErrClash)
	wantWaits(t, b, at(3, 2), at(4, 1))
	wantError(t, b, write(at(4, 2), "re", 'e'), api.ErrClash)
	wantWaits(t, b, at(4, 1), at(4, 2))
	wantText(t, b, "a")
	wantPut(t, b, write(at(4, 3), "se", 'f'), 3)
	wantText(t, b, "adef")
}

func TestFullBook(t *testing.T) {
	d := doc.New()
	for i, p := range places(api.MaxLeafs) {
		apply(t, d, strike(at(1, i+1), p))
	}
	b := waiting(t, d, write(at(2, 2), "bbb", 'a'))
	wantRefused(t, b, write(at(2, 1), "zzb", 'a'), api.ErrFull)
	wantRefused(t, b, strike(at(2, 1), "zzb"), api.ErrFull)
	wantPut(t, b, strike(at(2, 1), "bbb"), 2)
}

func TestFullMarks(t *testing.T) {
	b := New(doc.New())
	for i := range api.MaxMarks {
		wantPut(t, b, cut(at(1, i+1), "hb"), 1)
	}
	wantRefused(t, b, cut(at(1, 41), "hb"), api.ErrFull)
	wantPut(t, b, join(at(2, 1), "hb", at(1, 1)), 1)
	wantPut(t, b, cut(at(1, 41), "hb"), 1)
}

func TestFullDoc(t *testing.T) {
	b := New(doc.New())
	for i := range api.MaxOps - 1 {
		wantPut(t, b, strike(at(1+i%8, 1+i/8), "hb"), 1)
	}
	// Of the two that are next then one is the last that goes in.
	wantPut(t, b, strike(at(8, 51), "hb"), 0, at(8, 51))
	wantError(t, b, strike(at(8, 50), "hb"), api.ErrFull)
	wantWaits(t, b)
	if n := len(b.Doc().Ops()); n != api.MaxOps {
		t.Errorf("%d ops, want %d", n, api.MaxOps)
	}
	wantRefused(t, b, strike(at(8, 51), "hb"), api.ErrFull)
	wantRefused(t, b, strike(at(1, 51), "hb"), api.ErrFull)
	wantIdle(t, b, strike(at(8, 50), "hb"))
	wantPut(t, b, strike(at(1, 52), "hb"), 0, at(1, 52))
}

// full gives a Buffer at which 400 wait, 50 of each author: from its third op on.
// One of each is known.
func full(t *testing.T) *Buffer {
	t.Helper()
	d := doc.New()
	var l []api.Op
	for who := 1; who <= api.MaxWho; who++ {
		apply(t, d, strike(at(who, 1), "hb"))
		for n := 3; n <= 52; n++ {
			l = append(l, strike(at(who, n), "hb"))
		}
	}
	return waiting(t, d, l...)
}

func TestFourHundredWait(t *testing.T) {
	b := full(t)
	if n := len(b.Waits()); n != api.MaxOps {
		t.Fatalf("%d wait, want %d", n, api.MaxOps)
	}
	for who := 1; who <= api.MaxWho; who++ {
		wantRefused(t, b, strike(at(who, 53), "hb"), api.ErrFull)
		wantRefused(t, b, strike(at(who, 9999), "hb"), api.ErrFull)
		wantRefused(t, b, strike(at(who, 2), "hb"), api.ErrFull) // also one that is next
		wantIdle(t, b, strike(at(who, 1), "hb"))
		wantIdle(t, b, write(at(who, 1), "mb", 'a'))
		wantIdle(t, b, strike(at(who, 3), "hb"))
		wantIdle(t, b, strike(at(who, 52), "hb"))
		wantIdle(t, b, cut(at(who, 30), "mb"))
	}
	// One that finds no room does not come to what is next.
	apply(t, b.Doc(), strike(at(5, 2), "hb"))
	wantRefused(t, b, strike(at(1, 2), "hb"), api.ErrFull)
	wantIdle(t, b, strike(at(5, 2), "hb"))
	wantIdle(t, b, strike(at(5, 3), "hb"))
}

func TestFourHundredthThatWaits(t *testing.T) {
	b := New(doc.New())
	for n := 2; n <= api.MaxOps; n++ {
		if k, err := b.Put(strike(at(6, n), "hb")); k != 0 || err != nil {
			t.Fatalf("Put of the op %d: %v, %v", n, k, err)
		}
	}
	// 399 wait: there is room for the one that sets all of them free.
	wantPut(t, b, strike(at(6, 1), "hb"), api.MaxOps)
	for n := 402; n <= 801; n++ {
		if k, err := b.Put(strike(at(6, n), "hb")); k != 0 || err != nil {
			t.Fatalf("Put of the op %d: %v, %v", n, k, err)
		}
	}
	wantRefused(t, b, strike(at(6, 802), "hb"), api.ErrFull)
	if n := len(b.Waits()); n != api.MaxOps {
		t.Errorf("%d wait, want %d", n, api.MaxOps)
	}
}

type wrongOp struct {
	o    api.Op
	want api.Errno
}

// wrongOps are refused by chapter 5's Check, by each of its errors but those of
// the dot.
func wrongOps(d api.Dot) []wrongOp {
	many := make([]api.Dot, 41)
	for i := range many {
		many[i] = at(1, i+1)
	}
	return []wrongOp{
		{api.Op{Dot: d}, api.ErrRange},
		{api.Op{Dot: d, What: 5, Place: "hb"}, api.ErrRange},
		{api.Op{Dot: d, What: -1, Place: "hb"}, api.ErrRange},
		{api.Op{Dot: d, What: math.MaxInt, Place: tooLong, Letter: 'a'}, api.ErrRange},
		{write(d, "", 'a'), api.ErrSyntax},
		{write(d, "ha", 'a'), api.ErrSyntax},
		{strike(d, "h\xffb"), api.ErrSyntax},
		{cut(d, tooLong), api.ErrFull},
		{join(d, strings.Repeat("?", 1000)), api.ErrFull},
		{write(d, "hb", 0), api.ErrRange},
		{write(d, "hb", 31), api.ErrRange},
		{write(d, "hb", 127), api.ErrRange},
		{write(d, "hb", math.MinInt), api.ErrRange},
		{api.Op{Dot: d, What: api.Strike, Place: "hb", Letter: 'a'}, api.ErrShape},
		{api.Op{Dot: d, What: api.Cut, Place: "hb", Letter: -1}, api.ErrShape},
		{api.Op{Dot: d, What: api.Join, Place: "hb", Letter: 'a'}, api.ErrShape},
		{join(d, "hb", many...), api.ErrFull},
		{join(d, "hb", at(9, 1)), api.ErrRange},
		{join(d, "hb", at(1, 10000)), api.ErrRange},
		{join(d, "hb", at(2, 1), at(1, 1)), api.ErrClash},
		{join(d, "hb", at(2, 1), at(2, 1)), api.ErrClash},
		{api.Op{Dot: d, What: api.Write, Place: "hb", Letter: 'a', Seen: []api.Dot{at(1, 1)}}, api.ErrShape},
		{api.Op{Dot: d, What: api.Strike, Place: "hb", Seen: []api.Dot{at(1, 1)}}, api.ErrShape},
		{api.Op{Dot: d, What: api.Cut, Place: "hb", Seen: []api.Dot{at(1, 1)}}, api.ErrShape},
	}
}

var wrongDots = []api.Dot{
	{},
	{Who: 0, N: 1},
	{Who: 9, N: 1},
	{Who: -1, N: 1},
	{Who: 1, N: 0},
	{Who: 1, N: -1},
	{Who: 1, N: 10000},
	{Who: 8, N: math.MaxInt},
	{Who: math.MinInt, N: math.MinInt},
	{Who: math.MaxInt, N: math.MaxInt},
}

// A wrong op is refused, whether or not its dot is known, waits, or is next, and
// also where there is no room; and it does not come to what is next.
func TestWrongOpsAreRefused(t *testing.T) {
	fullDoc := doc.New()
	for i := range api.MaxOps {
		apply(t, fullDoc, strike(at(1+i%3, 1+i/3), "hb"))
	}
	for name, b := range map[string]*Buffer{
		"new":      New(doc.New()),
		"waiting":  waiting(t, applied(t, row(1, "abc")...), strike(at(1, 5), "hb"), strike(at(2, 2), "hb")),
		"clashing": clashing(t),
		"full":     full(t),
		"full doc": waiting(t, fullDoc, strike(at(4, 2), "hb")),
	} {
		t.Run(name, func(t *testing.T) {
			for _, one := range []api.Dot{at(1, 1), at(1, 2), at(1, 4), at(1, 5), at(2, 1), at(2, 2), at(8, 9999)} {
				for _, c := range wrongOps(one) {
					wantRefused(t, b, c.o, c.want)
				}
			}
			for _, one := range wrongDots {
				wantRefused(t, b, write(one, "hb", 'x'), api.ErrRange)
				wantRefused(t, b, cut(one, tooLong), api.ErrRange)
				wantRefused(t, b, join(one, "", at(2, 1), at(1, 1)), api.ErrRange)
				wantRefused(t, b, api.Op{Dot: one}, api.ErrRange)
			}
		})
	}
}

// Check is asked ahead of whether it is known or waits, that ahead of the room,
// and the room ahead of what Apply says.
func TestWhichErrorIsTold(t *testing.T) {
	b := full(t)
	wantRefused(t, b, write(at(1, 1), "hb", 0), api.ErrRange)    // it is known
	wantRefused(t, b, write(at(1, 3), "ha", 'a'), api.ErrSyntax) // it waits
	wantRefused(t, b, cut(at(1, 53), "h"), api.ErrSyntax)        // no room
	wantIdle(t, b, write(at(1, 1), "hb", 'z'))                   // no room, and known
	wantIdle(t, b, write(at(1, 3), "hb", 'z'))                   // no room, and it waits

	d := applied(t, write(at(1, 1), "hb", 'a'))
	c := New(d)
	for n := 3; n <= 402; n++ {
		wantWaitsMore(t, c, strike(at(2, n), "hb"))
	}
	wantRefused(t, c, write(at(1, 2), "hb", 'z'), api.ErrFull) // no room, and another letter is there
	wantIdle(t, c, write(at(1, 1), "hb", 'z'))
	// That some are next makes no room by itself.
	apply(t, d, strike(at(2, 1), "hb"), strike(at(2, 2), "hb"))
	wantRefused(t, c, write(at(1, 2), "hb", 'z'), api.ErrFull)
}

func wantWaitsMore(t *testing.T, b *Buffer, o api.Op) {
	t.Helper()
	if n, err := b.Put(o); n != 0 || err != nil {
		t.Fatalf("Put(%v): got %v, %v, want 0 and no error", o, n, err)
	}
}

// An error at a Put is that of the op that was tried, of the least author first,
// not of the one that was put.
func TestWhoseErrorIsTold(t *testing.T) {
	cuts := doc.New()
	for i := range api.MaxMarks {
		apply(t, cuts, cut(at(1, i+1), "hb"))
	}
	apply(t, cuts, write(at(1, 41), "hb", 'a'))
	for _, c := range []struct {
		first, last api.Op
		want        api.Errno
		left        api.Dot
	}{
		{cut(at(2, 2), "mb"), write(at(3, 1), "hb", 'z'), api.ErrFull, at(3, 1)},
		{write(at(2, 2), "hb", 'z'), cut(at(3, 1), "mb"), api.ErrClash, at(3, 1)},
		{cut(at(4, 2), "mb"), write(at(3, 1), "hb", 'z'), api.ErrClash, at(4, 2)},
		{write(at(4, 2), "hb", 'z'), cut(at(3, 1), "mb"), api.ErrFull, at(4, 2)},
	} {
		d := applied(t, cuts.Ops()...)
		b := waiting(t, d, c.first)
		apply(t, d, strike(at(c.first.Dot.Who, 1), "hb"))
		wantError(t, b, c.last, c.want)
		wantWaits(t, b, c.left)
	}
}

func TestWaitsByWhoThenN(t *testing.T) {
	var want []api.Dot
	for who := 1; who <= api.MaxWho; who++ {
		for _, n := range []int{2, 3, 9, 10, 11, 99, 100, 101, 999, 1000, 9998, 9999} {
			want = append(want, at(who, n))
		}
	}
	for seed := range 5 {
		b := New(doc.New())
		r := rand.New(rand.NewSource(int64(seed)))
		for _, i := range r.Perm(len(want)) {
			wantWaitsMore(t, b, cut(want[i], "hb"))
		}
		wantWaits(t, b, want...)
		wantWaits(t, b, want...)
	}
	wantWaits(t, New(doc.New()))
}

func TestWhatWaitsGaveIsTheCallersOwn(t *testing.T) {
	b := waiting(t, doc.New(), strike(at(1, 2), "hb"), strike(at(1, 4), "hb"), strike(at(2, 2), "hb"))
	given, other := b.Waits(), b.Waits()
	for i := range given[:cap(given)] {
		given[:cap(given)][i] = at(7, 7)
	}
	want := []api.Dot{at(1, 2), at(1, 4), at(2, 2)}
	if !slices.Equal(other, want) {
		t.Errorf("what another call gave is now %v", other)
	}
	wantWaits(t, b, want...)
	wantPut(t, b, strike(at(1, 1), "hb"), 2, at(1, 4), at(2, 2))
	if !slices.Equal(other, want) {
		t.Errorf("what was given is %v behind a Put", other)
	}
	empty := New(doc.New()).Waits()
	_ = append(empty, at(7, 7))
	if len(empty) != 0 {
		t.Errorf("of none: %v", empty)
	}
}

func TestNothingHandedInIsWrittenIntoOrKept(t *testing.T) {
	memory := []api.Dot{at(2, 1), at(2, 2), at(3, 3)}
	was := slices.Clone(memory)
	b := New(doc.New())
	late, now, refused := join(at(1, 2), "hb", memory[:2]...), join(at(4, 1), "mb", memory[:2]...), join(at(9, 1), "mb", memory[:2]...)
	wantPut(t, b, late, 0, at(1, 2))
	wantPut(t, b, now, 1, at(1, 2))
	wantIdle(t, b, late)
	wantError(t, b, refused, api.ErrRange)
	if !slices.Equal(memory, was) || late.Dot != at(1, 2) || len(late.Seen) != 2 {
		t.Errorf("what was handed in is now %v, %v", memory, late)
	}
	for i := range memory {
		memory[i] = at(7, 7)
	}
	wantPut(t, b, write(at(1, 1), "hb", 'a'), 2)
	want := []api.Op{join(at(4, 1), "mb", was[:2]...), write(at(1, 1), "hb", 'a'), join(at(1, 2), "hb", was[:2]...)}
	if got := b.Doc().Ops(); !slices.EqualFunc(got, want, sameOp) {
		t.Errorf("applied: %v, want %v", got, want)
	}
	for i := range memory {
		memory[i] = at(6, 6)
	}
	if got := b.Doc().Ops(); !slices.EqualFunc(got, want, sameOp) {
		t.Errorf("what was applied is now %v, want %v", got, want)
	}
	// What the join saw is joined, and nothing else.
	wantPut(t, b, cut(at(2, 1), "hb"), 1)
	wantPut(t, b, cut(at(2, 2), "mb"), 1)
	wantPut(t, b, cut(at(3, 1), "hb"), 1)
	if got := b.Doc().Marks(); !slices.Equal(got, []api.Mark{{Place: "hb", Dot: at(3, 1)}}) {
		t.Errorf("marks: %v", got)
	}
}

// Two Buffers have nothing in common; but one Doc, if it was handed to both.
func TestBuffersBesideEachOther(t *testing.T) {
	a, b := waiting(t, doc.New(), write(at(1, 2), "mb", 'b')), waiting(t, doc.New(), write(at(1, 2), "mb", 'x'))
	wantPut(t, a, write(at(1, 1), "hb", 'a'), 2)
	wantWaits(t, b, at(1, 2))
	wantText(t, b, "")
	wantPut(t, b, write(at(1, 1), "hb", 'y'), 2)
	wantText(t, a, "ab")
	wantText(t, b, "yx")

	d := doc.New()
	one, two := waiting(t, d, write(at(1, 2), "mb", 'b')), waiting(t, d, write(at(1, 3), "qb", 'c'))
	wantPut(t, two, write(at(1, 1), "hb", 'a'), 1, at(1, 3))
	wantWaits(t, one, at(1, 2))
	wantPut(t, one, write(at(2, 1), "tc", 'd'), 2)
	wantPut(t, two, write(at(2, 2), "uc", 'e'), 2)
	wantText(t, one, "abcde")
}

// model of a Buffer: a list of those that wait, as they came.
type model struct {
	doc   *doc.Doc
	waits []api.Op
}

func (m *model) isNext(o api.Op) bool { return o.Dot.N == m.doc.Known()[o.Dot.Who-1]+1 }

// put of an op that Check finds right.
func (m *model) put(o api.Op) (int, error) {
	has := slices.ContainsFunc(m.waits, func(w api.Op) bool { return w.Dot == o.Dot })
	if has || o.Dot.N <= m.doc.Known()[o.Dot.Who-1] {
		return 0, nil
	}
	if len(m.waits) == api.MaxOps {
		return 0, api.ErrFull
	}
	m.waits = append(m.waits, o)
	for n := 0; ; n++ {
		least := -1
		for i, w := range m.waits {
			if m.isNext(w) && (least < 0 || w.Dot.Who < m.waits[least].Dot.Who) {
				least = i
			}
		}
		if least < 0 {
			return n, nil
		}
		one := m.waits[least]
		m.waits = slices.Delete(m.waits, least, least+1)
		if _, err := m.doc.Apply(one); err != nil {
			return 0, err
		}
	}
}

func (m *model) state() state {
	var waits []api.Dot
	for _, o := range m.waits {
		waits = append(waits, o.Dot)
	}
	slices.SortFunc(waits, func(a, b api.Dot) int { return (a.Who-b.Who)*10000 + a.N - b.N })
	return stateOf(waits, m.doc)
}

// anyOp of few places and authors near what is known, so that ops meet, clash
// now and then, and set each other free.
func anyOp(r *rand.Rand, known []int) api.Op {
	who := 1 + r.Intn(4)
	one := at(who, max(1, known[who-1]+r.Intn(5)))
	p := []string{"bb", "hb", "hc", "hnd", "mb", "zze"}[r.Intn(6)]
	switch r.Intn(5) {
	case 0, 1:
		return write(one, p, 'a'+r.Intn(8)/7)
	case 2:
		return strike(one, p)
	case 3:
		return cut(one, p)
	}
	return join(one, p, at(1, 1+r.Intn(30)), at(2, 1+r.Intn(30)), at(3, 1+r.Intn(30)))
}

func TestLongPlay(t *testing.T) {
	for seed := range 60 {
		r := rand.New(rand.NewSource(int64(seed)))
		b, m := New(doc.New()), &model{doc: doc.New()}
		for range 200 {
			o := anyOp(r, m.doc.Known())
			if r.Intn(8) == 0 { // behind the Buffer's back
				is, err := b.Doc().Apply(o)
				if wantIs, wantErr := m.doc.Apply(o); is != wantIs || err != wantErr {
					t.Fatalf("seed %d: Apply(%v): got %v, %v, want %v, %v", seed, o, is, err, wantIs, wantErr)
				}
			}
			wantN, wantErr := m.put(o)
			n, err := b.Put(o)
			if n != wantN || !errors.Is(err, wantErr) {
				t.Fatalf("seed %d: Put(%v): got %v, %v, want %v, %v", seed, o, n, err, wantN, wantErr)
			}
			if got, want := told(b), m.state(); !same(got, want) {
				t.Fatalf("seed %d: after %v: got %v, want %v", seed, o, got, want)
			}
		}
	}
}

// played gives ops of four authors that a Doc takes one after the other; whoever
// writes at a place writes the same letter.
func played(r *rand.Rand) []api.Op {
	d := doc.New()
	for range 80 {
		o := anyOp(r, d.Known())
		o.Dot.N = d.Known()[o.Dot.Who-1] + 1
		if o.What == api.Write {
			o.Letter = int(o.Place[0])
		}
		d.Apply(o) // there is no room for some: they are not played
	}
	return d.Ops()
}

// In whichever order ops come, some of them twice, all come to the same, and each
// author's are applied in their order.
func TestInWhicheverOrderAllComeToTheSame(t *testing.T) {
	for seed := range 40 {
		r := rand.New(rand.NewSource(int64(seed)))
		l := played(r)
		want := stateOf(nil, applied(t, l...))
		for range 10 {
			b := New(doc.New())
			all := 0
			order := append(r.Perm(len(l)), r.Perm(len(l))[:len(l)/2]...)
			if r.Intn(2) == 0 {
				r.Shuffle(len(order), func(i, k int) { order[i], order[k] = order[k], order[i] })
			}
			for _, i := range order {
				n, err := b.Put(l[i])
				if err != nil {
					t.Fatalf("seed %d: Put(%v): %v", seed, l[i], err)
				}
				all += n
			}
			got := told(b)
			if all != len(l) || len(got.ops) != len(l) {
				t.Errorf("seed %d: %d were told, %d applied, want %d", seed, all, len(got.ops), len(l))
			}
			got.ops = want.ops // they came in another order
			if !same(got, want) {
				t.Fatalf("seed %d: got %v, want %v", seed, got, want)
			}
		}
	}
}
