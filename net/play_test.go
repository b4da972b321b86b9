package net

import (
	"fmt"
	"math"
	"math/rand"
	"slices"
	"testing"

	"leafbinder/api"
	"leafbinder/doc"
	"leafbinder/op"
	"leafbinder/place"
)

// model is a plain list of Docs, and of what is under way, as ops.
type model struct {
	docs  []*doc.Doc
	under []opsUnder
}

type opsUnder struct {
	to  int
	ops []api.Op
}

func newModel(nodes int) *model {
	m := &model{}
	for range nodes {
		m.docs = append(m.docs, doc.New())
	}
	return m
}

// seenAt tells which leafs of a book are seen.
func seenAt(l []api.Leaf) []int {
	var all []int
	for i, leaf := range l {
		if leaf.Letter != 0 && !leaf.Struck {
			all = append(all, i)
		}
	}
	return all
}

// between tells a place for what is typed at an offset.
func between(l []api.Leaf, offset, who int) (string, error) {
	seen := seenAt(l)
	if offset < 0 || offset > len(seen) {
		return "", api.ErrRange
	}
	i := -1
	ahead, behind := "", ""
	if offset > 0 {
		i = seen[offset-1]
		ahead = l[i].Place
	}
	if i+1 < len(l) {
		behind = l[i+1].Place
	}
	return place.Between(ahead, behind, who)
}

// edited gives the op of an event by which a node edits.
func (m *model) edited(e api.Event) (api.Op, error) {
	d := m.docs[e.A]
	o := api.Op{Dot: api.Dot{Who: e.A + 1, N: d.Known()[e.A] + 1}}
	l := d.Book()
	if e.What == api.Type {
		if e.C < 32 || e.C > 126 {
			return o, api.ErrRange
		}
		p, err := between(l, e.B, e.A+1)
		o.What, o.Place, o.Letter = api.Write, p, e.C
		return o, err
	}
	seen := seenAt(l)
	if e.B < 0 || e.B >= len(seen) {
		return o, api.ErrRange
	}
	o.Place = l[seen[e.B]].Place
	switch e.What {
	case api.Erase:
		o.What = api.Strike
	case api.Split:
		o.What = api.Cut
	case api.Fuse:
		o.What = api.Join
		for _, mark := range d.Marks() {
			if mark.Place == o.Place {
				o.Seen = append(o.Seen, mark.Dot)
			}
		}
		if len(o.Seen) == 0 {
			return o, api.ErrNone
		}
	}
	return o, nil
}

// lacked gives the ops of one that are none of another one's.
func lacked(from, to *doc.Doc) []api.Op {
	has := map[api.Dot]bool{}
	for _, o := range to.Ops() {
		has[o.Dot] = true
	}
	var l []api.Op
	for _, o := range from.Ops() {
		if !has[o.Dot] {
			l = append(l, o)
		}
	}
	return l
}

func (m *model) isNode(i int) bool { return i >= 0 && i < len(m.docs) }

func (m *model) do(e api.Event) error {
	switch e.What {
	case api.Type, api.Erase, api.Split, api.Fuse:
		if !m.isNode(e.A) {
			return api.ErrRange
		}
		o, err := m.edited(e)
		if err != nil {
			return err
		}
		_, err = m.docs[e.A].Apply(o)
		return err
	case api.Send:
		switch {
		case !m.isNode(e.A) || !m.isNode(e.B):
			return api.ErrRange
		case e.A == e.B:
			return api.ErrShape
		case len(m.under) == 100:
			return api.ErrFull
		}
		m.under = append(m.under, opsUnder{e.B, lacked(m.docs[e.A], m.docs[e.B])})
		return nil
	case api.Deliver, api.Lose, api.Twice:
		return m.moved(e)
	}
	return api.ErrRange
}

func (m *model) moved(e api.Event) error {
	if e.A < 0 || e.A >= len(m.under) {
		return api.ErrRange
	}
	p := m.under[e.A]
	if e.What == api.Twice {
		if len(m.under) == 100 {
			return api.ErrFull
		}
		m.under = append(m.under, p)
		return nil
	}
	m.under = without(m.under, e.A)
	if e.What == api.Lose {
		return nil
	}
	for _, o := range p.ops {
		if _, err := m.docs[p.to].Apply(o); err != nil {
			return err
		}
	}
	return nil
}

func (m *model) same() bool {
	for _, d := range m.docs {
		if fmt.Sprint(d.Book(), d.Marks()) != fmt.Sprint(m.docs[0].Book(), m.docs[0].Marks()) {
			return false
		}
	}
	return true
}

// wantModel: the Net is what the model is.
func wantModel(t *testing.T, n *Net, m *model, why ...any) {
	t.Helper()
	for i, d := range m.docs {
		got, err := n.Doc(i)
		if err != nil || !sameDoc(stateOf(got), stateOf(d)) {
			t.Fatalf("%s: node %d: got %v, %v, want %v", fmt.Sprint(why...), i, stateOf(got), err, stateOf(d))
		}
		if text, err := n.Text(i); text != d.Text() || err != nil {
			t.Fatalf("%s: node %d: got %q, %v, want %q", fmt.Sprint(why...), i, text, err, d.Text())
		}
	}
	if n.Under() != len(m.under) || n.Same() != m.same() {
		t.Fatalf("%s: got %d, %v, want %d, %v", fmt.Sprint(why...), n.Under(), n.Same(), len(m.under), m.same())
	}
	for i, want := range m.under {
		got, err := op.Unpack(n.under[i].bytes)
		if n.under[i].to != want.to || err != nil || !sameOps(got, want.ops) {
			t.Fatalf("%s: parcel %d: got %v to %d, %v, want %v", fmt.Sprint(why...), i, got, n.under[i].to, err, want)
		}
	}
}

// near gives a number below n, now and then one that is not.
func near(r *rand.Rand, n int) int {
	switch r.Intn(20) {
	case 0:
		return n
	case 1:
		return -1
	case 2:
		return farNumbers[r.Intn(len(farNumbers))]
	}
	return r.Intn(max(1, n))
}

// someEvent of a play, by how often each What comes.
func someEvent(r *rand.Rand, m *model, often []int) api.Event {
	e := api.Event{What: often[r.Intn(len(often))], A: near(r, len(m.docs))}
	switch e.What {
	case api.Type:
		e.C = []int{32 + r.Intn(95), 32 + r.Intn(95), 'a', 32, 126, 30 + r.Intn(99)}[r.Intn(6)]
		fallthrough
	case api.Erase, api.Split, api.Fuse:
		if m.isNode(e.A) {
			e.B = near(r, len(m.docs[e.A].Text())+1)
		}
	case api.Send:
		e.B = near(r, len(m.docs))
	default:
		e.A = near(r, len(m.under))
	}
	return e
}

// tally tells how often a What was answered by an error.
type tally map[[2]int]int

func (y tally) wants(t *testing.T, what int, answers ...api.Errno) {
	t.Helper()
	for _, a := range answers {
		if y[[2]int{what, int(a)}] == 0 {
			t.Errorf("no event %d was answered by %v: the play is too tame", what, a)
		}
	}
}

// play against the model.
func play(t *testing.T, seed, nodes, steps int, often []int, y tally) *Net {
	t.Helper()
	r := rand.New(rand.NewSource(int64(seed)))
	n, m := made(t, nodes), newModel(nodes)
	for step := range steps {
		e := someEvent(r, m, often)
		got, want := n.Do(e), m.do(e)
		if errno(got) != errno(want) {
			t.Fatalf("seed %d, step %d: Do(%v): got %v, want %v", seed, step, e, got, want)
		}
		wantModel(t, n, m, "seed ", seed, ", step ", step, ": ", e)
		y[[2]int{e.What, int(errno(want))}]++
	}
	return n
}

const (
	typeIt  = api.Type
	eraseIt = api.Erase
	splitIt = api.Split
	fuseIt  = api.Fuse
	sendIt  = api.Send
	bringIt = api.Deliver
	loseIt  = api.Lose
	twiceIt = api.Twice
)

func TestLongPlay(t *testing.T) {
	often := []int{
		typeIt, typeIt, typeIt, typeIt, eraseIt, splitIt, fuseIt, fuseIt,
		sendIt, sendIt, sendIt, bringIt, bringIt, loseIt, twiceIt, 0, 9,
	}
	y := tally{}
	for seed := range 40 {
		play(t, seed, 1+seed%api.MaxNodes, 250, often, y)
	}
	y.wants(t, typeIt, api.OK, api.ErrRange)
	y.wants(t, eraseIt, api.OK, api.ErrRange)
	y.wants(t, splitIt, api.OK, api.ErrRange)
	y.wants(t, fuseIt, api.OK, api.ErrRange, api.ErrNone)
	y.wants(t, sendIt, api.OK, api.ErrRange, api.ErrShape)
	y.wants(t, bringIt, api.OK, api.ErrRange)
	y.wants(t, loseIt, api.OK, api.ErrRange)
	y.wants(t, twiceIt, api.OK, api.ErrRange)
	y.wants(t, 0, api.ErrRange)
	y.wants(t, 9, api.ErrRange)
}

// Plays in which much is under way.
func TestLongPlayWithManyUnderWay(t *testing.T) {
	often := []int{typeIt, eraseIt, splitIt, sendIt, sendIt, sendIt, sendIt, sendIt, twiceIt, twiceIt, twiceIt, twiceIt, twiceIt, bringIt, loseIt}
	y := tally{}
	for seed := range 6 {
		play(t, seed, 2+seed%3, 300, often, y)
	}
	y.wants(t, sendIt, api.ErrFull)
	y.wants(t, twiceIt, api.ErrFull)
}

// Plays in which there is no room any more.
func TestLongPlayWhereDocsAreFull(t *testing.T) {
	y := tally{}
	for seed := range 4 {
		play(t, seed, 2, 1100, []int{typeIt, typeIt, typeIt, typeIt, typeIt, eraseIt, splitIt, fuseIt, sendIt, bringIt}, y)
		play(t, seed, 3, 500, []int{typeIt, splitIt, splitIt, splitIt, splitIt, splitIt, splitIt, sendIt, bringIt}, y)
	}
	y.wants(t, typeIt, api.ErrFull)
	y.wants(t, splitIt, api.ErrFull)
	y.wants(t, bringIt, api.ErrFull)
}

// Over lines that lose, double and bring in any order all come to the same.
func TestAllComeToTheSame(t *testing.T) {
	often := []int{typeIt, typeIt, typeIt, eraseIt, splitIt, fuseIt, sendIt, sendIt, bringIt, bringIt, loseIt, twiceIt}
	for seed := range 60 {
		nodes := 2 + seed%3
		n := play(t, seed, nodes, 160, often, tally{})
		// First what is under way, late, from the last one on.
		for n.Under() > 0 {
			do(t, n, delivered(n.Under()-1))
		}
		allSend(t, n)
		allSend(t, n)
		wantSame(t, n, true)
		for i := range nodes {
			if !slices.Equal(n.docs[i].Known(), n.docs[0].Known()) {
				t.Fatalf("seed %d: node %d knows %v, node 0 %v", seed, i, n.docs[i].Known(), n.docs[0].Known())
			}
		}
	}
}

// Events of any numbers whatever.
func TestAnyNumbers(t *testing.T) {
	numbers := append([]int{0, 1, 2, 3, 4, 5, 6, 7, 8, 31, 32, 126, 127, 255, 256, math.MaxInt32, math.MinInt32}, farNumbers...)
	r := rand.New(rand.NewSource(5))
	any := func() int { return numbers[r.Intn(len(numbers))] }
	n, m := made(t, 3), newModel(3)
	for step := range 4000 {
		e := api.Event{What: any(), A: any(), B: any(), C: any()}
		if r.Intn(3) > 0 {
			e = api.Event{What: r.Intn(10), A: r.Intn(4), B: r.Intn(4), C: any()}
		}
		got, want := n.Do(e), m.do(e)
		if errno(got) != errno(want) {
			t.Fatalf("step %d: Do(%v): got %v, want %v", step, e, got, want)
		}
		if step%10 == 0 {
			wantModel(t, n, m, "step ", step, ": ", e)
		}
	}
}

// What is answered hangs on the calls alone.
func TestTheSameCallsAreAnsweredTheSame(t *testing.T) {
	often := []int{typeIt, typeIt, typeIt, eraseIt, splitIt, fuseIt, sendIt, bringIt, loseIt, twiceIt}
	ya, yb := tally{}, tally{}
	a, b := play(t, 11, 4, 200, often, ya), play(t, 11, 4, 200, often, yb)
	wantState(t, a, told(b), "the same calls")
	if fmt.Sprint(ya) != fmt.Sprint(yb) {
		t.Errorf("the same calls were answered by %v and %v", ya, yb)
	}
}
