package link

import (
	"errors"
	"fmt"
	"math"
	"math/rand"
	"slices"
	"strings"
	"testing"

	"leafbinder/api"
)

func frame(seq int, data string) api.Frame { return api.Frame{Seq: seq, Data: data} }

func ack(seq int) api.Frame { return api.Frame{Ack: true, Seq: seq} }

func newEnd(t *testing.T, window, wait int) *End {
	t.Helper()
	e, err := New(window, wait)
	if e == nil || err != nil {
		t.Fatalf("New(%d, %d): got %v, %v, want an End", window, wait, e, err)
	}
	return e
}

// sent gives an End to which data was handed, of which it said nothing yet.
func sent(t *testing.T, window, wait int, data ...string) *End {
	t.Helper()
	e := newEnd(t, window, wait)
	send(t, e, data...)
	return e
}

func send(t *testing.T, e *End, data ...string) {
	t.Helper()
	for _, s := range data {
		if err := e.Send(s); err != nil {
			t.Fatalf("Send(%q): %v", s, err)
		}
	}
}

func hear(t *testing.T, e *End, frames ...api.Frame) {
	t.Helper()
	for _, f := range frames {
		if err := e.Hear(f); err != nil {
			t.Fatalf("Hear(%v): %v", f, err)
		}
	}
}

func tick(e *End, n int) {
	for range n {
		e.Tick()
	}
}

func wantOut(t *testing.T, e *End, want ...api.Frame) {
	t.Helper()
	if got := e.Out(); !slices.Equal(got, want) {
		t.Errorf("Out: got %v, want %v", got, want)
	}
}

func wantGot(t *testing.T, e *End, want ...string) {
	t.Helper()
	if got := e.Got(); !slices.Equal(got, want) {
		t.Errorf("Got: got %q, want %q", got, want)
	}
}

func wantLeft(t *testing.T, e *End, want int) {
	t.Helper()
	if got := e.Left(); got != want {
		t.Errorf("Left: got %d, want %d", got, want)
	}
}

func wantErrno(t *testing.T, err error, want api.Errno, why ...any) {
	t.Helper()
	var got api.Errno
	if !errors.As(err, &got) || got != want {
		t.Errorf("%v: error %v, want %v", why, err, want)
	}
}

// wantUnheard frame: it is refused, and neither Got nor Left tell of it.
func wantUnheard(t *testing.T, e *End, f api.Frame, want api.Errno) {
	t.Helper()
	got, left := e.Got(), e.Left()
	wantErrno(t, e.Hear(f), want, "Hear", f.Ack, f.Seq, len(f.Data))
	wantGot(t, e, got...)
	wantLeft(t, e, left)
}

// numbered gives so many texts, from "1" on.
func numbered(n int) []string {
	var l []string
	for i := range n {
		l = append(l, fmt.Sprint(i+1))
	}
	return l
}

// frames of numbered texts.
func frames(from, to int) []api.Frame {
	var l []api.Frame
	for seq := from; seq <= to; seq++ {
		l = append(l, frame(seq, fmt.Sprint(seq)))
	}
	return l
}

func TestNew(t *testing.T) {
	for window := 1; window <= 16; window++ {
		for wait := 1; wait <= 20; wait++ {
			e := newEnd(t, window, wait)
			wantOut(t, e)
			wantGot(t, e)
			wantLeft(t, e, 0)
		}
	}
}

func TestNewOfWrongNumbers(t *testing.T) {
	wrong := []int{0, -1, 21, 22, 256, 1 << 32, math.MinInt, math.MaxInt}
	for _, n := range wrong {
		for _, c := range [][2]int{{n, 1}, {n, 20}, {1, n}, {16, n}, {n, n}, {n, 0}, {0, n}} {
			e, err := New(c[0], c[1])
			wantErrno(t, err, api.ErrRange, "New", c)
			if e != nil {
				t.Errorf("New(%v) gives an End with an error", c)
			}
		}
	}
	for _, c := range [][2]int{{17, 1}, {17, 20}, {17, 17}, {20, 20}, {17, 21}, {0, 0}} {
		e, err := New(c[0], c[1])
		wantErrno(t, err, api.ErrRange, "New", c)
		if e != nil {
			t.Errorf("New(%v) gives an End with an error", c)
		}
	}
}

// The first window of those that are sent is said, and not one more.
func TestOutSaysTheWindow(t *testing.T) {
	for window := 1; window <= 16; window++ {
		for n := range 20 {
			e := sent(t, window, 1, numbered(n)...)
			wantOut(t, e, frames(1, min(window, n))...)
			wantOut(t, e)
			wantLeft(t, e, n)
		}
	}
}

func TestSendOfBytes(t *testing.T) {
	long, every := strings.Repeat("x", api.MaxText), ""
	for i := range api.MaxText {
		every += string([]byte{byte(i + 56)})
	}
	data := []string{"", "a", "", "\x00", "\xff\xfe", " a|b\n", long, every}
	a, b := sent(t, 16, 1, data...), newEnd(t, 1, 1)
	out := a.Out()
	for i, s := range data {
		if i >= len(out) || out[i] != frame(i+1, s) {
			t.Fatalf("Out: got %v, want %q as Seq %d", out, s, i+1)
		}
	}
	hear(t, b, out...)
	wantGot(t, b, data...)
}

func TestSendOfTooMuch(t *testing.T) {
	e := newEnd(t, 2, 1)
	for _, n := range []int{api.MaxText + 1, api.MaxText + 2, 256, 1000, 1 << 20} {
		wantErrno(t, e.Send(strings.Repeat("x", n)), api.ErrFull, "Send", n)
		wantLeft(t, e, 0)
		wantOut(t, e)
	}
	// What was refused has no Seq.
	send(t, e, "a")
	wantErrno(t, e.Send(strings.Repeat("é", 101)), api.ErrFull, "Send of 101 letters of two bytes")
	send(t, e, "b")
	wantLeft(t, e, 2)
	wantOut(t, e, frame(1, "a"), frame(2, "b"))
}

func TestSendOfAHundred(t *testing.T) {
	e := newEnd(t, 16, 1)
	for i, s := range numbered(api.MaxUnder) {
		wantLeft(t, e, i)
		send(t, e, s)
	}
	refused := func() {
		t.Helper()
		for _, s := range []string{"", "x", strings.Repeat("x", api.MaxText), strings.Repeat("x", api.MaxText+1)} {
			wantErrno(t, e.Send(s), api.ErrFull, "Send with a hundred under way")
			wantLeft(t, e, api.MaxUnder)
		}
	}
	refused()
	wantOut(t, e, frames(1, 16)...)
	refused() // what is said is still Left
	hear(t, e, ack(0))
	refused()
	hear(t, e, ack(1))
	wantLeft(t, e, 99)
	send(t, e, "101")
	refused()
	wantOut(t, e, frames(17, 17)...)
	hear(t, e, ack(17), ack(3))
	wantLeft(t, e, 84)
	send(t, e, numbered(117)[101:]...)
	refused()
	for seq := 33; seq <= 117; seq += 16 {
		wantOut(t, e, frames(seq-15, seq)...)
		hear(t, e, ack(seq))
	}
	wantOut(t, e, frames(114, 117)...)
	hear(t, e, ack(117))
	wantLeft(t, e, 0)
	wantOut(t, e)
}

func TestOutOfNothing(t *testing.T) {
	e := newEnd(t, 3, 2)
	wantOut(t, e)
	wantOut(t, e)
	tick(e, 5)
	wantOut(t, e)
	send(t, e, "a")
	wantOut(t, e, frame(1, "a"))
	hear(t, e, ack(1))
	tick(e, 5)
	wantOut(t, e)
	// Ticks while there was nothing to say again are no reason to say it twice.
	send(t, e, "b")
	wantOut(t, e, frame(2, "b"))
	wantOut(t, e)
	tick(e, 1)
	wantOut(t, e)
	tick(e, 1)
	wantOut(t, e, frame(2, "b"))
}

func TestSaidAgainBehindWaitTicks(t *testing.T) {
	for wait := 1; wait <= 20; wait++ {
		e := sent(t, 3, wait, numbered(5)...)
		tick(e, 30) // ahead of the first time they tell nothing
		wantOut(t, e, frames(1, 3)...)
		for range 3 {
			for range wait - 1 {
				wantOut(t, e)
				e.Tick()
				wantOut(t, e)
			}
			e.Tick()
			wantOut(t, e, frames(1, 3)...)
			wantOut(t, e)
		}
		tick(e, wait+1)
		wantOut(t, e, frames(1, 3)...)
		wantOut(t, e)
		tick(e, 1000)
		wantOut(t, e, frames(1, 3)...)
		wantOut(t, e)
		wantLeft(t, e, 5)
	}
}

// One that is sent late is said at once, alone; the Ticks count from then on for
// all of the window.
func TestSentLateIntoTheWindow(t *testing.T) {
	e := sent(t, 3, 3, "1")
	wantOut(t, e, frames(1, 1)...)
	tick(e, 2)
	send(t, e, "2")
	wantOut(t, e, frames(2, 2)...)
	tick(e, 2)
	wantOut(t, e) // four since the first, two since the second
	send(t, e, "3", "4")
	wantOut(t, e, frames(3, 3)...)
	tick(e, 2)
	wantOut(t, e)
	tick(e, 1)
	wantOut(t, e, frames(1, 3)...)
	wantOut(t, e)
}

// One that is sent late is said with all others, if their Ticks went.
func TestSentLateBehindWaitTicks(t *testing.T) {
	e := sent(t, 3, 3, "1")
	wantOut(t, e, frames(1, 1)...)
	tick(e, 3)
	send(t, e, "2")
	wantOut(t, e, frames(1, 2)...)
	tick(e, 2)
	wantOut(t, e)
	send(t, e, "3", "4")
	tick(e, 1)
	wantOut(t, e, frames(1, 3)...)
	wantOut(t, e)
}

// An Out that says nothing, or an Ack alone, sends no Ticks back.
func TestTicksGoOnWhereNothingIsSaid(t *testing.T) {
	e := sent(t, 2, 4, numbered(3)...)
	wantOut(t, e, frames(1, 2)...)
	for range 3 {
		e.Tick()
		wantOut(t, e)
		hear(t, e, frame(9, "x"))
		wantOut(t, e, ack(0))
		send(t, e, "z") // outside of the window
		wantOut(t, e)
		hear(t, e, ack(0))
	}
	e.Tick()
	wantOut(t, e, frames(1, 2)...)
}

func TestAnAckMovesTheWindowOn(t *testing.T) {
	e := sent(t, 3, 2, numbered(8)...)
	wantOut(t, e, frames(1, 3)...)
	hear(t, e, ack(1))
	wantLeft(t, e, 7)
	wantOut(t, e, frames(4, 4)...)
	wantOut(t, e)
	hear(t, e, ack(2), ack(3))
	wantLeft(t, e, 5)
	wantOut(t, e, frames(5, 6)...)
	tick(e, 1)
	hear(t, e, ack(4))
	wantOut(t, e, frames(7, 7)...)
	tick(e, 1)
	wantOut(t, e) // two Ticks since 5 and 6, one since 7
	tick(e, 1)
	wantOut(t, e, frames(5, 7)...)
	hear(t, e, ack(7))
	wantLeft(t, e, 1)
	wantOut(t, e, frames(8, 8)...)
	hear(t, e, ack(8))
	wantLeft(t, e, 0)
	tick(e, 9)
	wantOut(t, e)
}

// Behind wait Ticks the window as it stands then is said: without what was
// acknowledged, with what came into it.
func TestAnAckMovesOnWhatIsSaidAgain(t *testing.T) {
	e := sent(t, 3, 2, numbered(8)...)
	wantOut(t, e, frames(1, 3)...)
	tick(e, 2)
	hear(t, e, ack(2))
	wantOut(t, e, frames(3, 5)...)
	wantOut(t, e)
	tick(e, 2)
	hear(t, e, ack(2), ack(1), ack(0))
	wantOut(t, e, frames(3, 5)...)
	tick(e, 1)
	hear(t, e, ack(5)) // an Ack is no reason to count from the beginning
	tick(e, 1)
	send(t, e, "9")
	wantOut(t, e, frames(6, 8)...)
	wantOut(t, e)
	tick(e, 1)
	hear(t, e, ack(7))
	tick(e, 1)
	wantOut(t, e, frames(8, 9)...)
}

func TestOutSaysTheAckOnce(t *testing.T) {
	e := newEnd(t, 3, 2)
	hear(t, e, frame(1, "a"))
	wantOut(t, e, ack(1))
	wantOut(t, e)
	tick(e, 5)
	wantOut(t, e)
	hear(t, e, frame(2, "b"), frame(3, "c"), frame(4, "d"), frame(4, "d"), frame(9, "x"))
	wantOut(t, e, ack(4))
	wantOut(t, e)
}

func TestOutSaysTheAckOfWhatIsNotTheNextOne(t *testing.T) {
	e := newEnd(t, 3, 2)
	for _, seq := range []int{2, 3, 100, 1 << 40, math.MaxInt} {
		hear(t, e, frame(seq, "x"))
		wantOut(t, e, ack(0))
		wantOut(t, e)
	}
	hear(t, e, frame(1, "a"), frame(2, "b"))
	wantOut(t, e, ack(2))
	for _, seq := range []int{1, 2, 4, 5, math.MaxInt} {
		hear(t, e, frame(seq, "x"))
		wantOut(t, e, ack(2))
		wantOut(t, e)
	}
	wantGot(t, e, "a", "b")
}

func TestOutSaysTheAckFirst(t *testing.T) {
	e := sent(t, 2, 2, numbered(4)...)
	hear(t, e, frame(1, "a"))
	wantOut(t, e, append([]api.Frame{ack(1)}, frames(1, 2)...)...)
	wantOut(t, e)
	hear(t, e, ack(1), frame(3, "c"))
	wantOut(t, e, append([]api.Frame{ack(1)}, frames(3, 3)...)...)
	tick(e, 2)
	hear(t, e, frame(2, "b"))
	wantOut(t, e, append([]api.Frame{ack(2)}, frames(2, 3)...)...)
	wantOut(t, e)
}

func TestAnAckIsNotAnswered(t *testing.T) {
	e := sent(t, 2, 2, numbered(3)...)
	hear(t, e, ack(0))
	wantOut(t, e, frames(1, 2)...)
	hear(t, e, ack(0), ack(1), ack(1), ack(2), ack(0))
	wantOut(t, e, frames(3, 3)...)
	hear(t, e, ack(3))
	wantOut(t, e)
}

// What is refused was not heard: there is no Ack of it.
func TestWhatIsRefusedIsNotAnswered(t *testing.T) {
	long := strings.Repeat("x", api.MaxText+1)
	wrong := []api.Frame{
		frame(0, ""), frame(-1, "a"), frame(math.MinInt, "a"), frame(1, long), frame(5, long),
		ack(-1), ack(1), {Ack: true, Data: "a"}, {Ack: true, Seq: 1, Data: "a"},
	}
	for _, f := range wrong {
		e := newEnd(t, 2, 2)
		if e.Hear(f) == nil {
			t.Errorf("Hear(%v): no error", f)
		}
		wantOut(t, e)
		wantGot(t, e)
		// Nor does it take back that another one was heard.
		hear(t, e, frame(1, "a"))
		if e.Hear(frame(0, "a")) == nil || e.Hear(frame(2, long)) == nil || e.Hear(ack(1)) == nil {
			t.Errorf("Hear: no error")
		}
		wantOut(t, e, ack(1))
		wantGot(t, e, "a")
	}
}

func TestHearAnAck(t *testing.T) {
	e := sent(t, 3, 2, numbered(5)...)
	for _, seq := range []int{1, 2, 5, 6} { // sent, but not said yet
		wantUnheard(t, e, ack(seq), api.ErrRange)
	}
	hear(t, e, ack(0))
	wantOut(t, e, frames(1, 3)...)
	for _, seq := range []int{-1, -2, math.MinInt, 4, 5, 6, math.MaxInt} {
		wantUnheard(t, e, ack(seq), api.ErrRange)
	}
	hear(t, e, ack(0))
	wantLeft(t, e, 5)
	hear(t, e, ack(2))
	wantLeft(t, e, 3)
	for _, seq := range []int{0, 1, 2, 2, 1, 0} {
		hear(t, e, ack(seq))
		wantLeft(t, e, 3)
	}
	wantUnheard(t, e, ack(4), api.ErrRange) // the window has it, but it is not said
	wantOut(t, e, frames(4, 5)...)
	wantUnheard(t, e, ack(-1), api.ErrRange)
	wantUnheard(t, e, ack(6), api.ErrRange)
	hear(t, e, ack(5))
	wantLeft(t, e, 0)
	hear(t, e, ack(5), ack(3), ack(0))
	wantLeft(t, e, 0)
	wantUnheard(t, e, ack(6), api.ErrRange)
	send(t, e, "6")
	wantUnheard(t, e, ack(6), api.ErrRange)
	hear(t, e, ack(5))
	wantLeft(t, e, 1)
	wantOut(t, e, frames(6, 6)...)
}

// What was said may be acknowledged also while it is to be said again.
func TestHearAnAckOfWhatIsToBeSaidAgain(t *testing.T) {
	e := sent(t, 3, 2, numbered(4)...)
	wantOut(t, e, frames(1, 3)...)
	tick(e, 2)
	wantUnheard(t, e, ack(4), api.ErrRange)
	hear(t, e, ack(3))
	wantLeft(t, e, 1)
	wantOut(t, e, frames(4, 4)...)
}

func TestHearAnAckWithData(t *testing.T) {
	e := sent(t, 3, 2, numbered(5)...)
	wantOut(t, e, frames(1, 3)...)
	hear(t, e, ack(1))
	for _, data := range []string{"a", "\x00", strings.Repeat("x", api.MaxText), strings.Repeat("x", api.MaxText+1)} {
		for _, seq := range []int{0, 1, 2, 3} {
			wantUnheard(t, e, api.Frame{Ack: true, Seq: seq, Data: data}, api.ErrShape)
		}
		// The Seq's fault is told ahead of it.
		for _, seq := range []int{-1, 4, 5, 6, math.MinInt, math.MaxInt} {
			wantUnheard(t, e, api.Frame{Ack: true, Seq: seq, Data: data}, api.ErrRange)
		}
	}
	wantOut(t, e, frames(4, 4)...)
}

func TestHearTheNextOne(t *testing.T) {
	e := newEnd(t, 1, 1)
	wantGot(t, e)
	hear(t, e, frame(2, "b"))
	wantGot(t, e)
	hear(t, e, frame(1, "a"))
	wantGot(t, e, "a") // what came too early is not kept
	hear(t, e, frame(1, "x"))
	wantGot(t, e, "a")
	hear(t, e, frame(3, "c"), frame(2, "b"), frame(2, "y"), frame(1, "x"))
	wantGot(t, e, "a", "b")
	hear(t, e, frame(4, "d"), frame(math.MaxInt, "z"), frame(3, ""), frame(4, "d"))
	wantGot(t, e, "a", "b", "", "d")
	wantLeft(t, e, 0)
}

// One may hear more than its own window, and more than MaxUnder.
func TestHearMany(t *testing.T) {
	e := newEnd(t, 1, 1)
	hear(t, e, frames(1, 1000)...)
	wantGot(t, e, numbered(1000)...)
	wantOut(t, e, ack(1000))
}

func TestHearWrongFrames(t *testing.T) {
	e := newEnd(t, 2, 2)
	longest, long := strings.Repeat("x", api.MaxText), strings.Repeat("x", api.MaxText+1)
	for range 2 {
		n := len(e.Got())
		for _, seq := range []int{0, -1, -2, math.MinInt} {
			for _, data := range []string{"", "a", longest, long, strings.Repeat("x", 1<<16)} {
				wantUnheard(t, e, frame(seq, data), api.ErrRange)
			}
		}
		for _, seq := range []int{1, 2, 3, n, n + 1, n + 2, math.MaxInt} {
			if seq > 0 {
				wantUnheard(t, e, frame(seq, long), api.ErrFull)
				wantUnheard(t, e, frame(seq, strings.Repeat("x", 1<<16)), api.ErrFull)
			}
		}
		wantOut(t, e)
		hear(t, e, frame(n+1, longest))
		wantOut(t, e, ack(n+1))
	}
	wantGot(t, e, longest, longest)
}

// The two ways do not touch each other: Seqs of what is sent and of what is heard
// count apart.
func TestBothWaysCountApart(t *testing.T) {
	e := sent(t, 4, 2, "a", "b")
	hear(t, e, frame(1, "x"), frame(2, "y"), frame(3, "z"))
	wantUnheard(t, e, ack(1), api.ErrRange)
	wantLeft(t, e, 2)
	wantOut(t, e, ack(3), frame(1, "a"), frame(2, "b"))
	wantUnheard(t, e, ack(3), api.ErrRange)
	hear(t, e, ack(2))
	wantGot(t, e, "x", "y", "z")
	send(t, e, "c")
	wantOut(t, e, frame(3, "c"))
	hear(t, e, frame(4, "w"))
	wantOut(t, e, ack(4))
	wantLeft(t, e, 1)
}

func TestWhatOutGaveIsTheCallersOwn(t *testing.T) {
	e := sent(t, 3, 1, numbered(3)...)
	first := e.Out()
	e.Tick()
	second := e.Out()
	for i := range first[:cap(first)] {
		first[:cap(first)][i] = frame(9, "z")
	}
	if !slices.Equal(second, frames(1, 3)) {
		t.Errorf("what another Out gave is now %v", second)
	}
	e.Tick()
	wantOut(t, e, frames(1, 3)...)
	hear(t, e, ack(2))
	e.Tick()
	wantOut(t, e, frames(3, 3)...)
	if !slices.Equal(second, frames(1, 3)) {
		t.Errorf("what was given is %v behind an Ack", second)
	}
}

func TestWhatGotGaveIsTheCallersOwn(t *testing.T) {
	e := newEnd(t, 3, 1)
	for n := range 20 {
		first, second := e.Got(), e.Got()
		for i := range first[:cap(first)] {
			first[:cap(first)][i] = "z"
		}
		_ = append(first, "z")
		if !slices.Equal(second, numbered(n)) {
			t.Errorf("what another Got gave is now %q", second)
		}
		hear(t, e, frames(n+1, n+1)...)
		if !slices.Equal(second, numbered(n)) {
			t.Errorf("what was given is %q behind a Hear", second)
		}
		_ = append(second, "y")
		wantGot(t, e, numbered(n+1)...)
	}
}

// Two Ends have nothing in common but what is brought from one to the other.
func TestEndsBesideEachOther(t *testing.T) {
	a, b := sent(t, 2, 1, "a", "b"), sent(t, 3, 5, "x")
	wantOut(t, a, frame(1, "a"), frame(2, "b"))
	wantLeft(t, b, 1)
	a.Tick()
	hear(t, a, frame(1, "q"), ack(2))
	wantGot(t, b)
	wantOut(t, b, frame(1, "x"))
	wantOut(t, b)
	wantOut(t, a, ack(1))
	wantLeft(t, b, 1)
	wantLeft(t, a, 0)
}

// part of what a model of an End was sent.
type part struct {
	data  string
	acked bool
	said  bool
	at    int // the Tick at which it was last said
}

// model of an End: each part tells for itself when it was last said.
type model struct {
	window, wait int
	now          int
	parts        []part
	got          []string
	heard        bool
}

func (m *model) left() []int {
	var l []int
	for i, p := range m.parts {
		if !p.acked {
			l = append(l, i)
		}
	}
	return l
}

func (m *model) send(data string) error {
	if len(data) > 200 || len(m.left()) == 100 {
		return api.ErrFull
	}
	m.parts = append(m.parts, part{data: data})
	return nil
}

func (m *model) out() []api.Frame {
	var l []api.Frame
	if m.heard {
		l = append(l, ack(len(m.got)))
	}
	m.heard = false
	inside := m.left()
	inside = inside[:min(len(inside), m.window)]
	latest, some := 0, false
	for _, i := range inside {
		if p := m.parts[i]; p.said {
			latest, some = max(latest, p.at), true
		}
	}
	again := some && m.now-latest >= m.wait
	for _, i := range inside {
		if again || !m.parts[i].said {
			m.parts[i].said, m.parts[i].at = true, m.now
			l = append(l, frame(i+1, m.parts[i].data))
		}
	}
	return l
}

func (m *model) hear(f api.Frame) error {
	last := 0
	for i, p := range m.parts {
		if p.said {
			last = i + 1
		}
	}
	switch {
	case f.Ack && (f.Seq < 0 || f.Seq > last):
		return api.ErrRange
	case f.Ack && f.Data != "":
		return api.ErrShape
	case f.Ack:
		for i := range f.Seq {
			m.parts[i].acked = true
		}
		return nil
	case f.Seq < 1:
		return api.ErrRange
	case len(f.Data) > 200:
		return api.ErrFull
	}
	m.heard = true
	if f.Seq == len(m.got)+1 {
		m.got = append(m.got, f.Data)
	}
	return nil
}

func anyData(r *rand.Rand) string {
	switch r.Intn(12) {
	case 0:
		return strings.Repeat("x", 201)
	case 1:
		return strings.Repeat("x", 200)
	case 2:
		return ""
	}
	return fmt.Sprint(r.Intn(1000))
}

// anyFrame near what stands, now and then far from it.
func anyFrame(r *rand.Rand, m *model) api.Frame {
	far := []int{math.MinInt, -1, 0, 1, 1 << 33, math.MaxInt}[r.Intn(6)]
	if r.Intn(2) == 0 {
		f := ack(len(m.parts) - len(m.left()) + r.Intn(m.window+3) - 1)
		if r.Intn(10) == 0 {
			f.Seq = far
		}
		if r.Intn(10) == 0 {
			f.Data = "a"
		}
		return f
	}
	f := frame(len(m.got)+r.Intn(4)-1, anyData(r))
	if r.Intn(10) == 0 {
		f.Seq = far
	}
	return f
}

// step does one thing to both, and tells how they differ, if they do.
func step(r *rand.Rand, e *End, m *model) string {
	switch r.Intn(5) {
	case 0:
		for range 1 + r.Intn(3) {
			data := anyData(r)
			if err, want := e.Send(data), m.send(data); !errors.Is(err, want) {
				return fmt.Sprintf("Send(%q): got %v, want %v", data, err, want)
			}
		}
	case 1:
		if got, want := e.Out(), m.out(); !slices.Equal(got, want) {
			return fmt.Sprintf("Out: got %v, want %v", got, want)
		}
	case 2:
		f := anyFrame(r, m)
		if err, want := e.Hear(f), m.hear(f); !errors.Is(err, want) {
			return fmt.Sprintf("Hear(%v): got %v, want %v", f, err, want)
		}
	default:
		e.Tick()
		m.now++
	}
	if e.Left() != len(m.left()) || !slices.Equal(e.Got(), m.got) {
		return fmt.Sprintf("Left %d, Got %q, want %d, %q", e.Left(), e.Got(), len(m.left()), m.got)
	}
	return ""
}

func TestLongPlay(t *testing.T) {
	for seed := range 300 {
		r := rand.New(rand.NewSource(int64(seed)))
		window, wait := 1+r.Intn(16), 1+r.Intn(20)
		if seed%2 == 0 {
			window, wait = 1+r.Intn(3), 1+r.Intn(3)
		}
		e, m := newEnd(t, window, wait), &model{window: window, wait: wait}
		for i := range 400 {
			if wrong := step(r, e, m); wrong != "" {
				t.Fatalf("seed %d, window %d, wait %d, step %d: %s", seed, window, wait, i, wrong)
			}
		}
	}
}

// line from one End to another: of what is put on it some is lost, some comes
// twice, and what comes comes in any order.
type line struct {
	r     *rand.Rand
	under []api.Frame
}

func (l *line) put(frames []api.Frame) {
	for _, f := range frames {
		for range []int{0, 1, 1, 2}[l.r.Intn(4)] {
			l.under = append(l.under, f)
		}
	}
}

// bring some of what is under way; the rest comes later.
func (l *line) bring(t *testing.T, e *End) {
	t.Helper()
	for range l.r.Intn(len(l.under) + 1) {
		i := l.r.Intn(len(l.under))
		hear(t, e, l.under[i])
		l.under = slices.Delete(l.under, i, i+1)
	}
}

// beginsWith: has one got nothing but what was sent, in order, once each?
func beginsWith(all, got []string) bool {
	return len(got) <= len(all) && slices.Equal(all[:len(got)], got)
}

// Over a line that loses, doubles and brings late, all comes both ways.
func TestALineThatLoses(t *testing.T) {
	ofA, ofB := numbered(150), numbered(40)
	for seed := range 60 {
		r := rand.New(rand.NewSource(int64(seed)))
		a, b := newEnd(t, 1+r.Intn(16), 1+r.Intn(20)), newEnd(t, 1+r.Intn(16), 1+r.Intn(20))
		there, back := &line{r: r}, &line{r: r}
		toSend := map[*End][]string{a: ofA, b: ofB}
		rounds := 0
		for ; rounds < 20000 && (len(toSend[a])+len(toSend[b])+a.Left()+b.Left() > 0); rounds++ {
			for _, e := range []*End{a, b} {
				for len(toSend[e]) > 0 && r.Intn(3) > 0 && e.Send(toSend[e][0]) == nil {
					toSend[e] = toSend[e][1:]
				}
				e.Tick()
			}
			there.put(a.Out())
			back.put(b.Out())
			there.bring(t, b)
			back.bring(t, a)
			if !beginsWith(ofA, b.Got()) || !beginsWith(ofB, a.Got()) {
				t.Fatalf("seed %d: got %q and %q", seed, b.Got(), a.Got())
			}
		}
		wantGot(t, b, ofA...)
		wantGot(t, a, ofB...)
		wantLeft(t, a, 0)
		wantLeft(t, b, 0)
		// What still comes, late, does nothing any more.
		hear(t, a, back.under...)
		hear(t, b, there.under...)
		wantGot(t, b, ofA...)
		wantGot(t, a, ofB...)
	}
}

// Where all is lost for a while nothing comes, and nothing is Left out then.
func TestALineThatIsDownForAWhile(t *testing.T) {
	a, b := sent(t, 2, 3, numbered(5)...), newEnd(t, 2, 3)
	for range 50 {
		a.Out()
		a.Tick()
	}
	wantLeft(t, a, 5)
	for range 30 {
		hear(t, b, a.Out()...)
		b.Out() // the Acks are lost
		a.Tick()
	}
	wantGot(t, b, "1", "2")
	wantLeft(t, a, 5)
	for range 30 {
		hear(t, b, a.Out()...)
		hear(t, a, b.Out()...)
		a.Tick()
	}
	wantGot(t, b, numbered(5)...)
	wantLeft(t, a, 0)
}
