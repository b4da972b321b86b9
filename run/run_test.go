package run

import (
	"errors"
	"fmt"
	"strings"
	"testing"

	"leafbinder/api"
)

// played is a line, and the answer to it.
type played struct{ line, answer string }

// play the lines of a session. If they are not answered so the first one that is
// not is told.
func play(t *testing.T, session ...played) {
	t.Helper()
	text, want := "", ""
	for _, p := range session {
		text += p.line + "\n"
		want += p.answer + "\n"
	}
	got := Run(text)
	if got == want {
		return
	}
	answers := strings.Split(got, "\n")
	for i, p := range session {
		if i >= len(answers) || answers[i] != p.answer {
			t.Errorf("line %d, %q, is answered %q, want %q, in\n%s", i, p.line, at(answers, i), p.answer, text)
			return
		}
	}
	t.Errorf("Run(%q) = %q, want %q", text, got, want)
}

func at(answers []string, i int) string {
	if i >= len(answers) {
		return "not at all"
	}
	return answers[i]
}

func wantRun(t *testing.T, text, want string) {
	t.Helper()
	if got := Run(text); got != want {
		t.Errorf("Run(%.200q) = %.200q, want %.200q", text, got, want)
	}
}

// begun is a text of a few lines, and what is answered to it.
const (
	begun       = "type 0 0 abc\nsend 0 1\ncut 1 1\n"
	begunAnswer = "ok\nok\nok\n"
)

// wantLine plays a line behind begun, and tells whether it is answered so.
func wantLine(t *testing.T, line, want string) {
	t.Helper()
	wantRun(t, begun+line+"\n", begunAnswer+want+"\n")
}

// wantBad of a line, and that it changes nothing.
func wantBad(t *testing.T, line string) {
	t.Helper()
	look := "\nshow 0\nshow 1\nshow 2\nparts 0\nparts 1\nparts 2\nwho 0\nwho 1\nwho 2\nsame\n"
	wantRun(t, begun+line+look,
		begunAnswer+"bad\n'abc'\n'abc'\n''\nabc\na|bc\n\n3 0 0\n3 0 0\n0 0 0\nno\n")
}

func TestOrdinarySession(t *testing.T) {
	play(t,
		played{"type 0 0 hello", "ok"},
		played{"show 0", "'hello'"},
		played{"show 1", "''"},
		played{"same", "no"},
		played{"send 0 1", "ok"},
		played{"send 0 2", "ok"},
		played{"same", "yes"},
		played{"type 1 5  you", "ok"},
		played{"type 2 0 oh ", "ok"},
		played{"show 1", "'hello you'"},
		played{"show 2", "'oh hello'"},
		played{"cut 2 3", "ok"},
		played{"parts 2", "oh |hello"},
		played{"send 1 0", "ok"},
		played{"send 2 0", "ok"},
		played{"show 0", "'oh hello you'"},
		played{"parts 0", "oh |hello you"},
		played{"who 0", "5 4 3"},
		played{"erase 0 0", "ok"},
		played{"fuse 0 2", "ok"},
		played{"parts 0", "h hello you"},
		played{"same", "no"},
		played{"send 0 1", "ok"},
		played{"send 0 2", "ok"},
		played{"same", "yes"},
		played{"who 2", "5 4 2"},
	)
}

func TestTooLong(t *testing.T) {
	for _, n := range []int{3001, 3002, 6000, 100000} {
		for _, c := range []string{"\n", " ", "a", "\x00", "\xff"} {
			wantRun(t, strings.Repeat(c, n), "too long\n")
		}
		wantRun(t, "same\n"+strings.Repeat("\n", n-5), "too long\n")
	}
	wantRun(t, strings.Repeat("same\n", 600)+"\n", "too long\n")
	wantRun(t, strings.Repeat("same\n", 600)+"s", "too long\n")
}

func TestJustNotTooLong(t *testing.T) {
	wantRun(t, strings.Repeat("same\n", 600), strings.Repeat("yes\n", 600))
	wantRun(t, strings.Repeat("\n", 3000), strings.Repeat("bad\n", 3000))
	wantRun(t, strings.Repeat("a", 3000), "bad\n")
	wantRun(t, strings.Repeat("a", 2999)+"\n", "bad\n")
	wantRun(t, strings.Repeat("\n", 2996)+"same", strings.Repeat("bad\n", 2996)+"yes\n")
	wantRun(t, strings.Repeat("\n", 2995)+"same\n", strings.Repeat("bad\n", 2995)+"yes\n")
	// The limit goes by bytes.
	wantRun(t, strings.Repeat("é", 1500), "bad\n")
	wantRun(t, strings.Repeat("é", 1500)+"a", "too long\n")
}

func TestHowATextIsCut(t *testing.T) {
	for _, c := range []struct{ text, want string }{
		{"", ""},
		{"\n", "bad\n"},
		{"\n\n", "bad\nbad\n"},
		{"same", "yes\n"},
		{"same\n", "yes\n"},
		{"same\n\n", "yes\nbad\n"},
		{"same\n\n\n", "yes\nbad\nbad\n"},
		{"\nsame", "bad\nyes\n"},
		{"\n\nsame\n", "bad\nbad\nyes\n"},
		{"same\n\nsame", "yes\nbad\nyes\n"},
		{"same\nsame", "yes\nyes\n"},
		{"same\n ", "yes\nbad\n"},
		{" ", "bad\n"},
		{" \n", "bad\n"},
		{"\n ", "bad\nbad\n"},
		{"show 0", "''\n"},
		{"show 0\nshow 7", "''\nErrRange\n"},
		{"type 0 0 ab", "ok\n"},
		{"type 0 0 \nshow 0", "ok\n''\n"},
		// Byte 10 alone ends a line.
		{"same\r\n", "bad\n"},
		{"same\rsame\n", "bad\n"},
		{"same\x00", "bad\n"},
		{"same\x0bsame", "bad\n"},
		{"same\u2028same", "bad\n"},
	} {
		wantRun(t, c.text, c.want)
	}
}

func TestEachLineHasItsWords(t *testing.T) {
	for _, c := range []struct {
		word    string
		numbers int
		text    bool
	}{
		{"type", 2, true}, {"erase", 2, false}, {"cut", 2, false}, {"fuse", 2, false}, {"send", 2, false},
		{"show", 1, false}, {"parts", 1, false}, {"same", 0, false}, {"who", 1, false},
	} {
		whole := c.word + strings.Repeat(" 1", c.numbers)
		for n := range c.numbers {
			few := c.word + strings.Repeat(" 1", n)
			wantBad(t, few)
			wantBad(t, few+" ")
			wantBad(t, few+"  ")
		}
		wantBad(t, " "+whole)
		wantBad(t, c.word+strings.Repeat("  1", max(c.numbers, 1)))
		wantBad(t, c.word+"  "+strings.Repeat(" 1", c.numbers))
		wantBad(t, strings.ToUpper(c.word)+strings.Repeat(" 1", c.numbers))
		wantBad(t, c.word+"s"+strings.Repeat(" 1", c.numbers))
		wantBad(t, c.word[1:]+strings.Repeat(" 1", c.numbers))
		wantBad(t, c.word+"\t1\t1")
		wantBad(t, strings.ReplaceAll(whole, " ", "\t")+"\t")
		if c.text {
			wantBad(t, whole) // the blank ahead of its text is lacking
			continue
		}
		wantBad(t, whole+" ")
		wantBad(t, whole+"  ")
		wantBad(t, whole+" 1")
		wantBad(t, whole+" x")
		wantBad(t, whole+"\r")
	}
}

func TestTwoBlanksWhereOneIsAsked(t *testing.T) {
	for _, line := range []string{
		"type  0 0 a", "type 0  0 a", "type  0  0  a", "erase  0 0", "erase 0  0", "cut  0 0", "cut 0  0",
		"fuse  0 0", "fuse 0  0", "send  0 1", "send 0  1", "show  0", "parts  0", "who  0",
	} {
		wantBad(t, line)
	}
	// Behind the blank ahead of a TEXT all is its own.
	play(t, played{"type 0 0  a", "ok"}, played{"show 0", "' a'"})
}

func TestOtherWords(t *testing.T) {
	for _, line := range []string{
		"", " ", "  ", "0", "0 0", "type", "types 0 0 a", "ty pe 0 0 a", "insert 0 0 a", "split 0 0", "join 0 0", "deliver 0",
		"lose 0", "twice 0", "text 0", "ok", "bad", "yes", "Same", "same same", "same 0", "'same'", "same.", "\xff", "who", "whom 0",
		"too long", "ErrRange", "write 0 0 a", "delete 0 0", "show0", "type0 0 a", "|", "\x00", "same\x00", "é 0",
	} {
		wantBad(t, line)
	}
}

// wrongNumbers are none, wherever one is asked.
var wrongNumbers = []string{
	"", "00", "01", "000", "0000", "00000", "09", "0001", "00001", "12345", "10000", "99999", "4294967296",
	"18446744073709551616", "99999999999999999999", "-1", "+1", "-0", "+0", "-", "+", "1a", "a", "a1", "1a1", "0x1", "1_0", "1e1", "1.0", "1.",
	"1,0", "/", ":", "\x00", "\xff", "٣", "１", "1\t", "\t1", "1\r", "1\x00", "'1'",
}

// asked are lines with a number missing.
var asked = []string{
	"type %s 0 a", "type 0 %s a", "type %s 0 ", "type 0 %s ", "erase %s 0", "erase 0 %s", "cut %s 0", "cut 0 %s", "fuse %s 1", "fuse 1 %s",
	"send %s 2", "send 0 %s", "show %s", "parts %s", "who %s",
}

func TestWhatIsNoNumber(t *testing.T) {
	for _, line := range asked {
		for _, n := range wrongNumbers {
			wantBad(t, fmt.Sprintf(line, n))
		}
	}
	// Both are wrong, or one is, and there is no such node.
	for _, line := range []string{"type 00 00 a", "erase 01 01", "send 7 00", "send 00 7", "cut 7 -1", "type 7 12345 a", "fuse 9999 "} {
		wantBad(t, line)
	}
}

// TestNumbersThatAreNone: they can be read, but there is no such node, or offset.
func TestNumbersThatAreNone(t *testing.T) {
	for _, line := range asked {
		for _, n := range []string{"5", "7", "9", "10", "99", "100", "999", "1000", "9998", "9999"} {
			want := "ErrRange"
			if line == "type %s 0 " || line == "type 0 %s " {
				want = "ok" // there is no letter to be typed
			}
			wantLine(t, fmt.Sprintf(line, n), want)
		}
	}
}

func TestNodesThatThereAreNot(t *testing.T) {
	for _, line := range []string{"type %d 0 a", "erase %d 0", "cut %d 0", "fuse %d 1", "send %d 0", "send 0 %d", "show %d", "parts %d", "who %d"} {
		for _, node := range []int{3, 4, 7, 9999} {
			wantLine(t, fmt.Sprintf(line, node), "ErrRange")
		}
	}
	// Which is none goes ahead of what are the same.
	wantLine(t, "send 3 3", "ErrRange")
	wantLine(t, "send 2 2", "ErrShape")
	for node := range 3 {
		wantLine(t, fmt.Sprintf("type %d 0 a", node), "ok")
	}
}

func TestTypeAtAnOffset(t *testing.T) {
	for offset, want := range []string{"'xyabc'", "'axybc'", "'abxyc'", "'abcxy'"} {
		play(t, played{"type 0 0 abc", "ok"}, played{fmt.Sprintf("type 0 %d xy", offset), "ok"}, played{"show 0", want})
	}
	for _, offset := range []int{4, 5, 9999} {
		play(t, played{"type 0 0 abc", "ok"}, played{fmt.Sprintf("type 0 %d xy", offset), "ErrRange"}, played{"show 0", "'abc'"})
	}
	// An offset counts what is seen.
	play(t,
		played{"type 1 0 abcd", "ok"}, played{"erase 1 1", "ok"}, played{"erase 1 1", "ok"},
		played{"type 1 1 xyz", "ok"}, played{"show 1", "'axyzd'"}, played{"type 1 6 v", "ErrRange"}, played{"type 1 5 v", "ok"},
		played{"show 1", "'axyzdv'"}, played{"who 1", "0 6 0"},
	)
}

func TestWhatIsTyped(t *testing.T) {
	for _, text := range []string{
		"", "a", "ab", "hello", " ", "  ", "   ", " a", "a ", " a ", "a b", "a  b", "  a  b  ", "0 0", " 0 0 a", "type 0 0 a",
		"'", "''", "|", "a|b", "~", "!~ ", "bad", "ErrRange", "\\n", "%s",
	} {
		for node := range 3 {
			play(t,
				played{fmt.Sprintf("type %d 0 %s", node, text), "ok"},
				played{fmt.Sprintf("show %d", node), "'" + text + "'"},
				played{fmt.Sprintf("parts %d", node), text},
				played{fmt.Sprintf("show %d", (node+1)%3), "''"},
			)
		}
	}
	// Each letter that may be written.
	for c := 32; c <= 126; c++ {
		letter := string(rune(c))
		play(t, played{"type 2 0 " + letter, "ok"}, played{"show 2", "'" + letter + "'"})
	}
}

func TestLettersThatMayNotBeWritten(t *testing.T) {
	for c := range 256 {
		if c == 10 || c >= 32 && c <= 126 {
			continue
		}
		letter := string([]byte{byte(c)})
		play(t, played{"type 0 0 " + letter, "ErrRange"}, played{"show 0", "''"}, played{"same", "yes"})
		play(t, played{"type 0 0 " + letter + "ab", "ErrRange"}, played{"show 0", "''"}, played{"same", "yes"})
		play(t, played{"type 0 0 ab" + letter, "ErrRange"}, played{"show 0", "'ab'"})
		// Those ahead of it are typed, none behind it is.
		play(t,
			played{"type 0 0 xy", "ok"}, played{"type 0 1 ab" + letter + "cd", "ErrRange"}, played{"show 0", "'xaby'"},
			played{"who 0", "4 0 0"}, played{"type 0 3 e", "ok"}, played{"show 0", "'xabey'"},
		)
	}
	play(t, played{"type 1 0 caf\u00e9!", "ErrRange"}, played{"show 1", "'caf'"})
}

func TestTypedBetweenTillThereIsNoRoom(t *testing.T) {
	long := strings.Repeat("a", 99)
	play(t, played{"type 0 0 " + long, "ok"}, played{"show 0", "'" + long + "'"}, played{"type 0 99 b", "ErrDeep"}, played{"type 0 0 b", "ok"})
	play(t, played{"type 0 0 " + long + "bcd", "ErrDeep"}, played{"show 0", "'" + long + "'"}, played{"who 0", "99 0 0"})
	// There is no room ahead of a letter that may not be written, so it is not come to.
	play(t, played{"type 0 0 " + long + "b\t", "ErrDeep"}, played{"show 0", "'" + long + "'"})
	play(t, played{"type 0 0 " + long + "\tb", "ErrRange"}, played{"show 0", "'" + long + "'"})
	play(t, played{"type 0 0 " + strings.Repeat("a", 2900), "ErrDeep"}, played{"show 0", "'" + long + "'"})

	session := []played{{"type 0 0 ab", "ok"}}
	for range 31 {
		session = append(session, played{"type 0 1 x", "ok"})
	}
	session = append(session, played{"type 0 1 x", "ErrDeep"}, played{"show 0", "'a" + strings.Repeat("x", 31) + "b'"})
	play(t, session...)
}

// fill gives lines by which a node has a book of 300 letters.
func fill(node int) []played {
	var session []played
	for range 5 {
		session = append(session, played{fmt.Sprintf("type %d 0 %s", node, strings.Repeat("a", 60)), "ok"})
	}
	return session
}

func TestFullBook(t *testing.T) {
	full := "'" + strings.Repeat("a", 300) + "'"
	play(t, append(fill(0),
		played{"show 0", full}, played{"type 0 0 b", "ErrFull"}, played{"show 0", full},
		// What is struck is in the book still.
		played{"erase 0 0", "ok"}, played{"type 0 0 b", "ErrFull"}, played{"who 0", "299 0 0"},
	)...)
	play(t, append(fill(0)[1:],
		played{"type 0 0 " + strings.Repeat("b", 70), "ErrFull"},
		played{"show 0", "'" + strings.Repeat("b", 60) + strings.Repeat("a", 240) + "'"},
	)...)
}

func TestFullOfOps(t *testing.T) {
	session := fill(1)
	for range 100 {
		session = append(session, played{"erase 1 0", "ok"})
	}
	session = append(session,
		played{"erase 1 0", "ErrFull"}, played{"cut 1 0", "ErrFull"}, played{"type 1 0 a", "ErrFull"},
		played{"who 1", "0 200 0"}, played{"erase 1 200", "ErrRange"}, played{"fuse 1 0", "ErrNone"},
	)
	play(t, session...)
}

func TestErase(t *testing.T) {
	play(t, played{"erase 0 0", "ErrRange"}, played{"same", "yes"})
	for offset, want := range []string{"'bc'", "'ac'", "'ab'"} {
		play(t,
			played{"type 0 0 abc", "ok"}, played{fmt.Sprintf("erase 0 %d", offset), "ok"}, played{"show 0", want},
			played{"erase 0 2", "ErrRange"}, played{"show 0", want}, played{"erase 0 0", "ok"}, played{"erase 0 0", "ok"},
			played{"show 0", "''"}, played{"erase 0 0", "ErrRange"}, played{"who 0", "0 0 0"}, played{"same", "no"},
		)
	}
	for _, offset := range []int{3, 4, 9999} {
		play(t, played{"type 0 0 abc", "ok"}, played{fmt.Sprintf("erase 0 %d", offset), "ErrRange"}, played{"show 0", "'abc'"})
	}
	// A node erases in its own copy, also what another one wrote.
	play(t,
		played{"type 0 0 abc", "ok"}, played{"erase 1 0", "ErrRange"}, played{"send 0 1", "ok"}, played{"erase 1 1", "ok"},
		played{"show 1", "'ac'"}, played{"show 0", "'abc'"}, played{"send 1 0", "ok"}, played{"show 0", "'ac'"}, played{"who 0", "2 0 0"},
	)
}

func TestCutAndFuse(t *testing.T) {
	play(t, played{"cut 0 0", "ErrRange"}, played{"fuse 0 0", "ErrRange"}, played{"parts 0", ""})
	for offset, want := range []string{"|abc", "a|bc", "ab|c"} {
		cut, fuse := fmt.Sprintf("cut 0 %d", offset), fmt.Sprintf("fuse 0 %d", offset)
		play(t,
			played{"type 0 0 abc", "ok"}, played{fuse, "ErrNone"}, played{cut, "ok"}, played{"parts 0", want}, played{"show 0", "'abc'"},
			// A second cut there makes no other part, and one fuse takes both.
			played{cut, "ok"}, played{"parts 0", want}, played{fuse, "ok"}, played{"parts 0", "abc"},
			played{fuse, "ErrNone"}, played{cut, "ok"}, played{"parts 0", want},
		)
	}
	for _, offset := range []int{3, 4, 9999} {
		play(t,
			played{"type 0 0 abc", "ok"}, played{fmt.Sprintf("cut 0 %d", offset), "ErrRange"},
			played{fmt.Sprintf("fuse 0 %d", offset), "ErrRange"}, played{"parts 0", "abc"},
		)
	}
	play(t,
		played{"type 0 0 abc", "ok"}, played{"cut 0 1", "ok"}, played{"fuse 0 0", "ErrNone"}, played{"fuse 0 2", "ErrNone"},
		played{"fuse 0 3", "ErrRange"}, played{"parts 0", "a|bc"}, played{"fuse 0 1", "ok"}, played{"parts 0", "abc"},
	)
}

func TestAtMostFortyCuts(t *testing.T) {
	session := []played{{"type 0 0 ab", "ok"}}
	for range 40 {
		session = append(session, played{"cut 0 1", "ok"})
	}
	session = append(session,
		played{"cut 0 1", "ErrFull"}, played{"cut 0 0", "ErrFull"}, played{"parts 0", "a|b"},
		played{"fuse 0 1", "ok"}, played{"fuse 0 1", "ErrNone"}, played{"cut 0 0", "ok"}, played{"parts 0", "|ab"},
	)
	play(t, session...)
}

func TestSend(t *testing.T) {
	for from := range 3 {
		for to := range 3 {
			want, there := "ok", "'abc'"
			if from == to {
				want = "ErrShape"
			}
			session := []played{{fmt.Sprintf("send %d %d", from, to), want}} // there is nothing to be sent
			session = append(session, played{fmt.Sprintf("type %d 0 abc", from), "ok"})
			session = append(session, played{fmt.Sprintf("send %d %d", from, to), want})
			session = append(session, played{fmt.Sprintf("show %d", to), there})
			session = append(session, played{fmt.Sprintf("send %d %d", from, to), want}) // it lacks nothing
			session = append(session, played{fmt.Sprintf("show %d", to), there}, played{"same", "no"})
			play(t, session...)
		}
	}
	// From the first to the second: not the other way round.
	play(t, played{"type 0 0 abc", "ok"}, played{"send 1 0", "ok"}, played{"show 0", "'abc'"}, played{"show 1", "''"})
	// What a node was sent it sends on.
	play(t,
		played{"type 0 0 abc", "ok"}, played{"send 0 1", "ok"}, played{"send 1 2", "ok"}, played{"show 2", "'abc'"}, played{"same", "yes"},
		played{"who 2", "3 0 0"},
	)
}

// TestSendOften: a parcel comes at once, so that none is ever in the way.
func TestSendOften(t *testing.T) {
	session := []played{{"type 0 0 a", "ok"}}
	for range 150 {
		session = append(session, played{"send 0 1", "ok"}, played{"send 1 1", "ErrShape"})
	}
	session = append(session, played{"send 1 2", "ok"}, played{"same", "yes"})
	play(t, session...)
}

func TestSendWhatWasCutAndJoined(t *testing.T) {
	play(t,
		played{"type 0 0 abc", "ok"}, played{"cut 0 1", "ok"}, played{"cut 0 2", "ok"}, played{"send 0 1", "ok"},
		played{"parts 1", "a|b|c"}, played{"fuse 1 2", "ok"}, played{"parts 1", "a|bc"}, played{"parts 0", "a|b|c"},
		played{"send 1 2", "ok"}, played{"parts 2", "a|bc"}, played{"send 1 0", "ok"}, played{"parts 0", "a|bc"}, played{"same", "yes"},
	)
	// A cut that another one made meanwhile stays, and is no part of its own.
	play(t,
		played{"type 0 0 ab", "ok"}, played{"cut 0 1", "ok"}, played{"send 0 1", "ok"}, played{"cut 1 1", "ok"}, played{"fuse 0 1", "ok"},
		played{"parts 0", "ab"}, played{"parts 1", "a|b"}, played{"send 0 1", "ok"}, played{"parts 1", "a|b"},
		played{"send 1 0", "ok"}, played{"parts 0", "a|b"}, played{"fuse 0 1", "ok"}, played{"parts 0", "ab"}, played{"fuse 0 1", "ErrNone"},
	)
}

// TestSendToAFullNode: what finds no room is told, what is ahead of it has come.
func TestSendToAFullNode(t *testing.T) {
	session := fill(0)[1:]
	session = append(session, played{"type 0 0 " + strings.Repeat("a", 58), "ok"})
	session = append(session,
		played{"type 1 0 bcd", "ok"}, played{"send 1 0", "ErrFull"}, played{"who 0", "298 2 0"}, played{"send 1 0", "ErrFull"},
		played{"who 0", "298 2 0"}, played{"send 2 0", "ok"}, played{"type 0 0 a", "ErrFull"},
		// That parcel is no more under way: another one comes.
		played{"type 2 0 e", "ok"}, played{"send 1 2", "ok"}, played{"who 2", "0 3 1"},
	)
	play(t, session...)
}

func TestShow(t *testing.T) {
	play(t,
		played{"show 0", "''"}, played{"show 1", "''"}, played{"show 2", "''"}, played{"show 3", "ErrRange"},
		played{"type 1 0 it's", "ok"}, played{"show 0", "''"}, played{"show 1", "'it's'"}, played{"show 2", "''"},
		played{"cut 1 2", "ok"}, played{"show 1", "'it's'"}, played{"erase 1 2", "ok"}, played{"show 1", "'its'"},
	)
}

func TestParts(t *testing.T) {
	play(t,
		played{"parts 0", ""}, played{"parts 3", "ErrRange"}, played{"type 0 0 abcdef", "ok"}, played{"parts 0", "abcdef"}, played{"parts 1", ""},
		played{"cut 0 4", "ok"}, played{"parts 0", "abcd|ef"}, played{"cut 0 2", "ok"}, played{"parts 0", "ab|cd|ef"},
		played{"cut 0 0", "ok"}, played{"parts 0", "|ab|cd|ef"}, played{"cut 0 5", "ok"}, played{"parts 0", "|ab|cd|e|f"},
		// A part of which nothing is seen is one still, and what is cut stays so where its letter was.
		played{"erase 0 4", "ok"}, played{"parts 0", "|ab|cd||f"}, played{"erase 0 4", "ok"}, played{"parts 0", "|ab|cd||"},
		played{"erase 0 2", "ok"}, played{"parts 0", "|ab|d||"}, played{"type 0 2 |", "ok"}, played{"parts 0", "|ab||d||"},
		played{"show 0", "'ab|d'"},
	)
	play(t,
		played{"type 2 0 a|b", "ok"}, played{"parts 2", "a|b"}, played{"cut 2 1", "ok"}, played{"parts 2", "a||b"},
		played{"cut 2 2", "ok"}, played{"parts 2", "a|||b"},
	)
}

func TestSame(t *testing.T) {
	play(t,
		played{"same", "yes"}, played{"type 0 0 a", "ok"}, played{"same", "no"}, played{"send 0 1", "ok"}, played{"same", "no"},
		played{"send 0 2", "ok"}, played{"same", "yes"},
		// Cuts are held against each other, too.
		played{"cut 1 0", "ok"}, played{"same", "no"}, played{"send 1 0", "ok"}, played{"same", "no"}, played{"send 1 2", "ok"}, played{"same", "yes"},
		played{"fuse 2 0", "ok"}, played{"same", "no"}, played{"send 2 0", "ok"}, played{"send 2 1", "ok"}, played{"same", "yes"},
		// And what is struck: what is seen may be the same.
		played{"type 0 1 b", "ok"}, played{"erase 0 1", "ok"}, played{"show 0", "'a'"}, played{"show 1", "'a'"}, played{"same", "no"},
		played{"send 0 1", "ok"}, played{"send 1 2", "ok"}, played{"same", "yes"},
	)
	// The same letter of two authors is not the same.
	play(t,
		played{"type 0 0 a", "ok"}, played{"type 1 0 a", "ok"}, played{"type 2 0 a", "ok"}, played{"same", "no"},
		played{"send 0 1", "ok"}, played{"send 1 2", "ok"}, played{"send 2 0", "ok"}, played{"same", "no"}, played{"send 2 1", "ok"},
		played{"same", "yes"}, played{"show 0", "'aaa'"},
	)
}

func TestWho(t *testing.T) {
	play(t,
		played{"who 0", "0 0 0"}, played{"who 1", "0 0 0"}, played{"who 2", "0 0 0"}, played{"who 3", "ErrRange"},
		played{"type 0 0 a", "ok"}, played{"who 0", "1 0 0"}, played{"who 1", "0 0 0"},
		played{"type 1 0 bc", "ok"}, played{"who 1", "0 2 0"},
		played{"type 2 0 0123456789", "ok"}, played{"who 2", "0 0 10"},
		played{"send 0 1", "ok"}, played{"who 1", "1 2 0"}, played{"send 1 2", "ok"}, played{"who 2", "1 2 10"}, played{"who 0", "1 0 0"},
		// What is struck counts no more, whoever has done it. (The first letters of all have the same place but for the author.)
		played{"show 2", "'ab0c123456789'"}, played{"erase 2 0", "ok"}, played{"who 2", "0 2 10"}, played{"erase 2 0", "ok"},
		played{"who 2", "0 1 10"}, played{"erase 2 0", "ok"}, played{"show 2", "'c123456789'"}, played{"who 2", "0 1 9"}, played{"who 1", "1 2 0"},
	)
}

// TestErrorsByTheirNames, also of those that no line comes to.
func TestErrorsByTheirNames(t *testing.T) {
	for e, name := range []string{1: "ErrRange", "ErrSyntax", "ErrShape", "ErrFull", "ErrNone", "ErrState", "ErrClash", "ErrDeep"} {
		if e == 0 {
			continue
		}
		err := api.Errno(e)
		if got := told(err); got != name {
			t.Errorf("%v is told %q, want %q", err, got, name)
		}
		if got := told(fmt.Errorf("over it: %w", err)); got != name {
			t.Errorf("what wraps %v is told %q, want %q", err, got, name)
		}
		if got := told(unread{err}); got != "bad" {
			t.Errorf("a line that can't be read, for %v, is told %q", err, got)
		}
		if got := told(fmt.Errorf("over it: %w", unread{err})); got != "bad" {
			t.Errorf("what wraps a line that can't be read, for %v, is told %q", err, got)
		}
		var number api.Errno
		if !errors.As(error(unread{err}), &number) || number != err || (unread{err}).Error() != name {
			t.Errorf("a line that can't be read has another error in it than %v", err)
		}
	}
	if got := told(errors.New("another one")); got != "bad" {
		t.Errorf("another error is told %q", got)
	}
}

// TestLinesCanBeLeft: whoever goes over them need not go to the end, and may
// begin anew.
func TestLinesCanBeLeft(t *testing.T) {
	all := lines("a\nb\n\nc")
	for range 2 {
		var seen []string
		for line := range all {
			seen = append(seen, line)
			if line == "b" {
				break
			}
		}
		if got := strings.Join(seen, ","); got != "a,b" {
			t.Errorf("lines up to b: %q", got)
		}
	}
}

func TestWrongLinesBetweenRightOnes(t *testing.T) {
	right := []played{
		{"type 0 0 abc", "ok"}, {"cut 0 1", "ok"}, {"send 0 1", "ok"}, {"erase 1 0", "ok"}, {"fuse 1 0", "ok"}, {"send 1 0", "ok"},
		{"show 0", "'bc'"}, {"parts 0", "bc"}, {"send 0 2", "ok"}, {"same", "yes"}, {"who 2", "2 0 0"},
	}
	wrong := []played{
		{"", "bad"}, {" ", "bad"}, {"type 0 0", "bad"}, {"type 0 00 x", "bad"}, {"type 9 0 x", "ErrRange"}, {"type 0 9 x", "ErrRange"},
		{"type 1 0 \x7f", "ErrRange"}, {"erase 1 9", "ErrRange"}, {"erase 1", "bad"}, {"cut 2 99", "ErrRange"}, {"cut 0 0 0", "bad"},
		{"fuse 2 9", "ErrRange"}, {"send 1 1", "ErrShape"}, {"send 1 3", "ErrRange"}, {"send 1", "bad"}, {"show", "bad"}, {"show 3", "ErrRange"},
		{"parts 01", "bad"}, {"parts 7", "ErrRange"}, {"same ", "bad"}, {"who", "bad"}, {"who 10000", "bad"}, {"\xff\xfe", "bad"},
	}
	play(t, right...)
	play(t, wrong...)
	for _, w := range wrong {
		session := []played{w}
		for _, r := range right {
			session = append(session, r, w)
		}
		play(t, session...)
	}
	var session []played
	for _, r := range right {
		session = append(append(session, wrong...), r)
	}
	play(t, session...)
}

// TestOneSessionKnowsNothingOfAnother: what was answered before changes nothing.
func TestOneSessionKnowsNothingOfAnother(t *testing.T) {
	for range 3 {
		play(t, played{"show 0", "''"}, played{"same", "yes"}, played{"type 0 0 a", "ok"}, played{"cut 0 0", "ok"}, played{"parts 0", "|a"})
	}
}

// TestOfTheReadme: the session that stands there.
func TestOfTheReadme(t *testing.T) {
	wantRun(t, "type 0 0 abc\nsend 0 1\ntype 1 3 de\ncut 1 3\nshow 1\nparts 1\nwho 1\nsame\nfuse 0 1\nsend 2 2\nshow 3\nshow  1\n",
		"ok\nok\nok\nok\n'abcde'\nabc|de\n3 2 0\nno\nErrNone\nErrShape\nErrRange\nbad\n")
}
