package tests

import (
	"fmt"
	"math/rand/v2"
	"slices"
	"strings"
	"testing"

	"loop.example/g01389/impl"
)

// drawLines returns lines without newlines, some of which are empty, or equal.
func drawLines(r *rand.Rand, n int) []string {
	d := drawDesk(r)
	var lines []string
	for range n {
		line := drawDeskLine(r, d)
		if r.IntN(3) == 0 {
			line = []string{"", " ", "late", "  late  ", "0 ", "1 2 3", "\x00\xff"}[r.IntN(7)]
		}
		lines = append(lines, strings.ReplaceAll(line, "\n", "~"))
		d, _ = lineByHand(d, lines[len(lines)-1])
	}
	return lines
}

// recoveredByHand returns the most lines with the journal of which a text begins, after a look at the journals of all first lines, and how long it is.
func recoveredByHand(text string) ([]string, int) {
	var lines, best []string
	length := 0
	for _, entry := range strings.Split(text, "\n") {
		_, line, _ := strings.Cut(entry, " ")
		lines = append(lines, line)
		if journal := journalByHand(lines); strings.HasPrefix(text, journal) {
			best, length = slices.Clone(lines), len(journal)
		}
	}
	return best, length
}

// wantRecoveredLines fails if a text is not recovered as these lines.
func wantRecoveredLines(t *testing.T, what, text string, lines []string) {
	t.Helper()
	got, n, ok := impl.RecoverJournal(text)
	if !ok || n != int64(len(journalByHand(lines))) || !slices.Equal(got, lines) {
		t.Errorf("%s, %.80q: got %q, %d, %v, want %q", what, text, got, n, ok, lines)
	}
}

func TestJournalOf(t *testing.T) {
	wantTold(t, "no lines", told(impl.JournalOf(nil)), "")
	wantTold(t, "an empty line", told(impl.JournalOf([]string{""})), "0 \n")
	wantTold(t, "empty lines", told(impl.JournalOf([]string{"", "", ""})), "0 \n0 \n0 \n")
	// A byte makes 0 to itself and 227, and the next one makes 967 times this to that, and itself, and 227.
	wantTold(t, "a letter", told(impl.JournalOf([]string{"a"})), "324 a\n")
	wantTold(t, "two letters", told(impl.JournalOf([]string{"ab"})), "53621 ab\n")
	wantTold(t, "two lines", told(impl.JournalOf([]string{"a", "b"})), "324 a\n53621 b\n")
	wantTold(t, "blanks", told(impl.JournalOf([]string{"a", " ", "", "b"})), "324 a\n53555 \x20\n53555 \n45622 b\n")
	r := drawer(506)
	for range 300 {
		lines := drawLines(r, r.IntN(30))
		wantTold(t, "drawn lines", told(impl.JournalOf(lines)), journalByHand(lines))
	}
}

// fullLines returns lines with a journal of as many bytes.
func fullLines(r *rand.Rand, length int) []string {
	lines := drawLines(r, 50)
	left := length - len(journalByHand(lines))
	// The check number of the last line has 1 to 5 digits, and what they are depends on its letters.
	for letter := 'a'; letter <= 'z'; letter++ {
		for digits := 1; digits <= 5; digits++ {
			full := append(slices.Clip(lines), strings.Repeat(string(letter), left-digits-2))
			if len(journalByHand(full)) == length {
				return full
			}
		}
	}
	return nil
}

func TestJournalOfFails(t *testing.T) {
	for _, lines := range [][]string{{"\n"}, {"late\n"}, {"\nlate"}, {"la\nte"}, {"late", "runs\n"}, {"late\n", "runs"}, {"late", "\n", "runs"}} {
		wantNotTold(t, fmt.Sprintf("lines %q", lines), told(impl.JournalOf(lines)))
	}
	r := drawer(507)
	for range 20 {
		full, more := fullLines(r, impl.MaxScript), fullLines(r, impl.MaxScript+1)
		want(t, "there are such lines", len(full) > 0 && len(more) > 0, true)
		wantTold(t, "as much as can be", told(impl.JournalOf(full)), journalByHand(full))
		wantRecoveredLines(t, "as much as can be", journalByHand(full), full)
		wantNotTold(t, "one byte more", told(impl.JournalOf(more)))
		wantNotTold(t, "one line more", told(impl.JournalOf(append(full, ""))))
	}
	empty := make([]string, 5333)
	wantTold(t, "many empty lines", told(impl.JournalOf(empty)), strings.Repeat("0 \n", 5333))
	wantNotTold(t, "one empty line more", told(impl.JournalOf(append(empty, ""))))
	wantNotTold(t, "very many lines", told(impl.JournalOf(make([]string, 300000))))
	wantNotTold(t, "a very long line", told(impl.JournalOf([]string{strings.Repeat("x", 300000)})))
	wantNotTold(t, "a line too long ahead of others", told(impl.JournalOf([]string{strings.Repeat("x", 16000), "late"})))
}

func TestRecoverJournal(t *testing.T) {
	for _, text := range []string{
		"", "\n", " \n", "0\n", "0", "0 ", "x", "late\n", "late", " late\n", "0 late\n", "1 \n", "00 \n", "+0 \n", "-0 \n", " 0 \n", "0  \n", "0\t\n", "0 \r\n", "324a\n", "324 a", "324 a\r\n", "324 b\n", "325 a\n", "0324 a\n", "+324 a\n", "324  a\n", "324\ta\n", "65327 a\n", "-64679 a\n",
		"324.0 a\n", "144 a\n", "324", "324 ", "\n324 a\n", "٣24 a\n", "53621 b\n",
	} {
		lines, n, ok := impl.RecoverJournal(text)
		want(t, fmt.Sprintf("nothing of %q", text), ok && n == 0 && len(lines) == 0, true)
	}
	for _, more := range []string{
		"", "\n", "0 \n", "324 a\n", "53621", "53621 b", "53621 c\n", "53620 b\n", "053621 b\n", "324 b\n", "x", " ", "53621\tb\n", "\n53621 b\n",
		// The check number of the line alone, and of both lines together.
		fmt.Sprintf("%d b\n", checkByHand(0, "b")), fmt.Sprintf("%d b\n", checkByHand(0, "a\nb")), fmt.Sprintf("%d b\n", checkByHand(324, "\nb")), fmt.Sprintf("%d b\n", checkByHand(0, "324 a\nb")), fmt.Sprintf("%d b\n", 65003+53621),
	} {
		wantRecoveredLines(t, "one line", "324 a\n"+more, []string{"a"})
	}
	wantRecoveredLines(t, "two lines", "324 a\n53621 b\n", []string{"a", "b"})
	wantRecoveredLines(t, "an empty line behind", "324 a\n324 \n", []string{"a", ""})
	wantRecoveredLines(t, "empty lines", "0 \n0 \n1 \n", []string{"", ""})
	wantRecoveredLines(t, "blanks", "324 a\n53555 \x20\n53555 \n", []string{"a", " ", ""})
}

// TestRecoverJournalThatIsCut recovers drawn journals that are cut at any byte, or in which a byte is another one.
func TestRecoverJournalThatIsCut(t *testing.T) {
	r := drawer(508)
	for range 60 {
		lines := drawLines(r, r.IntN(12))
		journal := journalByHand(lines)
		wantRecoveredLines(t, "all", journal, lines)
		wantRecoveredLines(t, "all, and others behind", journal+"x", lines)
		another := journal + journalByHand([]string{"", "b"})
		wantRecoveredLines(t, "all, and another journal behind", another, recoveredLines(another))
		whole := 0
		for at := range len(journal) {
			wantRecoveredLines(t, "cut", journal[:at], lines[:whole])
			bytes := []byte(journal)
			bytes[at] ^= byte(1 + r.IntN(255))
			got, n, ok := impl.RecoverJournal(string(bytes))
			best, length := recoveredByHand(string(bytes))
			want(t, "a byte is another one", ok && n == int64(length) && slices.Equal(got, best) && slices.Equal(got, lines[:whole]), true)
			if journal[at] == '\n' {
				whole++
			}
		}
	}
	for _, text := range brokenTexts(journalByHand([]string{"late", "", "sort 0", "jobs 1,0,0,0", "x"})) {
		wantRecoveredLines(t, "a broken journal", text, recoveredLines(text))
	}
}

// recoveredLines returns the lines that are recovered.
func recoveredLines(text string) []string {
	lines, _ := recoveredByHand(text)
	return lines
}

func TestRecoverJournalFails(t *testing.T) {
	full := strings.Repeat("0 \n", 5333)
	wantRecoveredLines(t, "many empty lines, and one byte more", full+"0", make([]string, 5333))
	wantRecoveredLines(t, "as many bytes that are no journal", strings.Repeat("x", impl.MaxScript), nil)
	wantRecoveredLines(t, "as many newlines", strings.Repeat("\n", impl.MaxScript), nil)
	for _, text := range []string{full + "0 ", full + "0 \n", strings.Repeat("x", impl.MaxScript+1), "0 \n" + strings.Repeat("\n", impl.MaxScript), strings.Repeat("0 \n", 100000)} {
		lines, n, ok := impl.RecoverJournal(text)
		want(t, fmt.Sprintf("recovers %.20q", text), !ok && n == 0 && len(lines) == 0, true)
		d, n, ok := impl.RunJournal(newByHand(), text)
		want(t, fmt.Sprintf("runs %.20q", text), !ok && n == 0 && isNone(d), true)
	}
}

// wantJournalRun fails if a text is not carried out so.
func wantJournalRun(t *testing.T, d impl.Desk, text string, after impl.Desk, lines int) {
	t.Helper()
	got, n, ok := impl.RunJournal(d, text)
	if !ok || n != int64(lines) || !isSame(got, after) {
		t.Errorf("journal %.80q: got %v, %d, %v, want %v, %d", text, got, n, ok, after, lines)
	}
}

func TestRunJournal(t *testing.T) {
	d, after := newByHand(), newByHand()
	after.Pattern = "n"
	wantJournalRun(t, d, "", d, 0)
	wantJournalRun(t, d, "pattern n\n", d, 0)
	wantJournalRun(t, d, journalByHand([]string{"late", "runs"}), d, 2)
	wantJournalRun(t, d, journalByHand([]string{"", "pattern n", "pattern N", "x"}), after, 4)
	wantJournalRun(t, d, journalByHand([]string{"pattern n"})+"x", after, 1)
	wantJournalRun(t, d, journalByHand([]string{"pattern n", "pattern x"})[:20], after, 1)
	r := drawer(509)
	for range 100 {
		first, lines := drawDesk(r), drawLines(r, r.IntN(20))
		desks := []impl.Desk{first}
		for i, line := range lines {
			next, _ := lineByHand(desks[i], line)
			desks = append(desks, next)
		}
		journal := journalByHand(lines)
		wantJournalRun(t, first, journal, desks[len(lines)], len(lines))
		wantRun(t, first, strings.Join(append(slices.Clone(lines), ""), "\n"), desks[len(lines)], outputsByHand(first, lines))
		for range 20 {
			at := r.IntN(len(journal) + 1)
			whole := strings.Count(journal[:at], "\n")
			wantJournalRun(t, first, journal[:at], desks[whole], whole)
			wantJournalRun(t, first, journal[:at]+"?", desks[whole], whole)
		}
	}
	for _, bad := range badDesks() {
		for _, text := range []string{"", "x", journalByHand([]string{"late"}), journalByHand([]string{"jobs 1,0,0,0", "rule 3,1,2,2,1", "counts 2,1", "pattern d"})} {
			after, n, ok := impl.RunJournal(bad, text)
			want(t, "a desk that is not valid", !ok && n == 0 && isNone(after), true)
		}
	}
}

// outputsByHand returns the outputs of lines.
func outputsByHand(d impl.Desk, lines []string) string {
	var outputs strings.Builder
	for _, line := range lines {
		var output string
		d, output = lineByHand(d, line)
		outputs.WriteString(output + "\n")
	}
	return outputs.String()
}
