package tests

import (
	"fmt"
	"strings"
	"testing"

	"loop.example/g01389/impl"
)

// wantRun fails if a script does not return a desk, and outputs.
func wantRun(t *testing.T, d impl.Desk, script string, after impl.Desk, outputs string) {
	t.Helper()
	got, text, ok := impl.RunDesk(d, script)
	if !ok || text != outputs || !isSame(got, after) {
		t.Errorf("script %.80q: got %v, %.80q, %v, want %v, %.80q", script, got, text, ok, after, outputs)
	}
}

// wantNoRun fails if a script has not failed, or has returned something.
func wantNoRun(t *testing.T, what string, d impl.Desk, script string) {
	t.Helper()
	after, outputs, ok := impl.RunDesk(d, script)
	want(t, what, !ok && outputs == "" && isNone(after), true)
}

func TestRunDesk(t *testing.T) {
	d := newByHand()
	wantRun(t, d, "", d, "")
	wantRun(t, d, "\n", d, "what\n")
	wantRun(t, d, "\n\n", d, "what\nwhat\n")
	wantRun(t, d, "shifts\n", d, "6\n")
	wantRun(t, d, "shifts\n\nshifts\n", d, "6\nwhat\n6\n")
	wantRun(t, d, "shifts\r\nno\nwait\n", d, "what\nwhat\nwhat\n")
	after := newByHand()
	after.Counts, after.Pattern = []int64{3}, "n"
	wantRun(t, d, "counts 3\nmixed\ncounts 0\nmixed\npattern n\npattern\npattern N\ncounts\n", after, "ok\n0,0,0\nno\n0,0,0\nok\nn\nno\n3\n")
	sorted := newByHand()
	sorted.Jobs[0], sorted.Jobs[1] = sorted.Jobs[1], sorted.Jobs[0]
	wantRun(t, d, "best 1\nsort 0\nbest 1\njobs\nsort 2\njobs\n", sorted, "1,0;4\nok\n0,1;4\n1,0,2,1;2,0,4,1\nok\n1,0,2,1;2,0,4,1\n")
}

// TestRunDeskLineByLine carries out drawn scripts, and their lines alone, and by hand.
func TestRunDeskLineByLine(t *testing.T) {
	r := drawer(505)
	for range 300 {
		first := drawDesk(r)
		d, alone := first, first
		var script, outputs strings.Builder
		var vain, others int64
		for range r.IntN(40) {
			line := strings.ReplaceAll(drawDeskLine(r, d), "\n", "~")
			var output, text string
			d, output = lineByHand(d, line)
			alone, text, _ = impl.DeskCommand(alone, line)
			want(t, "a line alone", text, output)
			script.WriteString(line + "\n")
			outputs.WriteString(output + "\n")
			if output == "no" || output == "what" {
				vain++
			} else {
				others++
			}
		}
		wantRun(t, first, script.String(), d, outputs.String())
		want(t, "all lines alone", isSame(alone, d), true)
		wantCounted(t, outputs.String(), vain, others)
		// The end of a script is another script.
		_, rest, _ := strings.Cut(script.String(), "\n")
		half, _ := lineByHand(first, script.String()[:max(0, script.Len()-len(rest)-1)])
		_, outputsOfRest, _ := strings.Cut(outputs.String(), "\n")
		wantRun(t, half, rest, d, outputsOfRest)
	}
}

// scriptOf returns a script of as many bytes, with lines that are answered with ok, but the last one.
func scriptOf(length int) string {
	const line = "pattern d\n"
	script := strings.Repeat(line, length/len(line)-1)
	return script + strings.Repeat("x", length-len(script)-1) + "\n"
}

func TestRunDeskFails(t *testing.T) {
	d := newByHand()
	for _, script := range []string{"late", "late\nlate", "\nlate", " ", "\n ", "late\n\x00", "late\r", "x"} {
		wantNoRun(t, fmt.Sprintf("the script %q", script), d, script)
	}
	for _, bad := range badDesks() {
		for _, script := range []string{"", "\n", "late\n", "jobs 1,0,0,0\nrule 3,1,2,2,1\ncounts 2,1\npattern d\n"} {
			wantNoRun(t, "a desk that is not valid", bad, script)
		}
	}
	after := newByHand()
	after.Pattern = "d"
	full := scriptOf(impl.MaxScript)
	want(t, "bytes of a full script", len(full), 16000)
	wantRun(t, d, full, after, strings.Repeat("ok\n", 1599)+"what\n")
	wantNoRun(t, "a script of one byte more", d, scriptOf(impl.MaxScript+1))
	wantNoRun(t, "a script of one line more", d, full+"\n")
	wantNoRun(t, "a script of many bytes more", d, strings.Repeat("late\n", 100000))
	wantRun(t, d, strings.Repeat("\n", impl.MaxScript), d, strings.Repeat("what\n", impl.MaxScript))
	wantNoRun(t, "a script of one empty line more", d, strings.Repeat("\n", impl.MaxScript+1))
	wantRun(t, d, strings.Repeat(" ", impl.MaxScript-1)+"\n", d, "what\n")
	wantNoRun(t, "a script that does not end", d, strings.Repeat("x", impl.MaxScript))
}

// wantCounted fails if outputs are not counted so.
func wantCounted(t *testing.T, text string, vain, others int64) {
	t.Helper()
	bad, good, ok := impl.CountOutputs(text)
	if !ok || bad != vain || good != others {
		t.Errorf("count of %.80q: got %d, %d, %v, want %d, %d", text, bad, good, ok, vain, others)
	}
}

func TestCountOutputs(t *testing.T) {
	wantCounted(t, "", 0, 0)
	wantCounted(t, "no\n", 1, 0)
	wantCounted(t, "what\n", 1, 0)
	wantCounted(t, "ok\n", 0, 1)
	wantCounted(t, "\n", 0, 1)
	wantCounted(t, "no\nwhat\nno\n", 3, 0)
	wantCounted(t, "ok\nno\n1,0;4\nwhat\n6\nno\n", 3, 3)
	for _, other := range []string{"no ", " no", "No", "NO", "noo", "n", "what ", " what", "What", "wha", "whats", "no what", "nowhat", "none", "none;1", "no\r", "no\x00", "ok", "\xff", "0"} {
		wantCounted(t, other+"\n", 0, 1)
		wantCounted(t, "no\n"+other+"\nwhat\n", 2, 1)
	}
	wantCounted(t, strings.Repeat("no\n", 5333)+"\n", 5333, 1)
	wantCounted(t, strings.Repeat("what\n", 3200), 3200, 0)
	wantCounted(t, strings.Repeat("\n", impl.MaxScript), 0, impl.MaxScript)
	wantCounted(t, strings.Repeat("x", impl.MaxScript-1)+"\n", 0, 1)
}

func TestCountOutputsFails(t *testing.T) {
	texts := []string{
		"no", "ok", "x", " ", "no\nno", "\nwhat", "no\n ", "ok\n\x00", "no\r", strings.Repeat("no\n", 5333) + "no", strings.Repeat("x", impl.MaxScript),
		strings.Repeat("what\n", 3200) + "\n", strings.Repeat("\n", impl.MaxScript+1), strings.Repeat("x", impl.MaxScript) + "\n", strings.Repeat("no\n", 100000),
	}
	for _, text := range texts {
		bad, good, ok := impl.CountOutputs(text)
		want(t, fmt.Sprintf("count of %.40q", text), !ok && bad == 0 && good == 0, true)
	}
	// The outputs of a script can be longer than what is counted.
	_, outputs, _ := impl.RunDesk(newByHand(), strings.Repeat("roster 12 128\n", 100))
	_, _, ok := impl.CountOutputs(outputs)
	want(t, "long outputs", len(outputs) == 100*(12*129) && !ok, true)
}
