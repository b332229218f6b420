package tests

import (
	"fmt"
	"slices"
	"strconv"
	"strings"
	"testing"

	"loop.example/g01114/impl"
)

// goodLines are lines of each kind that can be executed on 3 2 1, each with what it leads to.
var goodLines = []struct {
	line  string
	piles []int
	reply string
}{
	{"take 4", []int{4}, "4"}, {"take 0", nil, "0"}, {"take 28", []int{28}, "28"}, {"take 3+1+1+1", []int{3, 1, 1, 1}, "3+1+1+1"}, {"take 10+10", []int{10, 10}, "10+10"},
	{"take " + strings.Repeat("1+", 27) + "1", ones(28), strings.Repeat("1+", 27) + "1"},
	{"step", []int{3, 2, 1}, "3+2+1"}, {"steps 0", []int{3, 2, 1}, "3+2+1"}, {"steps 1", []int{3, 2, 1}, "3+2+1"}, {"steps 1000", []int{3, 2, 1}, "3+2+1"},
	{"side", []int{3, 2, 1}, "3+2+1"}, {"past 2", []int{4, 2}, "4+2"}, {"past 3", []int{3, 2, 1}, "3+2+1"},
	{"stairs 0", nil, "0"}, {"stairs 1", []int{1}, "1"}, {"stairs 4", []int{4, 3, 2, 1}, "4+3+2+1"}, {"stairs 7", []int{7, 6, 5, 4, 3, 2, 1}, "7+6+5+4+3+2+1"},
	{"sort 1,3,2", []int{3, 2, 1}, "3+2+1"}, {"sort -", nil, "0"}, {"sort 1,10,2", []int{10, 2, 1}, "10+2+1"}, {"sort 28", []int{28}, "28"}, {"sort 2,1,2", []int{2, 2, 1}, "2+2+1"},
	{"show", []int{3, 2, 1}, "3+2+1"}, {"cards", []int{3, 2, 1}, "6"}, {"pasts", []int{3, 2, 1}, "2"}, {"tail", []int{3, 2, 1}, "0"}, {"length", []int{3, 2, 1}, "1"},
	{"row 2,1,2", []int{3, 2, 1}, "3,1,1"}, {"row -", []int{3, 2, 1}, "-"}, {"row 1", []int{3, 2, 1}, "1"}, {"row 1,3", []int{3, 2, 1}, "2,2"}, {"row 28", []int{3, 2, 1}, "1,27"},
	{"orbit -", []int{3, 2, 1}, "0 1"}, {"orbit 4", []int{3, 2, 1}, "2 3"}, {"orbit 3,2,1", []int{3, 2, 1}, "0 1"},
	{"bank 3:1:3+3", []int{3, 2, 1}, "3:0:3+2+2"}, {"bank 3:0:3+2+2", []int{3, 2, 1}, "3:0:3+2+1+1"}, {"bank 1:0:0", []int{3, 2, 1}, "1:0:0"}, {"bank 10:9:0", []int{3, 2, 1}, "10:9:0"}, {"bank 10:0:10", []int{3, 2, 1}, "10:1:9"},
	{"start 3 7", []int{3, 2, 1}, "3:1:3+3"}, {"start 10 28", []int{3, 2, 1}, "10:8:10+10"}, {"start 1 0", []int{3, 2, 1}, "1:0:0"}, {"start 10 9", []int{3, 2, 1}, "10:9:0"}, {"start 1 2", []int{3, 2, 1}, "1:0:1+1"},
}

// noLines are lines whose function fails on 3 2 1.
var noLines = []string{
	"steps 1001", "steps 1002", "steps 10000", "steps 999999",
	"past 0", "past 1", "past 4", "past 5", "past 28", "past 29", "past 999999",
	"stairs 8", "stairs 9", "stairs 28", "stairs 1000", "stairs 999999",
	"start 0 0", "start 0 7", "start 11 0", "start 11 7", "start 28 28", "start 1 29", "start 3 29", "start 10 1000", "start 999999 7", "start 3 999999", "start 0 29", "start 999999 999999",
}

// whatLines are lines that are none.
var whatLines = []string{
	"", " ", "  ", "   ", "\t", "\r", "\x00", "\xff", "0", "7", "3+2+1", "fly", "fly 3", "what", "no", "N", "stepsteps", "ste", "takes 4", "starts 3 7", "past2", "take4", "show!", "#show", "show;cards", "\ufeffshow",
	"Step", "STEP", "Take 4", "SHOW", "step\r", "show\t", "\tshow", "show\x00", "take\t4", "steps\u00a02",
	// Too few words.
	"take", "steps", "past", "stairs", "sort", "row", "orbit", "bank", "start", "start 3",
	// Too many words.
	"take 4 4", "take 4 2", "take 3 + 1", "take 0 0", "step 1", "step step", "steps 1 1", "steps 1 2", "side 1", "side 3+2+1", "past 2 2", "past 3 3", "stairs 4 4", "stairs 4 3",
	"sort 1,2 3", "sort - -", "show 1", "show 3+2+1", "cards 6", "pasts 2", "tail 0", "length 1", "row 2 1 2", "row 2,1,2 2", "orbit 4 1", "orbit - -", "bank 3 1 3+3", "bank 3:1:3+3 1", "bank 3 7",
	"start 3 7 1", "start 3 7 7", "start 3 1 3", "show show", "show step",
	// Words that are empty.
	" step", "step ", " show", "show ", "show  ", "cards ", " pasts", "tail ", "length ", "side ", "take ", "take  ", "steps ", "past ", "stairs ", "sort ", "row ", "orbit ", "bank ", "start ", "start  ", "start 3 ", "start  7", "start  3 7", "start 3  7", "start 3 7 ", " start 3 7",
	"take  4", "take 4 ", " take 4", "steps  1", "steps 1 ", " steps 1", "past  2", "past 2 ", " past 2", "stairs  4", "stairs 4 ", " stairs 4", "sort  1,2", "sort 1,2 ", " sort 1,2",
	"row  1,2", "row 1,2 ", " row 1,2", "orbit  4", "orbit 4 ", " orbit 4", "bank  1:0:0", "bank 1:0:0 ", " bank 1:0:0",
	// Texts of piles, rows or bank states that there are none of, or that are written in other ways.
	"take 29", "take 1+2", "take 28+1", "take 3+", "take +3", "take 3++1", "take 03", "take 3+01", "take 3+0", "take 00", "take -1", "take -", "take 3,1", "take 3:1:3", "take x", "take 18446744073709551617", "take 3\r",
	"take " + strings.Repeat("1+", 28) + "1", "sort " + strings.Repeat("1,", 28) + "1",
	"sort 29", "sort 28,1", "sort 0", "sort 1,0", "sort 1,", "sort ,1", "sort 1,,2", "sort 01", "sort +1", "sort -1", "sort --", "sort -,1", "sort 3+1", "sort x", "row 29", "row 0", "row 1,28", "row 1,", "row 01,2", "row 2+1", "row x", "row 1:0:0",
	"orbit 29", "orbit 0", "orbit 28,1", "orbit 4,", "orbit 04", "orbit 3+1", "orbit x",
	"bank 3", "bank 3:1", "bank 3:1:", "bank :1:3", "bank 3::3", "bank 3:1:3:", "bank 0:0:0", "bank 11:0:0", "bank 3:3:3", "bank 3:1:4", "bank 3:1:2+3", "bank 03:1:3", "bank 3:01:3", "bank 3:1:03", "bank 3:-1:3", "bank +3:1:3", "bank 3:1:3,3", "bank 10:9:10+10", "bank 3:1:-", "bank x",
}

// whatNumbers are words that are no numbers in 0..999999.
var whatNumbers = []string{
	"", "-", "+", "-1", "+1", "+0", "-0", "+2", "-2", "+3", "-999999", "00", "01", "02", "03", "007", "000", "0000002", "0999999", "000000", "1000000", "1000001", "1000003", "9999999", "4294967298", "4294967299", "18446744073709551618", "18446744073709551619", "99999999999999999999999",
	"2.", "2.0", ".2", "2,0", "2e0", "1e3", "0x2", "0b1", "0o2", "1_0", "2x", "x2", "x", "N", "\u0662", "\uff12", "2\t", "\t2", "2\r", "2\x00", "\x002", "\xff", "2+1", "3+2+1", "2:0", "--2", "1/1", "2-", "2+",
}

// wantDesk checks a call that returns piles and a reply.
func wantDesk(t *testing.T, what string, piles []int, reply string) func([]int, string, bool) {
	return func(got []int, said string, ok bool) {
		t.Helper()
		if !ok || !slices.Equal(got, piles) || said != reply {
			t.Errorf("%.100q: %v %q %v, want %v %q", what, got, said, ok, piles, reply)
		}
	}
}

// wantReplies checks a call that returns the replies to a script.
func wantReplies(t *testing.T, what string, want []string) func([]string, bool) {
	return func(got []string, ok bool) {
		t.Helper()
		if !ok || !slices.Equal(got, want) {
			t.Errorf("%.100q: %q %v, want %q", what, got, ok, want)
		}
	}
}

// checkScript checks all that is told of a script.
func checkScript(t *testing.T, script string, replies []string, piles []int) {
	t.Helper()
	wantReplies(t, script, replies)(impl.RunScript(script))
	wantList(t, fmt.Sprintf("after %.100q", script), piles)(impl.DeskAfter(script))
	var failed []int
	for i, reply := range replies {
		if reply == "no" || reply == "what" {
			failed = append(failed, i+1)
		}
	}
	wantList(t, fmt.Sprintf("failed lines of %.100q", script), failed)(impl.FailedLines(script))
}

// checkNoScript checks that a text is no script.
func checkNoScript(t *testing.T, text string) {
	t.Helper()
	what := fmt.Sprintf("%.100q of %d bytes", text, len(text))
	replies, ok := impl.RunScript(text)
	wantFail(t, "run "+what)(replies, ok)
	piles, ok := impl.DeskAfter(text)
	wantFail(t, "after "+what)(piles, ok)
	failed, ok := impl.FailedLines(text)
	wantFail(t, "failed lines of "+what)(failed, ok)
}

func TestExampleOfConsole(t *testing.T) {
	script := "past 2\nstep\nrow 2,1,2\nbank 3:1:3+3\nfly\n"
	wantReplies(t, script, []string{"4+2", "3+2+1", "3,1,1", "3:0:3+2+2", "what"})(impl.RunScript(script))
	wantList(t, "after", []int{3, 2, 1})(impl.DeskAfter(script))
	wantList(t, "failed", []int{5})(impl.FailedLines(script))
	wantDesk(t, "past 2", []int{4, 2}, "4+2")(impl.DeskLine([]int{3, 2, 1}, "past 2"))
	wantDesk(t, "step", []int{3, 2, 1}, "3+2+1")(impl.DeskLine([]int{4, 2}, "step"))
}

func TestLinesThatAreExecuted(t *testing.T) {
	for _, good := range goodLines {
		wantDesk(t, good.line, good.piles, good.reply)(impl.DeskLine([]int{3, 2, 1}, good.line))
		checkScript(t, good.line+"\n", []string{good.reply}, good.piles)
	}
	for _, known := range []struct {
		before []int
		line   string
		behind []int
		reply  string
	}{
		{[]int{4}, "step", []int{3, 1}, "3+1"}, {[]int{4}, "steps 3", []int{2, 1, 1}, "2+1+1"}, {[]int{4}, "steps 0", []int{4}, "4"}, {[]int{3, 1, 1, 1}, "step", []int{4, 2}, "4+2"}, {[]int{28}, "steps 1000", []int{7, 6, 5, 4, 3, 2, 1}, "7+6+5+4+3+2+1"},
		{[]int{4}, "side", ones(4), "1+1+1+1"}, {[]int{3, 1, 1, 1}, "side", []int{4, 1, 1}, "4+1+1"}, {[]int{2, 1}, "past 2", []int{2, 1}, "2+1"}, {[]int{2, 1}, "past 1", []int{3}, "3"}, {[]int{1, 1}, "past 1", []int{2}, "2"},
		{[]int{4}, "tail", []int{4}, "1"}, {[]int{4}, "length", []int{4}, "3"}, {[]int{4}, "cards", []int{4}, "4"}, {[]int{4}, "pasts", []int{4}, "1"}, {ones(3), "pasts", ones(3), "0"}, {[]int{28}, "cards", []int{28}, "28"}, {[]int{21}, "tail", []int{21}, "15"},
		{[]int{4, 2}, "show", []int{4, 2}, "4+2"}, {[]int{4, 2}, "row 4", []int{4, 2}, "1,3"}, {[]int{4, 2}, "orbit 4", []int{4, 2}, "2 3"}, {[]int{4, 2}, "bank 2:1:0", []int{4, 2}, "2:1:0"}, {[]int{4, 2}, "start 2 3", []int{4, 2}, "2:1:2"},
		{[]int{4, 2}, "take 4+2", []int{4, 2}, "4+2"}, {[]int{4, 2}, "sort 2,4", []int{4, 2}, "4+2"}, {[]int{4, 2}, "stairs 2", []int{2, 1}, "2+1"},
	} {
		wantDesk(t, known.line, known.behind, known.reply)(impl.DeskLine(known.before, known.line))
	}
}

// No piles are P, whose PilesText is 0.
func TestLinesWithoutPiles(t *testing.T) {
	for _, none := range [][]int{nil, {}} {
		for line, reply := range map[string]string{
			"show": "0", "step": "0", "steps 0": "0", "steps 1000": "0", "side": "0", "cards": "0", "pasts": "1", "tail": "0", "length": "1", "take 0": "0", "sort -": "0", "stairs 0": "0",
			"past 0": "no", "past 1": "no", "steps 1001": "no", "": "what", "take ": "what", "take -": "what", "sort 0": "what", "row -": "-", "orbit -": "0 1",
		} {
			wantDesk(t, line, nil, reply)(impl.DeskLine(none, line))
		}
		wantDesk(t, "take 2+1", []int{2, 1}, "2+1")(impl.DeskLine(none, "take 2+1"))
		wantDesk(t, "stairs 3", []int{3, 2, 1}, "3+2+1")(impl.DeskLine(none, "stairs 3"))
	}
	checkScript(t, "take 0\nshow\nstep\nside\npast 1\ncards\n", []string{"0", "0", "0", "0", "no", "0"}, nil)
	checkScript(t, "sort -\nshow\nstairs 0\n", []string{"0", "0", "0"}, nil)
}

func TestLinesThatAreNotExecuted(t *testing.T) {
	for _, a := range [][]int{{3, 2, 1}, {4, 2}, nil, {28}, ones(28), {7, 6, 5, 4, 3, 2, 1}} {
		for _, line := range whatLines {
			wantDesk(t, line, a, "what")(impl.DeskLine(a, line))
		}
		for _, word := range whatNumbers {
			for _, before := range []string{"steps ", "past ", "stairs ", "start 3 ", "start 0 "} {
				wantDesk(t, before+word, a, "what")(impl.DeskLine(a, before+word))
			}
			wantDesk(t, "start "+word+" 7", a, "what")(impl.DeskLine(a, "start "+word+" 7"))
			wantDesk(t, "start "+word+" 29", a, "what")(impl.DeskLine(a, "start "+word+" 29"))
		}
	}
	for _, line := range noLines {
		wantDesk(t, line, []int{3, 2, 1}, "no")(impl.DeskLine([]int{3, 2, 1}, line))
		checkScript(t, "take 4\n"+"take 3+2+1\n"+line+"\nshow\n", []string{"4", "3+2+1", "no", "3+2+1"}, []int{3, 2, 1})
	}
	for _, line := range whatLines {
		checkScript(t, "take 4+2\n"+line+"\nshow\n", []string{"4+2", "what", "4+2"}, []int{4, 2})
	}
}

// What is a line is none with a word more, an empty one or another, or with a word less.
func TestWordsTooManyAndTooFew(t *testing.T) {
	for _, good := range goodLines {
		words := strings.Split(good.line, " ")
		for i := range len(words) + 1 {
			for _, more := range []string{"", "0", "1", "-", "1:0:0", "step", "show", "\t"} {
				line := strings.Join(slices.Insert(slices.Clone(words), i, more), " ")
				wantDesk(t, line, []int{3, 2, 1}, "what")(impl.DeskLine([]int{3, 2, 1}, line))
			}
		}
		for i := range words {
			line := strings.Join(slices.Delete(slices.Clone(words), i, i+1), " ")
			wantDesk(t, line, []int{3, 2, 1}, "what")(impl.DeskLine([]int{3, 2, 1}, line))
			line = strings.Join(slices.Replace(slices.Clone(words), i, i+1, ""), " ")
			wantDesk(t, line, []int{3, 2, 1}, "what")(impl.DeskLine([]int{3, 2, 1}, line))
		}
	}
}

// The promise itself: a line does what the call does that it names, on all piles.
func TestLinesDoWhatTheCallsDo(t *testing.T) {
	for _, all := range pilesOf() {
		for i, a := range all {
			text := pilesKey(a)
			piles := func(line string) func([]int, bool) { return wantPilesOrNo(t, a, line) }
			number := func(line string) func(int, bool) {
				return func(n int, ok bool) { wantReplyOrNo(t, a, line)(strconv.Itoa(n), ok) }
			}
			wantDesk(t, "take "+text, a, text)(impl.DeskLine([]int{2, 1}, "take "+text))
			piles("step")(impl.StepPiles(a))
			piles("side")(impl.SideOf(a))
			wantReplyOrNo(t, a, "show")(impl.PilesText(a))
			number("cards")(impl.CardsOf(a))
			number("pasts")(impl.PastCount(a))
			number("tail")(impl.TailOf(a))
			number("length")(impl.CycleLength(a))
			for n := range impl.MaxCards + 2 {
				piles("past " + strconv.Itoa(n))(impl.PastBy(a, n))
			}
			if i%(1+len(all)/20) == 0 {
				for _, n := range []int{0, 1, 2, 7, 30, 999, 1000, 1001, 1002, 100000, 999999} {
					piles("steps " + strconv.Itoa(n))(impl.StepsFrom(a, n))
				}
			}
		}
	}
}

// The promise itself, for lines that do not ask for the piles.
func TestLinesDoWhatTheCallsDoBesidePiles(t *testing.T) {
	a := []int{4, 4, 1}
	for n := range 1100 {
		wantPilesOrNo(t, a, "stairs "+strconv.Itoa(n))(impl.Staircase(n))
	}
	for height := range 40 {
		for n := range 40 {
			wantBankOrNo(t, a, fmt.Sprint("start ", height, " ", n))(impl.StartBank(height, n))
		}
	}
	rows := someRows()
	for n := range 10 {
		rows = append(rows, plainRows(n)...)
	}
	for _, row := range rows {
		text := "-"
		if len(row) > 0 {
			text = strings.ReplaceAll(key(row), "+", ",")
		}
		wantPilesOrNo(t, a, "sort "+text)(impl.SortRow(row))
		wantReplyOrNo(t, a, "row "+text)(textOf(impl.RowText)(impl.StepRow(row)))
		tail, length, ok := impl.RowOrbit(row)
		wantReplyOrNo(t, a, "orbit "+text)(fmt.Sprint(tail, length), ok)
	}
	piles := pilesOf()
	for height := 1; height <= impl.MaxHeight; height++ {
		for n := range impl.MaxCards + 1 {
			states := allStates(piles, height, n)
			for i := 0; i < len(states); i += 1 + len(states)/50 {
				behind, _, ok := impl.StepBank(states[i])
				wantBankOrNo(t, a, "bank "+bankKey(states[i]))(behind, ok)
			}
		}
	}
}

// pilesKey is the text of piles.
func pilesKey(a []int) string {
	if len(a) == 0 {
		return "0"
	}
	return key(a)
}

// textOf returns what makes a text of the results of a call.
func textOf[V any](text func(V) (string, bool)) func(V, bool) (string, bool) {
	return func(value V, ok bool) (string, bool) {
		if !ok {
			return "", false
		}
		return text(value)
	}
}

// wantPilesOrNo checks a line on the piles a that makes them what a call returns.
func wantPilesOrNo(t *testing.T, a []int, line string) func([]int, bool) {
	return func(piles []int, ok bool) {
		t.Helper()
		if ok {
			wantDesk(t, line, piles, pilesKey(piles))(impl.DeskLine(a, line))
		} else {
			wantDesk(t, line, a, "no")(impl.DeskLine(a, line))
		}
	}
}

// wantReplyOrNo checks a line on the piles a to which the reply is what a call returns.
func wantReplyOrNo(t *testing.T, a []int, line string) func(string, bool) {
	return func(reply string, ok bool) {
		t.Helper()
		if !ok {
			reply = "no"
		}
		wantDesk(t, line, a, reply)(impl.DeskLine(a, line))
	}
}

// wantBankOrNo checks a line on the piles a to which the reply is the text of the bank state that a call returns.
func wantBankOrNo(t *testing.T, a []int, line string) func(impl.Bank, bool) {
	return func(b impl.Bank, ok bool) {
		t.Helper()
		wantReplyOrNo(t, a, line)(bankKey(b), ok)
	}
}

func TestScripts(t *testing.T) {
	checkScript(t, "", nil, []int{3, 2, 1})
	checkScript(t, "\n", []string{"what"}, []int{3, 2, 1})
	checkScript(t, "\n\n\n", []string{"what", "what", "what"}, []int{3, 2, 1})
	checkScript(t, " \n", []string{"what"}, []int{3, 2, 1})
	checkScript(t, "show\n\nshow\n", []string{"3+2+1", "what", "3+2+1"}, []int{3, 2, 1})
	checkScript(t, "\nshow\n", []string{"what", "3+2+1"}, []int{3, 2, 1})
	checkScript(t, "show\n\n", []string{"3+2+1", "what"}, []int{3, 2, 1})
	checkScript(t, "show\r\n", []string{"what"}, []int{3, 2, 1})
	checkScript(t, "take 4\nstep\nstep\nstep\ncards\ntail\nlength\n", []string{"4", "3+1", "2+2", "2+1+1", "4", "0", "3"}, []int{2, 1, 1})
	checkScript(t, "stairs 2\npast 1\npast 3\nside\npast 2\n", []string{"2+1", "3", "1+1+1", "3", "no"}, []int{3})
	checkScript(t, "take 28\nsteps 1001\nsteps 01\nsteps 2\nfly\nstart 3 7\nstart 3 29\n", []string{"28", "no", "what", "26+2", "what", "3:1:3+3", "no"}, []int{26, 2})
	checkScript(t, "sort 1,2,3,4\nrow 4\nbank 2:0:2\norbit 4\nshow\n", []string{"4+3+2+1", "1,3", "2:1:1", "2 3", "4+3+2+1"}, []int{4, 3, 2, 1})
	checkScript(t, "take 4\ntake 29\nshow\ntake 1+1\nsteps 999999\nshow\n", []string{"4", "what", "4", "1+1", "no", "1+1"}, []int{1, 1})
}

func TestLimitsOfScripts(t *testing.T) {
	for _, lines := range []int{1, 2, impl.MaxLines - 1, impl.MaxLines} {
		checkScript(t, strings.Repeat("\n", lines), slices.Repeat([]string{"what"}, lines), []int{3, 2, 1})
		checkScript(t, strings.Repeat("cards\n", lines), slices.Repeat([]string{"6"}, lines), []int{3, 2, 1})
	}
	for _, lines := range []int{impl.MaxLines + 1, impl.MaxLines + 2, 100, impl.MaxScript - 1, impl.MaxScript, impl.MaxScript + 1, 100000} {
		checkNoScript(t, strings.Repeat("\n", lines))
	}
	checkNoScript(t, strings.Repeat("cards\n", impl.MaxLines+1))
	checkNoScript(t, strings.Repeat("cards\n", impl.MaxLines)+"cards")
	for _, bytes := range []int{10, 100, impl.MaxScript - 1, impl.MaxScript} {
		checkScript(t, "take 4\n"+strings.Repeat("x", bytes-8)+"\n", []string{"4", "what"}, []int{4})
		checkScript(t, strings.Repeat(" ", bytes-8)+"\ntake 4\n", []string{"what", "4"}, []int{4})
		checkScript(t, strings.Repeat("x", bytes-1)+"\n", []string{"what"}, []int{3, 2, 1})
	}
	for _, bytes := range []int{impl.MaxScript + 1, impl.MaxScript + 2, 2 * impl.MaxScript, 100000} {
		checkNoScript(t, "take 4\n"+strings.Repeat("x", bytes-8)+"\n")
		checkNoScript(t, strings.Repeat(" ", bytes-8)+"\ntake 4\n")
		checkNoScript(t, strings.Repeat("x", bytes-1)+"\n")
		checkNoScript(t, strings.Repeat("x", bytes))
	}
	// Exactly MaxLines lines in exactly MaxScript bytes.
	line := strings.Repeat("x", impl.MaxScript/impl.MaxLines-1) + "\n"
	checkScript(t, strings.Repeat(line, impl.MaxLines), slices.Repeat([]string{"what"}, impl.MaxLines), []int{3, 2, 1})
	checkNoScript(t, strings.Repeat(line, impl.MaxLines-1)+"x"+line)
	// Bytes are counted, not runes.
	checkScript(t, strings.Repeat("\u00e9", impl.MaxScript/2-1)+"x\n", []string{"what"}, []int{3, 2, 1})
	checkNoScript(t, strings.Repeat("\u00e9", impl.MaxScript/2)+"\n")
}

func TestTextsThatAreNoScripts(t *testing.T) {
	for _, text := range []string{
		"x", " ", "show", "0", "take 4", "\r", "show\r", "show\nshow", "show\n\nshow", "\nshow", "\n\n ", "show\n ", "show\n\r", "show\n\x00", "fly", "fly\nfly", "take 4\nstep\nx", strings.Repeat("\n", impl.MaxLines) + "x", strings.Repeat("\n", impl.MaxLines) + " ", strings.Repeat("x", impl.MaxScript),
	} {
		checkNoScript(t, text)
	}
	for _, good := range goodLines {
		checkNoScript(t, good.line)
		checkNoScript(t, "show\n"+good.line)
	}
}

func TestLimitsOfLines(t *testing.T) {
	a := []int{4, 2}
	for _, bytes := range []int{impl.MaxScript - 1, impl.MaxScript} {
		for _, line := range []string{strings.Repeat("x", bytes), strings.Repeat(" ", bytes), "steps " + strings.Repeat("0", bytes-7) + "1", "show" + strings.Repeat(" ", bytes-4), "take " + strings.Repeat("1+", (bytes-5)/2) + strings.Repeat("1", (bytes-5)%2)} {
			wantDesk(t, line, a, "what")(impl.DeskLine(a, line))
		}
	}
	for _, bytes := range []int{impl.MaxScript + 1, impl.MaxScript + 2, 2 * impl.MaxScript, 100000} {
		for _, line := range []string{strings.Repeat("x", bytes), strings.Repeat(" ", bytes), "show" + strings.Repeat(" ", bytes-4)} {
			checkNoLine(t, a, line)
		}
	}
	checkNoLine(t, a, strings.Repeat("\u00e9", impl.MaxScript/2)+"x")
	for _, line := range []string{"\n", "\n\n", "show\n", "\nshow", "show\nshow", "sh\now", "fly\n", "take\n4", "take 4\n", "show\r\n", " \n", strings.Repeat("x", impl.MaxScript-1) + "\n", "\n" + strings.Repeat("x", impl.MaxScript-1)} {
		checkNoLine(t, a, line)
	}
	for _, good := range goodLines {
		checkNoLine(t, a, good.line+"\n")
		checkNoLine(t, a, "\n"+good.line)
	}
}

func TestNoLineTakesWhatIsNoPiles(t *testing.T) {
	for _, bad := range badPiles {
		for _, line := range []string{"", "fly", "show", "step", "take 4", "take 0", "steps 0", "steps 1001", "stairs 3", "sort -", "cards", "row 1", "bank 1:0:0", "start 3 7", "start 0 7"} {
			checkNoLine(t, bad, line)
		}
	}
}

// checkNoLine checks that nothing is told of a line on a.
func checkNoLine(t *testing.T, a []int, line string) {
	t.Helper()
	piles, reply, ok := impl.DeskLine(a, line)
	wantFail(t, fmt.Sprintf("%.60v %.100q of %d bytes", a, line, len(line)))(piles, reply, ok)
}

// A script does what its lines do one after the other, whatever they are.
func TestScriptsOfManyLines(t *testing.T) {
	lines := slices.Concat(noLines, whatLines, []string{"step", "side", "steps 3", "past 1", "past 2", "past 3", "past 7", "tail", "length", "pasts", "cards", "show"})
	for _, good := range goodLines {
		lines = append(lines, good.line)
	}
	seed := uint32(88172645)
	next := func(n int) int {
		seed ^= seed << 13
		seed ^= seed >> 17
		seed ^= seed << 5
		return int(seed>>4) % n
	}
	for range 3000 {
		script, piles := "", []int{3, 2, 1}
		var replies []string
		for range next(impl.MaxLines + 1) {
			line := lines[next(len(lines))]
			if len(script)+len(line) >= impl.MaxScript {
				break
			}
			behind, reply, ok := impl.DeskLine(piles, line)
			if !ok || (reply == "no" || reply == "what") && !slices.Equal(behind, piles) {
				t.Errorf("%v %q: %v %q %v", piles, line, behind, reply, ok)
			}
			script, piles, replies = script+line+"\n", behind, append(replies, reply)
		}
		checkScript(t, script, replies, piles)
	}
}
