package works_test

import (
	"strings"
	"testing"

	"guilloche/api"
	"guilloche/works"
)

func TestSay(t *testing.T) {
	w, _ := works.New(smallPlant())
	for _, row := range []struct{ line, want string }{
		{"", "error 4\n"}, {"tick ", "error 4\n"}, {"tick\n", "error 4\n"}, {"stop", "error 4\n"}, {"mount", "error 4\n"}, {"mount 00", "error 4\n"}, {"print 0 1\ntick", "error 4\n"},
		{"tick", ""}, {"print 0 1", "error 111\n"}, {"mount 0", "mounted 0 0\n"}, {"mount 0", "error 111\n"}, {"print 0 1", "printed 0 0 1\n"}, {"print 0 1", "printed 0 1 2\n"},
		{"tick", "dried 0 1\ndried 1 2\n"}, {"destroy 0 1 2 2", "error 112\n"}, {"commit 9", "error 80\n"}, {"save", "saved 5\n"},
	} {
		if got := w.Say(row.line); got != row.want {
			t.Errorf("Say(%q) = %q, not %q", row.line, got, row.want)
		}
	}
}

func TestPlay(t *testing.T) {
	const sold = "# the whole works\nmount 0\nprint 0 4\ntick\nfor r 0 1\n  repair r 0\n  inspect r 1 1 r\n  cut r\nend\nbegin\nmove 5 0 8 0 -1\ncommit 5\nprint 0 9\nsave\ncrash 1 2\nbegin\nlook 6 0 8"
	for _, row := range []struct {
		text, want string
		at         int
		err        api.Errno
	}{
		{"", "", 0, api.OK},
		{"tick\ntick\n", "", 0, api.OK},
		{sold, "mounted 0 0\nprinted 0 0 4\ndried 0 4\nrepaired 0 0\ninspected 0 1 0\ncut 0 4 0\nrepaired 1 0\ninspected 1 1 0\ncut 1 4 0\nbegun 5\nmoved 5 0 8\ncommitted 5 1\nerror 5\nsaved 12\nrecovered 12\nbegun 6\nrun 0 8 4\nlooked 6 0 8\n", 0, api.OK},
		{"mount 0\nmount 1\nmount 1/1\n", "mounted 0 0\nerror 3\nerror 3\n", 0, api.OK},
		{"tick\nstop\n", "", 2, api.ErrSyntax},
		{"tick\nif 1\n", "", 3, api.ErrSyntax},
		{"tick\nmount x\n", "", 2, api.ErrName},
		{"tick\n\nmount 1/0\n", "", 3, api.ErrValue},
		{"for i 1 5000\ntick\nend\n", "", 2, api.ErrFull},
		{"for i 1 20000\nend\n", "", 1, api.ErrFull},
		{strings.Repeat("#", api.MaxScript+1), "", 0, api.ErrFull},
	} {
		got, at, err := works.Play(smallPlant(), row.text)
		if got != row.want || at != row.at || err != row.err {
			t.Errorf("Play(%q) = %q, %d, %d; not %q, %d, %d", short(row.text), short(got), at, err, row.want, row.at, row.err)
		}
	}
}

// Play says what a new works says to the lines one by one.
func TestPlayAndSay(t *testing.T) {
	for seed := range uint64(40) {
		p := player{newSource(300 + seed)}
		plant := p.plant()
		b := newBench(t, plant)
		script, want := "", ""
		for range 100 {
			line := p.line(b.m)
			if p.IntN(20) == 0 {
				line = p.safetyLine()
			}
			if strings.Contains(line, "922337203685477580") {
				continue // These are no numbers of a script.
			}
			script += line + "\n"
			want += b.say(line)
		}
		if got, at, err := works.Play(plant, script); got != want || at != 0 || err != api.OK {
			t.Fatalf("Play(%q) = %q, %d, %d; not %q", script, got, at, err, want)
		}
	}
}
