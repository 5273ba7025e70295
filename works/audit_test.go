package works_test

import (
	"encoding/hex"
	"fmt"
	"strings"
	"testing"

	"guilloche/api"
	"guilloche/proof"
	"guilloche/serial"
)

func TestAudit(t *testing.T) {
	m := vaultModel(10)
	m.paint(3, 5, api.TagVault+1)
	m.paint(6, 8, api.TagVault+1)
	m.paint(9, 10, api.TagVault+1)
	b := readBench(t, m)
	b.refuse(api.ErrRange, "audit -1 0 0", "audit 2 0 0", "audit 2 -1 0", "audit 9223372036854775807 0 0")
	b.refuse(api.ErrArg, "audit 1 6 0", "audit 1 -1 0", "audit 0 16 0")
	root, _ := proof.MapRoot(b.w.Map())
	digits := hex.EncodeToString(root[:])
	b.expect("audit 1 0 7", "audited 1 5 "+digits)
	// The least notes of the series are drawn in ascending order, with their serials.
	want := ""
	for _, note := range []int{3, 4, 6, 7, 9} {
		text, _ := serial.Text(b.m.plant.Scheme, note)
		want += fmt.Sprintf("drawn %d %s, ", note, text)
	}
	b.expect("audit 1 5 7", want+"audited 1 5 "+digits)
	for seed := -20; seed < 20; seed++ {
		b.say(fmt.Sprintf("audit 1 2 %d", seed), fmt.Sprintf("audit 0 9 %d", seed*1000000007))
	}
	b.say("audit 0 15 9223372036854775807", "audit 0 1 -9223372036854775808")
	// What a transaction in progress has moved is still where it was.
	b.say("begin", "move 101 3 5 1 0")
	b.expect("audit 1 0 7", "audited 1 5 "+digits)
	b.say("commit 101")
	b.refuse(api.ErrArg, "audit 1 4 0")
	if got := b.say("audit 1 3 0"); strings.Contains(got, digits) {
		t.Errorf("audit says %q", got)
	}
}

// The serial that Draw selects for a seed, which layer 6 gives for 5 of 100.
func TestAuditDraws(t *testing.T) {
	m := vaultModel(60)
	m.paint(0, 20, api.TagIssued)
	b := readBench(t, m)
	got := b.say("audit 0 5 2")
	for i, note := range []string{"31", "66", "69", "83", "95"} {
		if line := strings.Split(got, "\n")[i]; !strings.HasPrefix(line, "drawn "+note+" ") {
			t.Errorf("%q is not the note %s", line, note)
		}
	}
}

// An empty vault, and one with more notes than an audit may draw.
func TestAuditCounts(t *testing.T) {
	b := readBench(t, vaultModel(40))
	b.say("audit 1 0 0", "audit 0 64 3")
	b.refuse(api.ErrArg, "audit 1 1 0", "audit 0 65 3")
	b = newBench(t, smallPlant())
	b.say("audit 0 0 0")
	b.refuse(api.ErrArg, "audit 0 1 0")
}

func TestManyAudits(t *testing.T) {
	p := smallPlant()
	p.Blocks = 4096
	b := newBench(t, p)
	b.say("audit 0 0 0")
	root := b.m.roots[0]
	b.sayQuickly(repeated("audit 0 0 0", 1023)...)
	b.refuse(api.ErrFull, "audit 0 0 0", "audit 1 0 5")
	b.refuse(api.ErrRange, "audit 2 0 0")
	b.refuse(api.ErrArg, "audit 0 1 0")
	b.refuse(api.ErrFull, "check") // The book of the works is too long.
	b.expect("save", "saved 1024")
	b.expect("crash", "recovered 1024")
	b.refuse(api.ErrFull, "audit 0 0 0")
	if len(b.m.roots) != 1024 || b.m.roots[1023] != root {
		t.Error("the roots are wrong")
	}
}

// For each note, the root of an audit proves its tag at that time, and no other one.
func TestRoots(t *testing.T) {
	p := player{newSource(5)}
	b := readBench(t, p.model(p.plant()))
	for range 300 {
		b.say(p.line(b.m))
		before := len(b.w.Roots())
		if b.say("audit 0 0 0"); len(b.w.Roots()) == before {
			b.say("abort 0", "check", "save", "crash", "check")
			continue
		}
		for note, tag := range b.m.tags() {
			claim, _ := proof.State(b.w.Map(), note)
			got, ok := proof.Accept(b.w.Roots()[before], note, claim)
			claim.Run.Tag = (tag + 1) % api.MaxTags
			if _, wrong := proof.Accept(b.w.Roots()[before], note, claim); got != tag || !ok || wrong {
				t.Fatalf("the tag %d of the note %d is not proved", tag, note)
			}
		}
	}
}
