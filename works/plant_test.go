package works_test

import (
	"math"
	"slices"
	"testing"

	"guilloche/api"
	"guilloche/span"
	"guilloche/works"
)

func checkPlant(t *testing.T, p api.Plant, want api.Errno) {
	t.Helper()
	checkError(t, "Check", works.Check(p), want)
	w, err := works.New(p)
	if (w != nil) != (want == api.OK) || err != want {
		t.Errorf("New(%v) = %v, %d; not %d", p, w, err, want)
	}
	if want == api.OK {
		return
	}
	if w, err := works.Read(p, "x"); w != nil || err != want {
		t.Errorf("Read(%v) = %v, %d; not %d", p, w, err, want)
	}
	if text, at, err := works.Play(p, "x"); text != "" || at != 0 || err != want {
		t.Errorf("Play(%v) = %q, %d, %d; not %d", p, text, at, err, want)
	}
}

func TestCheck(t *testing.T) {
	checkPlant(t, smallPlant(), api.OK)
	checkPlant(t, api.Plant{}, api.ErrConfig)
	rows := []struct {
		field  func(*api.Plant) *int
		lo, hi int
	}{
		{func(p *api.Plant) *int { return &p.Layout.Rows }, 1, 16},
		{func(p *api.Plant) *int { return &p.Layout.Cols }, 1, 16},
		{func(p *api.Plant) *int { return &p.Layout.Ream }, 1, 10000},
		{func(p *api.Plant) *int { return &p.Layout.Bundle }, 1, 1000},
		{func(p *api.Plant) *int { return &p.Costs.Reprint }, 0, 1 << 20},
		{func(p *api.Plant) *int { return &p.Costs.Star }, 0, 1 << 20},
		{func(p *api.Plant) *int { return &p.Costs.Open }, 0, 1 << 20},
		{func(p *api.Plant) *int { return &p.Sheets }, 1, 4096},
		{func(p *api.Plant) *int { return &p.Presses }, 1, 8},
		{func(p *api.Plant) *int { return &p.Life }, 1, 1000000},
		{func(p *api.Plant) *int { return &p.Plates }, 0, 1000000},
		{func(p *api.Plant) *int { return &p.Dry }, 0, 1000},
		{func(p *api.Plant) *int { return &p.Vaults }, 1, 8},
		{func(p *api.Plant) *int { return &p.Blocks }, 8, 4096},
	}
	for _, row := range rows {
		for number, want := range map[int]api.Errno{
			row.lo: api.OK, row.hi: api.OK,
			row.lo - 1: api.ErrConfig, row.hi + 1: api.ErrConfig, -row.hi: api.ErrConfig, math.MaxInt: api.ErrConfig, math.MinInt: api.ErrConfig,
		} {
			p := smallPlant()
			p.Scheme = api.Scheme{Alphabet: "0123456789", Length: 7}
			*row.field(&p) = number
			if number == 0 && row.lo == 0 {
				want = api.OK
			}
			checkPlant(t, p, want)
		}
	}
}

func TestCheckScheme(t *testing.T) {
	for _, scheme := range []api.Scheme{
		{},
		{Alphabet: "0", Length: 4},
		{Alphabet: "0123456789", Length: 17},
		{Alphabet: "0123456789", Length: 13},
		{Alphabet: "012345678", Length: 4, Check: true},
		{Alphabet: "0123456789", Length: 4, Banned: []string{"0", "1", "2", "3", "4", "5", "6", "7", "8", "9"}},
	} {
		p := smallPlant()
		p.Scheme = scheme
		checkPlant(t, p, api.ErrConfig)
	}
	// As many notes as serials, and one more.
	p := smallPlant()
	p.Scheme = api.Scheme{Alphabet: "01", Length: 3}
	checkPlant(t, p, api.OK)
	p.Sheets = 5
	checkPlant(t, p, api.ErrConfig)
	p.Scheme.Length, p.Scheme.Banned = 4, []string{"11"}
	p.Sheets = 4
	checkPlant(t, p, api.OK)
	p.Scheme.Banned = []string{"11", "000"}
	checkPlant(t, p, api.ErrConfig)
	// The greatest plant.
	p.Scheme = api.Scheme{Alphabet: "01", Length: 16, Check: true}
	p.Layout.Rows, p.Layout.Cols, p.Sheets = 16, 16, 256
	checkPlant(t, p, api.OK)
	p.Sheets = 257
	checkPlant(t, p, api.ErrConfig)
	p.Scheme = api.Scheme{Alphabet: "0123", Length: 10}
	p.Sheets = 4096
	checkPlant(t, p, api.OK)
}

func TestNew(t *testing.T) {
	p := smallPlant()
	p.Presses, p.Plates, p.Sheets, p.Blocks = 2, 7, 5, 20
	w, _ := works.New(p)
	if w.Now() != 0 || w.Printed() != 0 || w.Press(0) != 0 || w.Press(1) != 0 || w.Plates() != 7 || w.Stars() != 0 || w.Ream(2) != api.ReamRaw || len(w.Roots()) > 0 {
		t.Error("the numbers of a new works are wrong")
	}
	if blank, _ := span.New(10); !span.Equal(w.Map(), blank) {
		t.Error("the map of a new works is wrong")
	}
	if w.Room() != 8 {
		t.Errorf("Room = %d", w.Room())
	}
	if want := "now 0\nprinted 0\npress 0 0\nplates 7\nstars 0\nbegun 0\nreams 0 0 0\nrun 0 10 0\n"; w.Book() != want {
		t.Errorf("Book = %q, not %q", w.Book(), want)
	}
	newBench(t, p)
}

// What does not exist is 0.
func TestNothing(t *testing.T) {
	b := newBench(t, smallPlant())
	b.say("mount 0", "print 0 4", "tick", "begin", "repair 0 0", "repair 1 0")
	for _, i := range []int{-1, 1, math.MaxInt, math.MinInt} {
		if got := b.w.Press(i); got != 0 {
			t.Errorf("Press(%d) = %d", i, got)
		}
	}
	for _, i := range []int{-1, 2, math.MaxInt, math.MinInt} {
		if got := b.w.Ream(i); got != 0 {
			t.Errorf("Ream(%d) = %d", i, got)
		}
	}
	for tx, want := range map[int]int{0: 0, -1: 0, 1: api.TxCommitted, 2: api.TxCommitted, 3: api.TxActive, 4: 0, math.MaxInt: 0, math.MinInt: 0} {
		if got := b.w.Tx(tx); got != want {
			t.Errorf("Tx(%d) = %d, not %d", tx, got, want)
		}
	}
}

func TestUnusable(t *testing.T) {
	for _, w := range []*works.Works{nil, {}} {
		if w.Book() != "" || w.Now() != 0 || w.Printed() != 0 || w.Press(0) != 0 || w.Plates() != 0 || w.Stars() != 0 || w.Ream(0) != 0 || w.Tx(1) != 0 || w.Tx(0) != 0 || w.Room() != 0 {
			t.Error("an unusable works has something")
		}
		if w.Map().Size() != 0 || len(w.Roots()) > 0 || w.Say("tick") != "" || w.Say("x") != "" {
			t.Error("an unusable works returns something")
		}
		for _, a := range []api.Act{{}, {Kind: api.ActTick}, {Kind: api.ActTick, A: 1}, {Kind: api.ActCrash}, {Kind: api.ActSave}, {Kind: api.ActCheck}, {Kind: api.ActAbort, A: 1}} {
			events, err := w.Do(a)
			if len(events) > 0 || err != api.ErrUnusable {
				t.Errorf("Do(%v) of an unusable works = %v, %d", a, events, err)
			}
		}
	}
}

// What is passed to a works is neither kept nor changed, and what it returns is new.
func TestKeepsAndSharesNothing(t *testing.T) {
	p := smallPlant()
	banned := []string{"00"}
	p.Scheme.Banned = banned
	m := player{newSource(1)}.model(p)
	m.stages, m.printed, m.batches = []int{api.ReamCut, api.ReamCut}, 4, nil
	m.paint(0, 8, api.TagVault)
	text := m.text()
	w, err := works.Read(p, text)
	if err != api.OK {
		t.Fatalf("Read = %d", err)
	}
	want := w.Say("audit 0 8 0")
	w.Say("crash")
	banned[0] = "X"
	if got := w.Say("audit 0 8 0"); got != want {
		t.Errorf("the audit says %q, not %q", got, want)
	}
	roots := w.Roots()
	before := slices.Clone(roots)
	roots[0] = api.Hash{}
	_ = append(roots[:1], api.Hash{}, api.Hash{})
	if !slices.Equal(w.Roots(), before) {
		t.Error("Roots was changed by its caller")
	}
	keep := []int{3, 1, 2}
	w.Do(api.Act{Kind: api.ActCrash, Keep: keep})
	if !slices.Equal(keep, []int{3, 1, 2}) {
		t.Error("Keep was changed")
	}
}
