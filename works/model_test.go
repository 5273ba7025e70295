package works_test

import (
	"fmt"
	"slices"
	"strings"

	"guilloche/api"
	"guilloche/clerk"
	"guilloche/proof"
	"guilloche/sample"
	"guilloche/script"
	"guilloche/serial"
	"guilloche/sheet"
	"guilloche/span"
)

// What a works must say is computed here note by note, with the words of the chapter. Only what the lower layers do is left to them.

// model is a works that answers lines.
type model struct {
	plant                       api.Plant
	now, printed, plates, stars int
	lives, stages               []int
	batches                     []batch
	roots                       []string
	books                       // the book in use
	state                       *model
	stateText                   string // of state, or nothing if there was no check yet
	lines                       []string
	saved                       int // lines
}

type batch struct{ first, end, time int }

type books struct {
	book          *clerk.Book
	before, begun int
	own           map[int]bool // transactions of production acts, by their numbers at the works
	committed     int          // transactions of clerks
}

func newBooks(m span.Map, begun int) books {
	book, _ := clerk.New(m)
	return books{book: book, before: begun, begun: begun, own: map[int]bool{}}
}

func newModel(p api.Plant) *model {
	m, _ := span.New(p.Sheets * p.Layout.Rows * p.Layout.Cols)
	reams := 0
	for reams*p.Layout.Ream < p.Sheets {
		reams++
	}
	return &model{plant: p, plates: p.Plates, lives: make([]int, p.Presses), stages: make([]int, reams), books: newBooks(m, 0)}
}

// copy returns an independent model without transactions in progress.
func (m *model) copy() *model {
	out := *m
	out.lives, out.stages = slices.Clone(m.lives), slices.Clone(m.stages)
	out.batches, out.roots, out.lines = slices.Clone(m.batches), slices.Clone(m.roots), nil
	out.books = newBooks(m.book.Now(), m.begun)
	return &out
}

// paint gives notes a tag, whatever they were.
func (m *model) paint(lo, hi, tag int) {
	next, _ := m.book.Now().Set(lo, hi, tag)
	m.books = newBooks(next, m.begun)
}

func (m *model) notes() int { return m.book.Now().Size() }

func (m *model) tag(note int) int {
	tag, _ := m.book.Now().Get(note)
	return tag
}

func (m *model) tags() []int {
	out := make([]int, m.notes())
	for note := range out {
		out[note] = m.tag(note)
	}
	return out
}

// notesWhere returns the notes from lo to hi - 1 that have the tag, if their ream is at one of the stages.
func (m *model) notesWhere(lo, hi, tag int, stages ...int) []int {
	var out []int
	for note := lo; note < hi; note++ {
		if m.tag(note) == tag && (len(stages) == 0 || slices.Contains(stages, m.stages[m.reamOf(note)])) {
			out = append(out, note)
		}
	}
	return out
}

func (m *model) sheetOf(note int) int {
	c, _ := sheet.Cell(m.plant.Layout, m.plant.Sheets, note)
	return c.Sheet
}

func (m *model) reamOf(note int) int { return m.sheetOf(note) / m.plant.Layout.Ream }

func (m *model) ream(number int) (lo, hi int) {
	perSheet := m.plant.Layout.Rows * m.plant.Layout.Cols
	return number * m.plant.Layout.Ream * perSheet, min((number+1)*m.plant.Layout.Ream, m.plant.Sheets) * perSheet
}

// notesOn returns the notes on the sheets from first to end - 1, in ascending order.
func (m *model) notesOn(first, end int) []int {
	var out []int
	for s := first; s < end; s++ {
		for pos := range m.plant.Layout.Rows * m.plant.Layout.Cols {
			note, _ := sheet.Note(m.plant.Layout, m.plant.Sheets, api.Cell{Sheet: s, Pos: pos})
			out = append(out, note)
		}
	}
	slices.Sort(out)
	return out
}

func (m *model) text() string {
	join := func(list []int) string { return strings.Trim(fmt.Sprint(list), "[]") }
	out := fmt.Sprintf("now %d\nprinted %d\npress %s\nplates %d\nstars %d\nbegun %d\n", m.now, m.printed, join(m.lives), m.plates, m.stars, m.begun)
	for _, b := range m.batches {
		out += fmt.Sprintf("wet %d %d %d\n", b.first, b.end, b.time)
	}
	out += fmt.Sprintf("reams %s\n", join(m.stages))
	for _, root := range m.roots {
		out += "root " + root + "\n"
	}
	var runs strings.Builder
	list, _ := m.book.Now().Runs(0, m.notes(), api.MaxRuns)
	for _, run := range list {
		fmt.Fprintf(&runs, "run %d %d %d\n", run.Lo, run.Hi, run.Tag)
	}
	return out + runs.String()
}

func countUnits(text string) int {
	count := 1
	for len(text) > api.Payload {
		text = text[api.Payload:]
		count++
	}
	return count
}

func (m *model) room() int {
	room := (m.plant.Blocks-2)/2 - countUnits(m.stateText)
	for _, line := range m.lines {
		room -= countUnits(line)
	}
	return room
}

// clerks returns the states of the transactions of clerks in progress.
func (m *model) clerks() map[int]int {
	out := map[int]int{}
	for tx := m.before + 1; tx <= m.begun; tx++ {
		if state := m.tx(tx); !m.own[tx] && (state == api.TxActive || state == api.TxWaiting) {
			out[tx] = state
		}
	}
	return out
}

func (m *model) tx(tx int) int { return m.book.State(tx - m.before) }

func (m *model) locks() []api.Lock {
	out := m.book.Queue()
	for tx := range m.clerks() {
		out = append(out, m.book.Held(tx-m.before)...)
	}
	return out
}

func errorText(err api.Errno) string { return fmt.Sprintf("error %d\n", err) }

// say returns what the works must say.
func (m *model) say(line string) string {
	a, err := script.Parse(line)
	if err != api.OK {
		return errorText(err)
	}
	isKept := a.Kind != api.ActSave && a.Kind != api.ActCheck && a.Kind != api.ActCrash
	spare := m.room() - len(m.clerks())
	switch a.Kind {
	case api.ActBegin:
		spare--
	case api.ActCommit, api.ActAbort:
		spare++
	}
	if isKept && countUnits(line) > spare {
		return errorText(api.ErrFull)
	}
	out, err := m.act(a)
	if err != api.OK {
		return errorText(err)
	}
	if isKept {
		m.lines = append(m.lines, line)
	}
	return out
}

func (m *model) act(a api.Act) (string, api.Errno) {
	hasPress, hasReam := a.A >= 0 && a.A < len(m.lives), a.A >= 0 && a.A < len(m.stages)
	switch a.Kind {
	case api.ActMount:
		return m.mount(a, hasPress)
	case api.ActPrint:
		return m.print(a, hasPress)
	case api.ActTick:
		return m.tick()
	case api.ActSpoil:
		return m.spoil(a)
	case api.ActRepair:
		return m.repair(a, hasReam)
	case api.ActInspect:
		return m.inspect(a, hasReam)
	case api.ActCut:
		return m.cut(a, hasReam)
	case api.ActDestroy:
		return m.destroy(a)
	case api.ActAudit:
		return m.audit(a)
	case api.ActSave:
		m.saved = len(m.lines)
		return fmt.Sprintf("saved %d\n", m.saved), api.OK
	case api.ActCheck:
		return m.check()
	case api.ActCrash:
		return m.crash(), api.OK
	}
	return m.clerkAct(a)
}

// change makes the moves of a production act, and returns them. late is whether a number would become too great.
func (m *model) change(notes []int, from, to int, late bool) ([]api.Run, api.Errno) {
	var moves []api.Run
	for _, note := range notes {
		if n := len(moves); n > 0 && moves[n-1].Hi == note {
			moves[n-1].Hi++
		} else {
			moves = append(moves, api.Run{Lo: note, Hi: note + 1})
		}
	}
	if len(moves) == 0 {
		if late {
			return nil, api.ErrFull
		}
		return nil, api.OK
	}
	locks := m.locks()
	for _, lock := range locks {
		if slices.ContainsFunc(notes, func(note int) bool { return note >= lock.Lo && note < lock.Hi }) {
			return nil, api.ErrBusy
		}
	}
	if len(m.clerks()) == 64 || len(moves) > m.book.Room() || len(moves)+len(locks) > 1024 || late || m.begun == 1<<40 {
		return nil, api.ErrFull
	}
	tx, _ := m.book.Begin()
	m.begun++
	m.own[m.begun] = true
	for _, move := range moves {
		if err := m.book.Move(tx, move.Lo, move.Hi, from, to); err != api.OK {
			panic(fmt.Sprint("a move of a production act: ", err))
		}
	}
	m.book.Commit(tx)
	return moves, api.OK
}

func (m *model) mount(a api.Act, hasPress bool) (string, api.Errno) {
	if !hasPress {
		return "", api.ErrRange
	}
	if m.plates < 1 {
		return "", api.ErrPlate
	}
	m.plates--
	m.lives[a.A] = m.plant.Life
	return fmt.Sprintf("mounted %d %d\n", a.A, m.plates), api.OK
}

func (m *model) print(a api.Act, hasPress bool) (string, api.Errno) {
	if !hasPress {
		return "", api.ErrRange
	}
	if a.B < 1 {
		return "", api.ErrArg
	}
	if m.plant.Sheets-m.printed < a.B {
		return "", api.ErrFull
	}
	if m.lives[a.A] < a.B {
		return "", api.ErrPlate
	}
	tag, end := api.TagPrinted, m.printed+a.B
	if m.plant.Dry > 0 {
		tag = api.TagWet
	}
	if _, err := m.change(m.notesOn(m.printed, end), api.TagBlank, tag, false); err != api.OK {
		return "", err
	}
	if m.plant.Dry > 0 {
		m.batches = append(m.batches, batch{m.printed, end, m.now + m.plant.Dry})
	}
	out := fmt.Sprintf("printed %d %d %d\n", a.A, m.printed, end)
	m.printed = end
	m.lives[a.A] -= a.B
	return out, api.OK
}

func (m *model) tick() (string, api.Errno) {
	var notes []int
	var wet []batch
	out := ""
	for _, b := range m.batches {
		if b.time == m.now+1 {
			notes = append(notes, m.notesOn(b.first, b.end)...)
			out += fmt.Sprintf("dried %d %d\n", b.first, b.end)
		} else {
			wet = append(wet, b)
		}
	}
	slices.Sort(notes)
	if _, err := m.change(notes, api.TagWet, api.TagPrinted, m.now == 1<<40); err != api.OK {
		return "", err
	}
	m.now++
	m.batches = wet
	return out, api.OK
}

func (m *model) spoil(a api.Act) (string, api.Errno) {
	if a.A < 0 || a.A >= m.plant.Sheets || a.B < 0 || a.B >= m.plant.Layout.Rows*m.plant.Layout.Cols {
		return "", api.ErrRange
	}
	note, _ := sheet.Note(m.plant.Layout, m.plant.Sheets, api.Cell{Sheet: a.A, Pos: a.B})
	if m.tag(note) != api.TagPrinted || m.stages[m.reamOf(note)] != api.ReamRaw {
		return "", api.ErrState
	}
	_, err := m.change([]int{note}, api.TagPrinted, api.TagSpoiled, false)
	return fmt.Sprintf("spoiled %d\n", note), err
}

func (m *model) repair(a api.Act, hasReam bool) (string, api.Errno) {
	if !hasReam || a.B < 0 || a.B >= len(m.lives) {
		return "", api.ErrRange
	}
	lo, hi := m.ream(a.A)
	spoiled := m.notesWhere(lo, hi, api.TagSpoiled)
	if m.stages[a.A] != api.ReamRaw || len(spoiled)+len(m.notesWhere(lo, hi, api.TagPrinted)) < hi-lo {
		return "", api.ErrState
	}
	var cells []api.Cell
	for _, note := range spoiled {
		c, _ := sheet.Cell(m.plant.Layout, m.plant.Sheets, note)
		cells = append(cells, c)
	}
	plan, err := sheet.Plan(m.plant.Layout, m.plant.Sheets, cells, m.plant.Costs)
	if err != api.OK {
		return "", err
	}
	if m.lives[a.B] < len(plan.Reprint) {
		return "", api.ErrPlate
	}
	again := slices.DeleteFunc(spoiled, func(note int) bool { return slices.Contains(plan.Stars, note) })
	if _, err := m.change(again, api.TagSpoiled, api.TagPrinted, m.stars+len(plan.Stars) > 1<<40); err != api.OK {
		return "", err
	}
	out := ""
	for _, s := range plan.Reprint {
		out += fmt.Sprintf("reprinted %d\n", s)
	}
	for _, note := range plan.Stars {
		out += fmt.Sprintf("replaced %d %d\n", note, m.stars)
		m.stars++
	}
	for _, bundle := range plan.Open {
		out += fmt.Sprintf("opened %d\n", bundle)
	}
	m.lives[a.B] -= len(plan.Reprint)
	m.stages[a.A] = api.ReamRepaired
	return out + fmt.Sprintf("repaired %d %d\n", a.A, plan.Cost), api.OK
}

func (m *model) inspect(a api.Act, hasReam bool) (string, api.Errno) {
	if !hasReam {
		return "", api.ErrRange
	}
	if m.stages[a.A] != api.ReamRepaired && m.stages[a.A] != api.ReamPassed {
		return "", api.ErrState
	}
	lo, hi := m.ream(a.A)
	if a.B < 0 || a.B > hi-lo || a.B > 4096 || a.C < 0 {
		return "", api.ErrArg
	}
	numbers, _ := sample.Draw(uint64(a.D), hi-lo, a.B)
	found := make([]bool, a.B)
	for i, n := range numbers {
		found[i] = m.tag(lo+n) == api.TagSpoiled
	}
	verdict, count, _ := sample.Judge(a.B, a.C, found)
	m.stages[a.A] = map[int]int{api.Accepted: api.ReamPassed, api.Rejected: api.ReamRepaired}[verdict]
	return fmt.Sprintf("inspected %d %d %d\n", a.A, verdict, count), api.OK
}

func (m *model) cut(a api.Act, hasReam bool) (string, api.Errno) {
	if !hasReam {
		return "", api.ErrRange
	}
	if m.stages[a.A] != api.ReamPassed {
		return "", api.ErrState
	}
	lo, hi := m.ream(a.A)
	good := m.notesWhere(lo, hi, api.TagPrinted)
	if _, err := m.change(good, api.TagPrinted, api.TagVault, false); err != api.OK {
		return "", err
	}
	m.stages[a.A] = api.ReamCut
	return fmt.Sprintf("cut %d %d %d\n", a.A, len(good), hi-lo-len(good)), api.OK
}

func (m *model) destroy(a api.Act) (string, api.Errno) {
	if a.A < 0 || a.A >= a.B || a.B > m.notes() {
		return "", api.ErrRange
	}
	if a.C < 1 || a.C > 100 || a.D < 1 || a.D > 100 || a.C == a.D {
		return "", api.ErrWitness
	}
	notes := m.notesWhere(a.A, a.B, api.TagSpoiled, api.ReamCut)
	if len(notes) == 0 {
		return "", api.ErrState
	}
	moves, err := m.change(notes, api.TagSpoiled, api.TagDestroyed, false)
	out := ""
	for _, move := range moves {
		out += fmt.Sprintf("destroyed %d %d\n", move.Lo, move.Hi)
	}
	return out, err
}

func (m *model) audit(a api.Act) (string, api.Errno) {
	if a.A < 0 || a.A >= m.plant.Vaults {
		return "", api.ErrRange
	}
	notes := m.notesWhere(0, m.notes(), api.TagVault+a.A)
	if a.B < 0 || a.B > len(notes) || a.B > 64 {
		return "", api.ErrArg
	}
	if len(m.roots) == 1024 {
		return "", api.ErrFull
	}
	out := ""
	numbers, _ := sample.Draw(uint64(a.C), len(notes), a.B)
	for _, n := range numbers {
		text, _ := serial.Text(m.plant.Scheme, notes[n])
		out += fmt.Sprintf("drawn %d %s\n", notes[n], text)
	}
	root, _ := proof.MapRoot(m.book.Now())
	m.roots = append(m.roots, fmt.Sprintf("%x", root))
	return out + fmt.Sprintf("audited %d %d %x\n", a.A, len(notes), root), api.OK
}

func (m *model) check() (string, api.Errno) {
	if len(m.clerks()) > 0 {
		return "", api.ErrBusy
	}
	text := m.text()
	if len(text) > 65536 || countUnits(text) > (m.plant.Blocks-2)/2 {
		return "", api.ErrFull
	}
	m.state, m.stateText = m.copy(), text
	m.lines, m.saved = nil, 0
	m.books = newBooks(m.book.Now(), m.begun)
	return fmt.Sprintf("checked %d\n", len(text)), api.OK
}

func (m *model) crash() string {
	next := newModel(m.plant)
	if m.state != nil {
		next = m.state.copy()
	}
	next.state, next.stateText, next.saved = m.state, m.stateText, m.saved
	for _, line := range m.lines[:m.saved] {
		a, _ := script.Parse(line)
		next.act(a)
	}
	next.lines = slices.Clone(m.lines[:m.saved])
	*m = *next
	out := fmt.Sprintf("recovered %d\n", m.saved)
	for tx := m.before + 1; tx <= m.begun; tx++ {
		if m.clerks()[tx] > 0 {
			out += m.say(fmt.Sprintf("abort %d", tx))
		}
	}
	return out
}

func (m *model) clerkAct(a api.Act) (string, api.Errno) {
	before := m.clerks()
	if a.Kind == api.ActBegin {
		if len(before) == 64 || m.begun == 1<<40 {
			return "", api.ErrFull
		}
		m.book.Begin()
		m.begun++
		return fmt.Sprintf("begun %d\n", m.begun), api.OK
	}
	if m.own[a.A] {
		return "", api.ErrTx
	}
	out, err := m.perform(a, before[a.A] == api.TxWaiting)
	if err != api.OK {
		return "", err
	}
	for tx := m.before + 1; tx <= m.begun; tx++ {
		isByAct := a.Kind == api.ActAbort && tx == a.A
		if before[tx] > 0 && m.tx(tx) == api.TxAborted && !isByAct {
			out += fmt.Sprintf("aborted %d\n", tx)
		}
	}
	for tx := m.before + 1; tx <= m.begun; tx++ {
		if tx != a.A && before[tx] == api.TxWaiting && m.tx(tx) == api.TxActive {
			out += fmt.Sprintf("granted %d\n", tx)
		}
	}
	return out, api.OK
}

// perform performs an act of a clerk but begin, and returns the events that come first.
func (m *model) perform(a api.Act, isWaiting bool) (string, api.Errno) {
	tx := a.A - m.before
	switch a.Kind {
	case api.ActLook:
		runs, err := m.book.Look(tx, a.B, a.C)
		if err != api.OK {
			return m.answer(a, isWaiting, err)
		}
		out := ""
		for _, run := range runs {
			out += fmt.Sprintf("run %d %d %d\n", run.Lo, run.Hi, run.Tag)
		}
		return out + fmt.Sprintf("looked %d %d %d\n", a.A, a.B, a.C), api.OK
	case api.ActMove:
		return m.move(a, isWaiting)
	case api.ActCommit:
		_, err := m.book.Commit(tx)
		if err == api.OK {
			m.committed++
		}
		return fmt.Sprintf("committed %d %d\n", a.A, m.committed), err
	}
	return fmt.Sprintf("aborted %d\n", a.A), m.book.Abort(tx)
}

func (m *model) move(a api.Act, isWaiting bool) (string, api.Errno) {
	tags := map[int]int{-1: api.TagIssued}
	for vault := range m.plant.Vaults {
		tags[vault] = api.TagVault + vault
	}
	from, hasFrom := tags[a.D]
	to, hasTo := tags[a.E]
	if !hasFrom || !hasTo {
		return "", m.book.Move(a.A-m.before, a.B, a.C, api.MaxTags, 0)
	}
	needsLock := false
	for note := max(a.B, 0); note < min(a.C, m.notes()); note++ {
		needsLock = needsLock || !slices.ContainsFunc(m.book.Held(a.A-m.before), func(l api.Lock) bool { return l.Write && note >= l.Lo && note < l.Hi })
	}
	tooMany := needsLock && len(m.locks()) == 1024
	err := m.book.Move(a.A-m.before, a.B, a.C, from, to)
	switch {
	case err == api.OK:
		return fmt.Sprintf("moved %d %d %d\n", a.A, a.B, a.C), api.OK
	case err == api.ErrState, err == api.ErrFull && !tooMany:
		return fmt.Sprintf("refused %d\n", a.A), api.OK
	}
	return m.answer(a, isWaiting, err)
}

// answer returns what follows from an error of layer 8.
func (m *model) answer(a api.Act, isWaiting bool, err api.Errno) (string, api.Errno) {
	switch {
	case err == api.ErrWait && !isWaiting:
		return fmt.Sprintf("waits %d\n", a.A), api.OK
	case err == api.ErrDeadlock:
		return "", api.OK
	}
	return "", err
}
