package works

import (
	"guilloche/api"
	"guilloche/proof"
	"guilloche/sample"
	"guilloche/serial"
)

func (w *Works) audit(a api.Act) ([]api.Event, api.Errno) {
	if !w.plant.hasVault(a.A) {
		return nil, api.ErrRange
	}
	now, tag := w.Map(), w.plant.tagOf(a.A)
	count, _ := now.Count(0, now.Size(), tag)
	if !isFrom(0, a.B, min(count, api.MaxAudit)) {
		return nil, api.ErrArg
	}
	if len(w.roots) >= api.MaxRoots {
		return nil, api.ErrFull
	}
	draws, _ := sample.Draw(uint64(a.C), count, a.B)
	var events []api.Event
	for _, draw := range draws {
		note, _ := now.Find(tag, draw)
		text, _ := serial.Text(w.plant.Scheme, note)
		events = append(events, api.Event{Kind: api.EvDrawn, A: note, Text: text})
	}
	root, _ := proof.MapRoot(now)
	w.roots = append(w.roots, root)
	return append(events, api.Event{Kind: api.EvAudited, A: a.A, B: count, Text: hexOf(root)}), api.OK
}
