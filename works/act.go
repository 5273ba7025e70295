package works

import (
	"guilloche/api"
	"guilloche/script"
)

// effect is what the acts of a kind do.
type effect struct {
	recorded bool // in the journal
	more     int  // how many more transactions of clerks are in progress afterwards
	perform  func(*Works, api.Act) ([]api.Event, api.Errno)
}

// effects returns the effects of all kinds of acts.
func effects() [api.ActCrash + 1]effect {
	return [...]effect{
		api.ActMount:   {true, 0, (*Works).mount},
		api.ActPrint:   {true, 0, (*Works).print},
		api.ActTick:    {true, 0, (*Works).tick},
		api.ActSpoil:   {true, 0, (*Works).spoil},
		api.ActRepair:  {true, 0, (*Works).repair},
		api.ActInspect: {true, 0, (*Works).inspect},
		api.ActCut:     {true, 0, (*Works).cut},
		api.ActBegin:   {true, 1, (*Works).begin},
		api.ActLook:    {true, 0, (*Works).look},
		api.ActMove:    {true, 0, (*Works).move},
		api.ActCommit:  {true, -1, (*Works).commit},
		api.ActAbort:   {true, -1, (*Works).abort},
		api.ActDestroy: {true, 0, (*Works).destroy},
		api.ActAudit:   {true, 0, (*Works).audit},
		api.ActSave:    {false, 0, (*Works).save},
		api.ActCheck:   {false, 0, (*Works).check},
		api.ActCrash:   {false, 0, (*Works).crash},
	}
}

// Do performs the act, and returns its events.
func (w *Works) Do(a api.Act) ([]api.Event, api.Errno) {
	if !w.isUsable() {
		return nil, api.ErrUnusable
	}
	line, err := script.Text(a)
	if err != api.OK {
		return nil, err
	}
	e := effects()[a.Kind]
	if e.recorded && unitsOf(line) > w.spare()-e.more {
		return nil, api.ErrFull
	}
	events, err := e.perform(w, a)
	if err != api.OK {
		return nil, err
	}
	if e.recorded {
		w.journal.Append(line)
	}
	return events, api.OK
}

// spare returns the units that the journal has left, apart from those that are kept for the ends of the transactions in progress: after a crash, each of them must be aborted.
func (w *Works) spare() int { return w.journal.Room() - len(w.ledger.open) }

// unitsOf returns how many units a line takes.
func unitsOf(line string) int { return (len(line) + api.Payload - 1) / api.Payload }
