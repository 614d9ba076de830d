package net

import (
	"roamwave/api"
	"roamwave/guard"
	"roamwave/harq"
	"roamwave/link"
	"roamwave/repeat"
)

const (
	// maxData are sent to a user and not told; as many units wait at most.
	maxData = 64
	// window of repeat's.
	window = 8
	// limit of harq's.
	limit = 4
	// keyStep is how much greater the key is behind a handover.
	keyStep = 7
)

// user who is sent data.
type user struct {
	who int
	key int
	air air
	path
	sealer *guard.Sender
	opener *guard.Receiver
	// sent is how much data was; the guard counts it so.
	sent int
	// grants of the data that was sent and not told, by its counts.
	grants map[int]int
	told   []string
}

// path is what lies between a user's guards. A handover makes all of it anew, the ears too: the first block behind it has the flag that the first one ahead of it had, and would be taken for that.
type path struct {
	units  *repeat.Sender
	pieces *repeat.Receiver
	blocks *harq.Sender
	shots  *harq.Receiver
	// ears by the processes, where a shot has come.
	ears map[int]ear
}

// ear of a process, and the flag of the last shot that came of it.
type ear struct {
	*link.Ear
	flag bool
}

// newPath: none of its numbers is refused.
func newPath() path {
	units, _ := repeat.NewSender(window)
	pieces, _ := repeat.NewReceiver(window)
	blocks, _ := harq.NewSender(limit)
	return path{units: units, pieces: pieces, blocks: blocks, shots: harq.NewReceiver(), ears: map[int]ear{}}
}

// newUser of a number that the core has taken: so its key is not refused.
func newUser(who int) *user {
	key := 1000*who + 1
	sealer, _ := guard.NewSender(key)
	opener, _ := guard.NewReceiver(key)
	return &user{who: who, key: key, path: newPath(), sealer: sealer, opener: opener, grants: map[int]int{}}
}

// full tells whether no more may be sent.
func (u *user) full() bool {
	return u.units.Waiting() >= maxData || len(u.grants) >= maxData
}

// send a text, for which a grant pays, to a user who is not full.
func (u *user) send(text string, grant int) api.Errno {
	packet, err := u.sealer.Send(text)
	if err != api.OK {
		return err
	}
	u.grants[u.sent] = grant
	u.sent++
	u.units.Submit(packetText(packet))
	return api.OK
}

// move behind a handover: what was not told goes by the new key on a new path.
func (u *user) move() {
	if count := u.opener.Count(); count > 0 {
		u.sealer.Confirm(count - 1)
	}
	u.key += keyStep
	u.path = newPath()
	u.opener.Move(u.key)
	packets, _ := u.sealer.Move(u.key)
	for _, p := range packets {
		u.units.Submit(packetText(p))
	}
}
