package guard

import (
	"maps"
	"slices"

	"roamwave/api"
)

// Receiver of packets.
type Receiver struct {
	key int
	// first count that was not told.
	first int
	// there is the data that came and was not told, by its counts.
	there map[int]string
}

// NewReceiver: P28.
func NewReceiver(key int) (*Receiver, api.Errno) {
	if err := checkKey(key); err != api.OK {
		return nil, err
	}
	return &Receiver{key: key, there: map[int]string{}}, api.OK
}

// checkPacket answers the error of a packet, whatever its count is.
func checkPacket(p api.Packet) api.Errno {
	if p.Short < 0 || p.Short >= shorts || len(p.Seal) != sealBytes || len(p.Data) > maxData {
		return api.ErrForm
	}
	return api.OK
}

// countOf a packet by its Short: the one that is nearest to first.
func (r *Receiver) countOf(short int) (int, api.Errno) {
	ahead := (short + shorts - r.first%shorts) % shorts
	if ahead >= shorts/2 {
		ahead -= shorts
	}
	count := r.first + ahead
	if count < 0 || count >= counts {
		return 0, api.ErrForm
	}
	return count, api.OK
}

// checkCount answers the error of the count of a packet whose Seal is right.
func (r *Receiver) checkCount(count int) api.Errno {
	if count < r.first {
		return api.ErrOld
	}
	if _, there := r.there[count]; there {
		return api.ErrThere
	}
	return api.OK
}

// tell what is there from first on, as far as one is behind the other; it is gone then.
func (r *Receiver) tell() []string {
	var told []string
	for {
		data, there := r.there[r.first]
		if !there {
			return told
		}
		delete(r.there, r.first)
		told = append(told, data)
		r.first++
	}
}

// Take: P28.
func (r *Receiver) Take(p api.Packet) ([]string, api.Errno) {
	if err := checkPacket(p); err != api.OK {
		return nil, err
	}
	count, err := r.countOf(p.Short)
	if err != api.OK {
		return nil, err
	}
	data := cover(p.Data, r.key, count)
	if p.Seal != sealOf(count, data) {
		return nil, api.ErrSum
	}
	if err := r.checkCount(count); err != api.OK {
		return nil, err
	}
	r.there[count] = data
	return r.tell(), api.OK
}

// Flush: P28.
func (r *Receiver) Flush() []string {
	told := make([]string, 0, len(r.there))
	for _, count := range slices.Sorted(maps.Keys(r.there)) {
		told = append(told, r.there[count])
		r.first = count + 1
	}
	clear(r.there)
	return told
}

// Move: P28.
func (r *Receiver) Move(key int) api.Errno {
	if err := checkKey(key); err != api.OK {
		return err
	}
	r.key = key
	return api.OK
}

// Count: P28.
func (r *Receiver) Count() int { return r.first }
