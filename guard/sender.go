package guard

import "roamwave/api"

// Sender of packets.
type Sender struct {
	key int
	// begin is the count of the first packet that is not confirmed.
	begin int
	// waiting is the data of the packets from that one on: it is needed as it was handed in, to be covered by another key.
	waiting []string
}

// NewSender: P27.
func NewSender(key int) (*Sender, api.Errno) {
	if err := checkKey(key); err != api.OK {
		return nil, err
	}
	return &Sender{key: key}, api.OK
}

// next count that is given.
func (s *Sender) next() int { return s.begin + len(s.waiting) }

// Send: P27.
func (s *Sender) Send(data string) (api.Packet, api.Errno) {
	if len(data) > maxData {
		return api.Packet{}, api.ErrLarge
	}
	count := s.next()
	if count >= counts {
		return api.Packet{}, api.ErrFull
	}
	s.waiting = append(s.waiting, data)
	return packetOf(data, s.key, count), api.OK
}

// Confirm: P27.
func (s *Sender) Confirm(count int) api.Errno {
	if count < 0 || count >= s.next() {
		return api.ErrAbsent
	}
	// Those up to a count that was confirmed earlier are gone already.
	fresh := max(count+1-s.begin, 0)
	// Cut off ahead, not moved: many may wait. What is cut off must not keep its data.
	clear(s.waiting[:fresh])
	s.waiting = s.waiting[fresh:]
	s.begin += fresh
	return api.OK
}

// Move: P27.
func (s *Sender) Move(key int) ([]api.Packet, api.Errno) {
	if err := checkKey(key); err != api.OK {
		return nil, err
	}
	s.key = key
	again := make([]api.Packet, len(s.waiting))
	for i, data := range s.waiting {
		again[i] = packetOf(data, key, s.begin+i)
	}
	return again, api.OK
}
