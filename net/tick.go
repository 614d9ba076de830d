package net

import (
	"roamwave/api"
	"roamwave/link"
	"roamwave/mac"
)

const (
	// slotBlocks are given away in a tick.
	slotBlocks = 4
	// pieceSize is how much of a unit goes into a block at most.
	pieceSize = 12
	// channel of the pieces.
	channel = 1
	// blockSize has room for a piece with its head, as an item.
	blockSize = 20
)

// tick: P32.
func (n *Net) tick() {
	// The list is one that may be, as the users stand by their numbers.
	owners, _ := n.turns.Slot(n.waiting(), slotBlocks)
	for _, who := range owners {
		if u := n.users[who]; u != nil {
			n.useBlock(u)
		}
	}
	for _, u := range n.users {
		if u != nil && !u.air.lost {
			u.units.Take(u.pieces.Report())
		}
	}
}

// waiting users, rising.
func (n *Net) waiting() []api.User {
	var list []api.User
	for _, u := range n.users {
		if u != nil && (len(u.blocks.Waiting()) > 0 || u.units.Waiting() > 0) {
			list = append(list, api.User{Who: u.who, Bytes: 1, Fits: 1})
		}
	}
	return list
}

// useBlock of the grid for a user: one shot, and its answer.
func (n *Net) useBlock(u *user) {
	process, err := u.process()
	if err != api.OK {
		return
	}
	// Each shot is answered in its own tick, so there is always a next one.
	shot, _ := u.blocks.Next(process)
	yes := !u.air.lost && n.come(u, shot)
	u.blocks.Answer(process, yes && !u.air.deaf)
}

// process that is tried now: one that waits, or else one with the next piece.
func (u *user) process() (int, api.Errno) {
	if waiting := u.blocks.Waiting(); len(waiting) > 0 {
		return waiting[0], api.OK
	}
	piece, err := u.units.Next(pieceSize)
	if err != api.OK {
		return 0, err
	}
	block, _ := mac.Join([]api.Item{{Channel: channel, Data: pieceText(piece)}}, blockSize)
	return u.blocks.Submit(block)
}

// come is a shot that is not lost; it tells whether harq's receiver says yes to it.
func (n *Net) come(u *user, shot api.Shot) bool {
	data, heard := u.hear(shot)
	// The receiver knows no more of the data than the ear does.
	shot.Data = data
	block, fresh, yes, _ := u.shots.Take(shot, heard)
	if fresh {
		n.unwrap(u, block)
	}
	return yes
}

// settings of a user's link.
func settings(who int) api.Settings {
	if who%2 == 1 {
		return api.Settings{Code: api.Memory, Order: 4, Seed: who, Count: 600}
	}
	return api.Settings{Code: api.Halves, Size: 256, Order: 2, Seed: who, Count: 256}
}

// hear a shot through the air, by all that came of its block so far; false, if that does not tell the block.
func (u *user) hear(shot api.Shot) (string, bool) {
	s := settings(u.who)
	points, _ := link.Build(shot.Data, s, shot.Version)
	u.air.turn(points)
	e, came := u.ears[shot.Process]
	if !came || e.flag != shot.Flag {
		fresh, _ := link.New(s, blockSize)
		e = ear{fresh, shot.Flag}
		u.ears[shot.Process] = e
	}
	data, ok, _ := e.Take(points, shot.Version)
	return data, ok
}

// unwrap a fresh block down to the data in it, which is told and charged. What is not as the other side made it goes: where turned points outdo the others just so, a block of noughts is heard, and its sum is right.
func (n *Net) unwrap(u *user, block string) {
	piece, ok := pieceIn(block)
	if !ok {
		return
	}
	units, _ := u.pieces.Take(piece)
	for _, unit := range units {
		n.open(u, unit)
	}
}

// open a unit.
func (n *Net) open(u *user, unit string) {
	packet, ok := parsePacket(unit)
	if !ok {
		return
	}
	count := u.opener.Count()
	told, _ := u.opener.Take(packet)
	for i, data := range told {
		u.told = append(u.told, data)
		n.charge(u.grants[count+i], len(data))
		delete(u.grants, count+i)
	}
}
