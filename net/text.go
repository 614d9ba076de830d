package net

import (
	"roamwave/api"
	"roamwave/mac"
)

const (
	// pieceHead: a piece's Number, two bytes of From, and Last.
	pieceHead = 4
	// shortBytes of a packet, ahead of its Seal.
	shortBytes = 2
	// packetHead: a packet's Short, and three bytes of Seal.
	packetHead = 5
)

// pieceText of a piece.
func pieceText(p api.Piece) string {
	last := byte(0)
	if p.Last {
		last = 1
	}
	return string([]byte{byte(p.Number), byte(p.From >> 8), byte(p.From), last}) + p.Data
}

// parsePiece takes what pieceText made.
func parsePiece(text string) (api.Piece, bool) {
	if len(text) < pieceHead || text[3] > 1 {
		return api.Piece{}, false
	}
	return api.Piece{Number: int(text[0]), From: int(text[1])<<8 + int(text[2]), Last: text[3] == 1, Data: text[pieceHead:]}, true
}

// pieceIn a block: the one item that it has.
func pieceIn(block string) (api.Piece, bool) {
	items, _ := mac.Split(block)
	if len(items) != 1 || items[0].Channel != channel {
		return api.Piece{}, false
	}
	return parsePiece(items[0].Data)
}

// packetText of a packet.
func packetText(p api.Packet) string {
	return string([]byte{byte(p.Short >> 8), byte(p.Short)}) + p.Seal + p.Data
}

// parsePacket takes what packetText made.
func parsePacket(text string) (api.Packet, bool) {
	if len(text) < packetHead {
		return api.Packet{}, false
	}
	return api.Packet{Short: int(text[0])<<8 + int(text[1]), Seal: text[shortBytes:packetHead], Data: text[packetHead:]}, true
}
