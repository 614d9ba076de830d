package net

import (
	"slices"
	"strings"
	"testing"

	"roamwave/api"
	"roamwave/guard"
	"roamwave/mac"
)

// These are tested inside, as nothing of them is seen outside while no sum is wrong and right at a time.

// sure fails unless there is no error beside an answer.
func sure[T any](t *testing.T) func(T, api.Errno) T {
	return func(x T, err api.Errno) T {
		t.Helper()
		if err != api.OK {
			t.Fatal(err)
		}
		return x
	}
}

// TestPieceText: Number, two bytes of From, Last, the Data.
func TestPieceText(t *testing.T) {
	for _, x := range []struct {
		piece api.Piece
		text  string
	}{
		{api.Piece{Number: 5, From: 300, Last: true, Data: "ab"}, "\x05\x01\x2c\x01ab"},
		{api.Piece{Number: 63, From: 1499, Data: "\x00"}, "\x3f\x05\xdb\x00\x00"},
		{api.Piece{Data: "twelve bytes"}, "\x00\x00\x00\x00twelve bytes"},
		{api.Piece{From: 255, Last: true, Data: "\xff\xff"}, "\x00\x00\xff\x01\xff\xff"},
	} {
		if got := pieceText(x.piece); got != x.text {
			t.Errorf("%+v: %q, want %q", x.piece, got, x.text)
		}
		if got, ok := parsePiece(x.text); got != x.piece || !ok {
			t.Errorf("%q: %+v, %v, want %+v", x.text, got, ok, x.piece)
		}
	}
	if p, ok := parsePiece("\xff\xff\xff\x01"); p != (api.Piece{Number: 255, From: 65535, Last: true}) || !ok {
		t.Errorf("%+v, %v", p, ok)
	}
	for _, text := range []string{"", "\x05", "\x05\x00", "\x05\x00\x00", "\x05\x00\x00\x02ab", "\x05\x00\x00\xffab", "\x05\x00\x001ab"} {
		if p, ok := parsePiece(text); p != (api.Piece{}) || ok {
			t.Errorf("%q: %+v, %v", text, p, ok)
		}
	}
}

// TestPacketText: two bytes of Short, the Seal, the Data.
func TestPacketText(t *testing.T) {
	for _, x := range []struct {
		packet api.Packet
		text   string
	}{
		{api.Packet{Short: 0x0abc, Data: "data", Seal: "\x01\x02\x03"}, "\x0a\xbc\x01\x02\x03data"},
		{api.Packet{Short: 4095, Data: "\x00", Seal: "\xff\x00\xff"}, "\x0f\xff\xff\x00\xff\x00"},
		{api.Packet{Short: 255, Seal: "abc"}, "\x00\xffabc"},
	} {
		if got := packetText(x.packet); got != x.text {
			t.Errorf("%+v: %q, want %q", x.packet, got, x.text)
		}
		if got, ok := parsePacket(x.text); got != x.packet || !ok {
			t.Errorf("%q: %+v, %v, want %+v", x.text, got, ok, x.packet)
		}
	}
	for _, text := range []string{"", "\x00", "\x00\x01", "\x00\x01a", "\x00\x01ab"} {
		if p, ok := parsePacket(text); p != (api.Packet{}) || ok {
			t.Errorf("%q: %+v, %v", text, p, ok)
		}
	}
}

// block with these items.
func block(t *testing.T, items ...api.Item) string {
	t.Helper()
	return sure[string](t)(mac.Join(items, 20))
}

// TestPieceIn: the one item of a block, on the channel 1.
func TestPieceIn(t *testing.T) {
	piece := api.Piece{Number: 7, From: 12, Last: true, Data: "hello"}
	one := api.Item{Channel: 1, Data: pieceText(piece)}
	if got, ok := pieceIn(block(t, one)); got != piece || !ok {
		t.Errorf("%+v, %v", got, ok)
	}
	for _, text := range []string{
		"", "\x01", strings.Repeat("\x00", 20), strings.Repeat("\xff", 20), block(t), block(t, api.Item{Channel: 1}), block(t, api.Item{Channel: 1, Data: "\x07\x00\x0c"}),
		block(t, one, api.Item{Channel: 1}), block(t, api.Item{Channel: 1}, one), block(t, api.Item{Channel: 2, Data: one.Data}), block(t, api.Item{Channel: 1, Data: "\x07\x00\x0c\x02hello"}),
		strings.TrimSuffix(block(t, one), "\x00") + "x",
	} {
		if got, ok := pieceIn(text); got != (api.Piece{}) || ok {
			t.Errorf("%q: %+v, %v", text, got, ok)
		}
	}
}

// TestSettings: of odd and of even users.
func TestSettings(t *testing.T) {
	for who := 1; who <= 16; who++ {
		want := api.Settings{Code: 0, Size: 0, Order: 4, Seed: who, Count: 600}
		if who%2 == 0 {
			want = api.Settings{Code: 1, Size: 256, Order: 2, Seed: who, Count: 256}
		}
		if got := settings(who); got != want {
			t.Errorf("%d: %+v", who, got)
		}
	}
}

// TestTurn: the first points, as many as the air is rough.
func TestTurn(t *testing.T) {
	sent := []api.Point{{I: 1, Q: -3}, {I: 0, Q: 1}, {I: 3, Q: 3}}
	turned := []api.Point{{I: -1, Q: 3}, {I: 0, Q: -1}, {I: -3, Q: -3}}
	for _, x := range []struct {
		air   air
		count int
	}{
		{air{}, 0}, {air{lost: true}, 0}, {air{deaf: true}, 0}, {air{rough: 1}, 1}, {air{rough: 2}, 2}, {air{rough: 3}, 3}, {air{rough: 4}, 3}, {air{rough: 999999999}, 3},
	} {
		points := slices.Clone(sent)
		x.air.turn(points)
		if want := append(slices.Clone(turned[:x.count]), sent[x.count:]...); !slices.Equal(points, want) {
			t.Errorf("%+v: %v, want %v", x.air, points, want)
		}
	}
}

// lineUp does lines, each of which must be ok.
func lineUp(t *testing.T, n *Net, lines ...string) {
	t.Helper()
	for _, line := range lines {
		if got := n.Do(line); got != "ok\n" {
			t.Fatalf("%q: %q", line, got)
		}
	}
}

// waits fails unless these units are what a user's sender has.
func waits(t *testing.T, u *user, want ...api.Packet) {
	t.Helper()
	if u.units.Waiting() != len(want) {
		t.Errorf("%d units wait, want %d", u.units.Waiting(), len(want))
	}
	for i, p := range want {
		piece := sure[api.Piece](t)(u.units.Next(api.MaxBytes))
		if piece != (api.Piece{Number: i, Last: true, Data: packetText(p)}) {
			t.Errorf("unit %d: %+v, want the packet %+v", i, piece, p)
		}
	}
}

// TestKeys: 1000 times the user's number and 1 more; 7 more behind each handover.
func TestKeys(t *testing.T) {
	for who := 1; who <= 16; who++ {
		for hands := range 3 {
			key := 1000*who + 1
			sender := sure[*guard.Sender](t)(guard.NewSender(key))
			packets := []api.Packet{sure[api.Packet](t)(sender.Send("one")), sure[api.Packet](t)(sender.Send("two"))}
			n := New()
			if err := n.join(who, 500); err != api.OK {
				t.Fatal(err)
			}
			u := n.users[who]
			for _, text := range []string{"one", "two"} {
				if err := n.send(u, text); err != api.OK {
					t.Fatal(err)
				}
			}
			for i := range hands {
				if err := n.hand(u, 2+i); err != api.OK {
					t.Fatal(err)
				}
				packets = sure[[]api.Packet](t)(sender.Move(key + 7*(i+1)))
			}
			waits(t, u, packets...)
		}
	}
}

// TestHandConfirms: what was told is not sent again.
func TestHandConfirms(t *testing.T) {
	n := New()
	lineUp(t, n, "user 1 500", "send 1 one", "send 1 two", "send 1 three", "tick", "tick", "hand 1 2")
	sender := sure[*guard.Sender](t)(guard.NewSender(1008))
	for _, text := range []string{"one", "two"} {
		sure[api.Packet](t)(sender.Send(text))
	}
	waits(t, n.users[1], sure[api.Packet](t)(sender.Send("three")))
}

// TestBlocks: a block is a piece of 12 bytes at most, as an item of the channel 1, in 20 bytes.
func TestBlocks(t *testing.T) {
	n := New()
	lineUp(t, n, "user 3 500", "send 3 more than one piece")
	u := n.users[3]
	packet := sure[api.Packet](t)(sure[*guard.Sender](t)(guard.NewSender(3001)).Send("more than one piece"))
	unit := packetText(packet)
	for i, want := range []string{"\x01\x00\x10\x00\x00\x00\x00" + unit[:12] + "\x3f", "\x01\x00\x10\x00\x00\x0c\x01" + unit[12:] + "\x3f"} {
		process := sure[int](t)(u.process())
		if again := sure[int](t)(u.process()); process != 0 || again != 0 {
			t.Errorf("processes %d and %d", process, again)
		}
		shot := sure[api.Shot](t)(u.blocks.Next(process))
		if shot.Data != want {
			t.Errorf("block %d: %q, want %q", i, shot.Data, want)
		}
		sure[bool](t)(u.blocks.Answer(process, true))
	}
	if process, err := u.process(); process != 0 || err != api.ErrAbsent {
		t.Errorf("%d, %v", process, err)
	}
}

// TestWrongBlocksGo: nothing is told by them, and what is right is told behind them.
func TestWrongBlocksGo(t *testing.T) {
	n := New()
	lineUp(t, n, "user 1 500", "send 1 hello", "send 1 you")
	u := n.users[1]
	other := sure[api.Packet](t)(sure[*guard.Sender](t)(guard.NewSender(1002)).Send("hello"))
	item := func(p api.Piece) api.Item { return api.Item{Channel: 1, Data: pieceText(p)} }
	for _, wrong := range []string{
		strings.Repeat("\x00", 20), "", block(t), block(t, api.Item{Channel: 1}), block(t, item(api.Piece{Last: true})), block(t, item(api.Piece{Number: 64, Last: true, Data: "x"})),
		block(t, item(api.Piece{Number: 8, Last: true, Data: "x"})), block(t, item(api.Piece{Number: 63, Last: true, Data: "x"})), block(t, item(api.Piece{From: 1500, Data: "x"})),
		block(t, item(api.Piece{From: 65535, Data: "x"})),
	} {
		n.unwrap(u, wrong)
		if r := u.pieces.Report(); r.Next != 0 || len(r.Missing) != 0 {
			t.Fatalf("%q: %+v", wrong, r)
		}
	}
	for _, unit := range []string{"", "x", "four", packetText(other), "\x00\x00\x00\x00\x01", "\xff\xff\x00\x00\x00", "\x08\x00\x00\x00\x00x", "\x00\x00\x00\x00\x00" + strings.Repeat("x", 501)} {
		n.open(u, unit)
	}
	if u.told != nil || len(u.grants) != 2 {
		t.Errorf("told %q, grants %v", u.told, u.grants)
	}
	if got := n.Do("look 1"); got != "user 1 at 1 told 0 waiting 2 left 300 lent 200 charged 0\n" {
		t.Error(got)
	}
	lineUp(t, n, "tick", "tick")
	if got := n.Do("told 1"); got != "hello\nyou\n2 told\n" {
		t.Error(got)
	}
}

// TestPacketsThatWereNotSent: there is no grant that could be charged for them, and no other one is.
func TestPacketsThatWereNotSent(t *testing.T) {
	n := New()
	lineUp(t, n, "user 2 500", "user 1 500", "send 2 x")
	sender := sure[*guard.Sender](t)(guard.NewSender(1001))
	packets := []api.Packet{sure[api.Packet](t)(sender.Send("a")), sure[api.Packet](t)(sender.Send("b"))}
	u := n.users[1]
	n.open(u, packetText(packets[1]))
	if len(u.told) != 0 {
		t.Errorf("told %q", u.told)
	}
	n.open(u, packetText(packets[0]))
	n.open(u, packetText(packets[0]))
	if got := n.Do("told 1"); got != "a\nb\n2 told\n" {
		t.Error(got)
	}
	for line, want := range map[string]string{"look 1": "user 1 at 1 told 2 waiting 0 left 500 lent 0 charged 0\n", "look 2": "user 2 at 1 told 0 waiting 1 left 400 lent 100 charged 0\n"} {
		if got := n.Do(line); got != want {
			t.Error(got)
		}
	}
}

// TestSeveralAtOnce: data that was there already is told with the one ahead of it, and each is charged to its own grant.
func TestSeveralAtOnce(t *testing.T) {
	n := New()
	lineUp(t, n, "user 1 203", "send 1 a", "send 1 bb", "send 1 ccc")
	sender := sure[*guard.Sender](t)(guard.NewSender(1001))
	var units []string
	for _, text := range []string{"a", "bb", "ccc"} {
		units = append(units, packetText(sure[api.Packet](t)(sender.Send(text))))
	}
	u := n.users[1]
	// The last grant has three bytes: it is the only one that could not pay for more.
	for i, want := range []string{"user 1 at 1 told 0 waiting 3 left 0 lent 203 charged 0\n", "user 1 at 1 told 0 waiting 3 left 0 lent 203 charged 0\n", "user 1 at 1 told 3 waiting 3 left 197 lent 0 charged 6\n"} {
		n.open(u, units[2-i])
		if got := n.Do("look 1"); got != want {
			t.Error(got)
		}
	}
	if len(u.grants) != 0 || !slices.Equal(u.told, []string{"a", "bb", "ccc"}) {
		t.Errorf("told %q, grants %v", u.told, u.grants)
	}
}

// TestGuardRefuses: then nothing is sent. (It does so behind 2^24 packets, too many for a test, or of a text that is too long, which no line has.)
func TestGuardRefuses(t *testing.T) {
	n := New()
	lineUp(t, n, "user 1 500")
	u := n.users[1]
	if err := u.send(strings.Repeat("x", 501), 1); err != api.ErrLarge {
		t.Error(err)
	}
	if u.sent != 0 || len(u.grants) != 0 || u.units.Waiting() != 0 {
		t.Errorf("sent %d, grants %v, waiting %d", u.sent, u.grants, u.units.Waiting())
	}
}
