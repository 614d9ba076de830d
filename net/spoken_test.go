package net_test

import (
	"strings"
	"testing"

	"roamwave/api"
	"roamwave/core"
	"roamwave/guard"
	"roamwave/harq"
	"roamwave/link"
	"roamwave/mac"
	"roamwave/net"
	"roamwave/repeat"
	"roamwave/turns"
)

// spokenUser has what the chapter's first paragraph says.
type spokenUser struct {
	key            int
	guardSender    *guard.Sender
	guardReceiver  *guard.Receiver
	repeatSender   *repeat.Sender
	repeatReceiver *repeat.Receiver
	harqSender     *harq.Sender
	harqReceiver   *harq.Receiver
	mode           string
	rough          int
	told           []string
	// grants of all data that was sent, that of the first one first.
	grants []int
	// ears, and the flags of the shots that came of each process, since its harq's is there.
	ears  [8]*link.Ear
	flags [8][]bool
}

// spoken does what P31 and P32 say, sentence by sentence, with the layers above.
type spoken struct {
	core  *core.Core
	turns *turns.Turns
	users map[int]*spokenUser
	// refused is how often an ear took no more.
	refused int
}

// sure is an answer beside which there is no error.
func sure[T any](x T, err api.Errno) T {
	if err != api.OK {
		panic(err)
	}
	return x
}

// ok panics unless something goes without an error.
func ok(err api.Errno) {
	if err != api.OK {
		panic(err)
	}
}

func newSpoken() *spoken {
	return &spoken{core: sure(core.New(100)), turns: sure(turns.New(1)), users: map[int]*spokenUser{}}
}

func (s *spoken) user(n, quota int) api.Errno {
	if err := s.core.Join(n, quota); err != api.OK {
		return err
	}
	if err := s.core.Attach(n, 1); err != api.OK {
		return err
	}
	key := 1000*n + 1
	s.users[n] = &spokenUser{key: key, guardSender: sure(guard.NewSender(key)), guardReceiver: sure(guard.NewReceiver(key)), mode: "clear"}
	s.users[n].renew()
	return api.OK
}

func (u *spokenUser) renew() {
	u.repeatSender, u.repeatReceiver = sure(repeat.NewSender(8)), sure(repeat.NewReceiver(8))
	u.harqSender, u.harqReceiver = sure(harq.NewSender(4)), harq.NewReceiver()
	u.ears, u.flags = [8]*link.Ear{}, [8][]bool{}
}

func (u *spokenUser) submit(p api.Packet) {
	ok(u.repeatSender.Submit(string([]byte{byte(p.Short / 256), byte(p.Short % 256), p.Seal[0], p.Seal[1], p.Seal[2]}) + p.Data))
}

func (s *spoken) send(n int, text string) api.Errno {
	u, there := s.users[n]
	if !there {
		return api.ErrUnknown
	}
	if u.repeatSender.Waiting() >= 64 || len(u.grants)-len(u.told) >= 64 {
		return api.ErrFull
	}
	grant, bytes, err := s.core.Lend(n)
	if err != api.OK {
		return err
	}
	if bytes < len(text) {
		ok(s.core.Report(api.Usage{Grant: grant, Turn: 1, Bytes: 0, Final: true}))
		return api.ErrQuota
	}
	u.submit(sure(u.guardSender.Send(text)))
	u.grants = append(u.grants, grant)
	return api.OK
}

func (s *spoken) air(n int, mode string, rough int) api.Errno {
	u, there := s.users[n]
	if !there {
		return api.ErrUnknown
	}
	u.mode, u.rough = mode, rough
	return api.OK
}

func (s *spoken) hand(n, cell int) api.Errno {
	u, there := s.users[n]
	if !there {
		return api.ErrUnknown
	}
	if err := s.core.Hand(n, sure(s.core.Page(n))[0], cell); err != api.OK {
		return err
	}
	if c := u.guardReceiver.Count(); c > 0 {
		ok(u.guardSender.Confirm(c - 1))
	}
	u.key += 7
	u.renew()
	ok(u.guardReceiver.Move(u.key))
	for _, p := range sure(u.guardSender.Move(u.key)) {
		u.submit(p)
	}
	return api.OK
}

func (s *spoken) look(n int) string {
	u, there := s.users[n]
	if !there {
		return "error 12\n"
	}
	r := sure(s.core.Record(n))
	return words("user", n, "at", sure(s.core.Page(n))[0], "told", len(u.told), "waiting", u.repeatSender.Waiting(), "left", r.Left, "lent", r.Lent, "charged", r.Charged) + "\n"
}

func (s *spoken) told(n int) string {
	u, there := s.users[n]
	if !there {
		return "error 12\n"
	}
	return strings.Join(append(append([]string{}, u.told...), words(len(u.told), "told"), ""), "\n")
}

func (s *spoken) tick() {
	var list []api.User
	for n := 1; n <= 16; n++ {
		if u, there := s.users[n]; there && (len(u.harqSender.Waiting()) > 0 || u.repeatSender.Waiting() > 0) {
			list = append(list, api.User{Who: n, Bytes: 1, Fits: 1})
		}
	}
	for _, n := range sure(s.turns.Slot(list, 4)) {
		if n != 0 {
			s.block(n, s.users[n])
		}
	}
	for n := 1; n <= 16; n++ {
		if u, there := s.users[n]; there && u.mode != "lost" {
			ok(u.repeatSender.Take(u.repeatReceiver.Report()))
		}
	}
}

func (s *spoken) block(n int, u *spokenUser) {
	if len(u.harqSender.Waiting()) == 0 {
		p, err := u.repeatSender.Next(12)
		if err != api.OK {
			return
		}
		text := []byte{byte(p.Number), byte(p.From / 256), byte(p.From % 256), 0}
		if p.Last {
			text[3] = 1
		}
		sure(u.harqSender.Submit(sure(mac.Join([]api.Item{{Channel: 1, Data: string(text) + p.Data}}, 20))))
	}
	process := u.harqSender.Waiting()[0]
	shot := sure(u.harqSender.Next(process))
	yes := false
	if u.mode != "lost" {
		yes = s.comes(n, u, shot)
	}
	sure(u.harqSender.Answer(process, yes && u.mode != "lost" && u.mode != "deaf"))
}

func (s *spoken) comes(n int, u *spokenUser, shot api.Shot) bool {
	settings := api.Settings{Code: api.Memory, Size: 0, Order: 4, Seed: n, Count: 600}
	if n%2 == 0 {
		settings = api.Settings{Code: api.Halves, Size: 256, Order: 2, Seed: n, Count: 256}
	}
	points := sure(link.Build(shot.Data, settings, shot.Version))
	for i, p := range points {
		if u.mode == "rough" && i < u.rough {
			points[i] = api.Point{I: -p.I, Q: -p.Q}
		}
	}
	came := u.flags[shot.Process]
	if len(came) == 0 || came[len(came)-1] != shot.Flag {
		u.ears[shot.Process] = sure(link.New(settings, 20))
	}
	u.flags[shot.Process] = append(came, shot.Flag)
	data, heard, err := u.ears[shot.Process].Take(points, shot.Version)
	// One that has heard very much refuses more, and tells nothing then.
	if err == api.ErrLarge {
		s.refused++
	} else {
		ok(err)
	}
	fresh, isFresh, yes, err := u.harqReceiver.Take(api.Shot{Process: shot.Process, Version: shot.Version, Flag: shot.Flag, Data: data}, heard)
	ok(err)
	if isFresh {
		s.fresh(u, fresh)
	}
	return yes
}

// fresh blocks that can't be split go: where turned points and others are heard as nothing at all, a block of noughts is, and its sum is right. That all others are what was sent is made sure of.
func (s *spoken) fresh(u *spokenUser, block string) {
	items, err := mac.Split(block)
	if err != api.OK {
		return
	}
	item := items[0].Data
	p := api.Piece{Number: int(item[0]), From: 256*int(item[1]) + int(item[2]), Last: item[3] != 0, Data: item[4:]}
	for _, unit := range sure(u.repeatReceiver.Take(p)) {
		packet := api.Packet{Short: 256*int(unit[0]) + int(unit[1]), Seal: unit[2:5], Data: unit[5:]}
		for _, data := range sure(u.guardReceiver.Take(packet)) {
			ok(s.core.Report(api.Usage{Grant: u.grants[len(u.told)], Turn: 1, Bytes: len(data), Final: true}))
			u.told = append(u.told, data)
		}
	}
}

// answered as a line that says no more than whether it was done.
func answered(err api.Errno) string {
	if err == api.OK {
		return "ok\n"
	}
	return words("error", int(err)) + "\n"
}

// who, mostly one of those that there are.
func (s *source) who(users []int) int {
	if s.below(30) == 0 {
		return s.below(19)
	}
	return pick(s, users)
}

// air, as rough as it is heard sometimes.
func (s *source) air() (mode string, rough int) {
	switch s.below(8) {
	case 0, 1:
		return "lost", 0
	case 2, 3:
		return "deaf", 0
	case 4:
		return "rough", s.below(60)
	case 5:
		return "rough", pick(s, []int{0, 1, 2, 20, 127, 128, 129, 149, 150, 151, 999999999})
	}
	return "clear", 0
}

// line that is done by the model too, with its answer.
func (s *source) line(m *spoken, users []int) (line, want string) {
	n := s.who(users)
	switch s.below(20) {
	case 0:
		quota := pick(s, []int{0, 50, 1000, 100000})
		return words("user", n, quota), answered(m.user(n, quota))
	case 1, 2, 3, 4:
		text := s.text(pick(s, []int{8, 30, 100}))
		return words("send", n, text), answered(m.send(n, text))
	case 5:
		mode, rough := s.air()
		line := words("air", n, mode)
		if mode == "rough" {
			line = words("air", n, mode, rough)
		}
		return line, answered(m.air(n, mode, rough))
	case 6:
		if s.often(3) {
			cell := s.below(103)
			return words("hand", n, cell), answered(m.hand(n, cell))
		}
		return words("told", n), m.told(n)
	}
	m.tick()
	return "tick", "ok\n"
}

// TestAsSpoken: whatever is done, for whom, and through which air.
func TestAsSpoken(t *testing.T) {
	const turnsInAll = 40
	heard := 0
	for turn := range turnsInAll {
		from := source(turn)
		users := [][]int{{1}, {2}, {1, 2}, {1, 2, 3, 4, 5}, {3, 4, 7, 8, 9, 12, 15, 16}}[turn%5]
		n, m := net.New(), newSpoken()
		for _, who := range users {
			quota := pick(&from, []int{90, 2000, 1000000})
			says(t, n, words("user", who, quota), strings.TrimSuffix(answered(m.user(who, quota)), "\n"))
		}
		for range 500 {
			line, want := from.line(m, users)
			if got := n.Do(line); got != want {
				t.Fatalf("turn %d: %q: %q, want %q", turn, line, got, want)
			}
			for _, who := range users {
				if got, want := n.Do(words("look", who)), m.look(who); got != want {
					t.Fatalf("turn %d: behind %q: %q, want %q", turn, line, got, want)
				}
			}
		}
		for who := range 18 {
			if got, want := n.Do(words("told", who)), m.told(who); got != want {
				t.Fatalf("turn %d: told %d: %q, want %q", turn, who, got, want)
			}
		}
		for _, u := range m.users {
			heard += len(u.told)
		}
	}
	if heard < 10*turnsInAll {
		t.Errorf("no more than %d told in all", heard)
	}
}

// pair of a net and the model, for which the same is done.
type pair struct {
	t *testing.T
	n *net.Net
	m *spoken
}

// ticks of both, through this air of the user 1; they must be of one mind behind each.
func (x *pair) ticks(times int, mode string, rough int) {
	x.t.Helper()
	line := words("air", 1, mode)
	if mode == "rough" {
		line = words("air", 1, mode, rough)
	}
	does(x.t, x.n, line)
	ok(x.m.air(1, mode, rough))
	for range times {
		does(x.t, x.n, "tick")
		x.m.tick()
		if got, want := x.n.Do("look 1"), x.m.look(1); got != want {
			x.t.Fatalf("%q, want %q", got, want)
		}
	}
}

// TestEarThatIsFull: each second block is lost, so that the others have one ear for all of them; in the end it takes no more.
func TestEarThatIsFull(t *testing.T) {
	x := &pair{t, net.New(), newSpoken()}
	does(t, x.n, "user 1 500", "send 1 hello")
	ok(x.m.user(1, 500))
	ok(x.m.send(1, "hello"))
	x.ticks(4, "rough", 150)
	for x.m.refused < 9 {
		x.ticks(4, "lost", 0)
		// Behind a lost block the first tick brings no more than a report.
		x.ticks(5, "rough", 150)
	}
	told(t, x.n, 1)
	x.ticks(9, "clear", 0)
	told(t, x.n, 1, "hello")
}
