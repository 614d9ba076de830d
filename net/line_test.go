package net_test

import (
	"strings"
	"testing"

	"roamwave/net"
)

// badLines are none that may be.
var badLines = []string{
	"", " ", "  ", "\n", "x", "Tick", "TICK", "tic", "ticks", "tick ", " tick", "tick 1", "tick  ", "tick\n", "tick\r", "\ttick", "tick\x00",
	"user", "user ", "user 1", "user 1 ", "user 1  5", "user  1 5", " user 1 5", "user 1 5 ", "user 1 5 6", "user 1 5\n", "user 1\t5", "user\t1 5", "users 1 5", "User 1 5", "use 1 5",
	"user 01 5", "user 1 05", "user 1 00", "user +1 5", "user 1 +5", "user -1 5", "user 1 -5", "user 1 -0", "user -0 5", "user 1 5.0", "user 1 0x5", "user 1 1_0", "user 1 1e1", "user 1 a", "user a 5", "user 1 ５", "user 1 \xb2",
	"user 1000000000 5", "user 1 1000000000", "user 1 9999999999", "user 1 99999999999999999999999999", "user 1 0000000001", "user 18446744073709551617 5", "user 4294967297 5",
	"send", "send ", "send 1", "send 1 ", "send  1 x", " send 1 x", "send x y", "send 01 x", "send -1 x", "send 1x", "send 1\tx", "send  x", "send x", "sends 1 x", "Send 1 x", "send 1000000000 x", "send +1 x",
	"air", "air ", "air 1", "air 1 ", "air 1 off", "air 1 Clear", "air 1 clear ", "air 1  clear", "air  1 clear", "air clear", "air 1 clear 1", "air 1 lost 1", "air 1 deaf 0", "air 1 lost\n", "air 01 clear", "air x clear", "airs 1 clear",
	"air 1 rough", "air 1 rough ", "air 1 rough  5", "air 1 rough 05", "air 1 rough -1", "air 1 rough +1", "air 1 rough 5 ", "air 1 rough 5 5", "air 1 rough x", "air 1 rough5", "air 1 rough 1000000000", "air 1 5", "air 1 rough\t5", "air 1 clear rough 5", "air 1 roughrough 5",
	"hand", "hand ", "hand 1", "hand 1 ", "hand 1 05", "hand 1 -5", "hand 1 5 ", "hand 1  5", "hand  1 5", "hand 1 5 6", "hand x 5", "hand 1 x", "hand 1 1000000000", "hands 1 5", "hand 01 5",
	"look", "look ", "look 1 ", "look  1", "look 01", "look 1 1", "look x", "look -1", "look +1", "look 1000000000", "look 1\n", "looks 1", "look 1.", "look 00",
	"told", "told ", "told 1 ", "told  1", "told 01", "told 1 1", "told x", "told -1", "told 1000000000", "told 1\n", "tell 1", "Told 1", " told 1",
	"1", "1 tick", "tick\ntick", "look 1\ntick", "\x00", "\xff", " 1", " 1 5", "  1 x", "leave 1", "join 1 5", "sleep 1", "error 1", "ok", "bad",
}

// TestBadLines: whether there are such users, or not; and nothing is done by them.
func TestBadLines(t *testing.T) {
	empty, n := net.New(), netWith(t, 1)
	does(t, n, "send 1 hello")
	for _, line := range badLines {
		says(t, empty, line, "bad")
		says(t, n, line, "bad")
		looks(t, n, 1, 1, 0, 1, 9900, 100, 0)
	}
	says(t, empty, "look 1", "error 12")
	tellsAt(t, n, 1, 1)
	told(t, n, 1, "hello")
}

// TestLongBadLines: their length alone makes no trouble.
func TestLongBadLines(t *testing.T) {
	n := netWith(t, 1)
	long := 1 << 22
	for _, line := range []string{
		strings.Repeat(" ", long), strings.Repeat("tick ", long), strings.Repeat("9", long), "look " + strings.Repeat("1", long), "user 1 " + strings.Repeat("1", long),
		"air 1 rough " + strings.Repeat("0", long), "send 1 " + strings.Repeat("x", long), "hand 1 5" + strings.Repeat(" 5", long), "told " + strings.Repeat(" ", long), "tick" + strings.Repeat("\x00", long),
	} {
		says(t, n, line, "bad")
	}
}

// TestNumbers: of up to 9 digits, 0 too; whether they are fit the core says.
func TestNumbers(t *testing.T) {
	n := net.New()
	for _, who := range []string{"0", "17", "18", "100", "257", "65537", "999999999", "100000000"} {
		says(t, n, "user "+who+" 5", "error 1")
		says(t, n, "user "+who+" 0", "error 1")
		says(t, n, "user "+who+" 999999999", "error 1")
		for _, line := range []string{"send " + who + " x", "air " + who + " clear", "air " + who + " rough 5", "hand " + who + " 5", "hand " + who + " 0", "look " + who, "told " + who} {
			says(t, n, line, "error 12")
		}
	}
	does(t, n, "user 1 0", "user 16 999999999", "user 9 123456789", "user 10 10")
	looks(t, n, 1, 1, 0, 0, 0, 0, 0)
	looks(t, n, 16, 1, 0, 0, 999999999, 0, 0)
	looks(t, n, 9, 1, 0, 0, 123456789, 0, 0)
	looks(t, n, 10, 1, 0, 0, 10, 0, 0)
}

// TestUsers: each once, and whoever is none is unknown, while a line that may not be is told first.
func TestUsers(t *testing.T) {
	n := net.New()
	for who := 1; who <= 16; who++ {
		for _, line := range []string{words("send", who, "x"), words("air", who, "lost"), words("hand", who, 5), words("hand", who, 101), words("look", who), words("told", who)} {
			says(t, n, line, "error 12")
		}
		says(t, n, words("air", who, "off"), "bad")
		says(t, n, words("send", who, strings.Repeat("x", 101)), "bad")
		does(t, n, words("user", who, 100*who))
		says(t, n, words("user", who, 100*who), "error 10")
		says(t, n, words("user", who, 7), "error 10")
		looks(t, n, who, 1, 0, 0, 100*who, 0, 0)
		told(t, n, who)
	}
	ticks(t, n, 3)
	for who := 1; who <= 16; who++ {
		looks(t, n, who, 1, 0, 0, 100*who, 0, 0)
	}
}

// TestTexts: all that is behind the second blank, whatever bytes these are, 1 to 100 of them.
func TestTexts(t *testing.T) {
	all := ""
	for b := range 256 {
		all += string([]byte{byte(b)})
	}
	texts := []string{
		"x", " ", "  ", " x", "x ", "two words", " two  blanks ", "\n", "two\nlines", "tick", "\x00", "\x00\x00", "\xff", "é", "\xc3", "0 told", "bad", "send 1 x", "?\x00\x00\x00",
		all[:100], all[100:200], all[156:], strings.Repeat(" ", 100), strings.Repeat("x", 100), strings.Repeat("\x00", 99), strings.Repeat("\xff", 100),
	}
	n := netWith(t, 1, 2)
	for _, text := range texts {
		does(t, n, "send 1 "+text, "send 2 "+text)
	}
	for _, who := range []string{"1", "2", "3"} {
		says(t, n, "send "+who+" "+strings.Repeat("x", 101), "bad")
		says(t, n, "send "+who+" "+strings.Repeat(" ", 101), "bad")
		says(t, n, "send "+who+" ", "bad")
	}
	ticks(t, n, 120)
	told(t, n, 1, texts...)
	told(t, n, 2, texts...)
}
