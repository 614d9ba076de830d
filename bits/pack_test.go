package bits_test

import (
	"strings"
	"testing"

	"roamwave/api"
	"roamwave/bits"
)

func TestPackOrdinary(t *testing.T) {
	for _, row := range []struct{ b, want string }{
		{"", ""},
		{"0", "\x00"},
		{"1", "\x80"},
		{"101", "\xa0"},
		{"0000001", "\x02"},
		{"00000001", "\x01"},
		{"11111111", "\xff"},
		{"000000001", "\x00\x80"},
		{"0110100001101001", "hi"},
		{"10100000" + "00000001" + "11", "\xa0\x01\xc0"},
	} {
		if s, err := bits.Pack(list(row.b)); s != row.want || err != api.OK {
			t.Errorf("%s: %q, %v; want %q", row.b, s, err, row.want)
		}
	}
	if s, err := bits.Pack(nil); s != "" || err != api.OK {
		t.Errorf("nil: %q, %v", s, err)
	}
}

func TestPackWrong(t *testing.T) {
	for what, row := range wrongBits() {
		if s, err := bits.Pack(row.b); s != "" || err != row.want {
			t.Errorf("%s: %q, %v; want %v", what, s, err, row.want)
		}
	}
	for x := 2; x < 256; x++ {
		if s, err := bits.Pack([]byte{1, byte(x), 0}); s != "" || err != api.ErrArg {
			t.Errorf("%d: %q, %v", x, s, err)
		}
	}
}

func TestUnpackOrdinary(t *testing.T) {
	for _, row := range []struct {
		s    string
		n    int
		want string
	}{
		{"", 0, ""},
		{"\xff", 0, ""},
		{"\xa0", 3, "101"},
		{"\xa0", 8, "10100000"},
		{"\xa0\x01", 16, "1010000000000001"},
		{"\x00\x80", 9, "000000001"},
		{"\xff\xff\xff", 9, "111111111"},
		{"hi", 16, "0110100001101001"},
	} {
		b, err := bits.Unpack(row.s, row.n)
		same(t, row.s, b, err, row.want)
	}
}

func TestUnpackEdges(t *testing.T) {
	whole := strings.Repeat("\x0f", api.MaxBits/8)
	longer := whole + strings.Repeat("\xff", 100)
	for _, s := range []string{whole, longer} {
		b, err := bits.Unpack(s, api.MaxBits)
		same(t, "all", b, err, strings.Repeat("00001111", api.MaxBits/8))
	}
	for _, row := range []struct {
		s    string
		n    int
		want api.Errno
	}{
		{"", 1, api.ErrArg},
		{"", -1, api.ErrArg},
		{"a", 9, api.ErrArg},
		{"a", -1, api.ErrArg},
		{longer, -1, api.ErrArg},
		{longer, api.MaxBits + 1, api.ErrLarge},
		{longer, 8 * len(longer), api.ErrLarge},
		{longer, 8*len(longer) + 1, api.ErrArg},
		{whole, api.MaxBits + 1, api.ErrArg},
	} {
		b, err := bits.Unpack(row.s, row.n)
		if b != nil || err != row.want {
			t.Errorf("%d bytes, %d: %v, %v; want %v", len(row.s), row.n, b, err, row.want)
		}
	}
	for _, n := range extremes {
		b, err := bits.Unpack(longer, n)
		refused(t, "extreme", b, err, api.ErrArg)
	}
}

func TestPackAndBack(t *testing.T) {
	sizes := []int{100, 1000, api.MaxBits - 1, api.MaxBits}
	for n := range 70 {
		sizes = append(sizes, n)
	}
	for _, n := range sizes {
		b := mixed(uint64(n), n)
		s, err := bits.Pack(b)
		if err != api.OK || len(s) != (n+7)/8 {
			t.Fatalf("%d: %d bytes, %v", n, len(s), err)
		}
		back, err := bits.Unpack(s, n)
		same(t, "back", back, err, text(b))
		rest, err := bits.Unpack(s, 8*len(s))
		same(t, "what is left", rest, err, text(b)+strings.Repeat("0", 8*len(s)-n))
	}
}
