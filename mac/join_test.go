package mac_test

import (
	"slices"
	"strings"
	"testing"

	"roamwave/api"
	"roamwave/mac"
)

// TestExample is the document's.
func TestExample(t *testing.T) {
	l := []api.Item{{Channel: 2, Data: "ab"}, {Channel: 3}}
	s := "\x02\x00\x02ab\x03\x00\x00\x3f\x00\x00\x00"
	joins(t, l, 12, s)
	splits(t, s, l)
}

// TestNothingIsJoined: no items are a text too, of any size.
func TestNothingIsJoined(t *testing.T) {
	for _, l := range [][]api.Item{nil, {}} {
		joins(t, l, 0, "")
		joins(t, l, 1, "\x3f")
		joins(t, l, 2, "\x3f\x00")
		joins(t, l, 65535, "\x3f"+strings.Repeat("\x00", 65534))
	}
	splits(t, "", nil)
	splits(t, "\x3f", nil)
	splits(t, "\x3f\x00", nil)
	splits(t, "\x3f"+strings.Repeat("\x00", 65534), nil)
}

// TestRest: nothing, 63 alone, and 63 with noughts stand behind the items.
func TestRest(t *testing.T) {
	l := []api.Item{{Channel: 32, Data: "abc"}}
	whole := "\x20\x00\x03abc"
	for size, rest := range map[int]string{6: "", 7: "\x3f", 8: "\x3f\x00", 9: "\x3f\x00\x00"} {
		joins(t, l, size, whole+rest)
		splits(t, whole+rest, l)
	}
	for size := range 6 {
		joinIs(t, "three bytes", l, size, api.ErrLarge)
	}
}

// TestLengths: the higher byte of a length stands first.
func TestLengths(t *testing.T) {
	for n, head := range map[int]string{
		0: "\x01\x00\x00", 1: "\x01\x00\x01", 63: "\x01\x00\x3f", 255: "\x01\x00\xff", 256: "\x01\x01\x00", 257: "\x01\x01\x01",
		511: "\x01\x01\xff", 512: "\x01\x02\x00", 1024: "\x01\x04\x00", 1279: "\x01\x04\xff", 1280: "\x01\x05\x00", 1499: "\x01\x05\xdb", 1500: "\x01\x05\xdc",
	} {
		l := []api.Item{{Channel: 1, Data: long(n)}}
		joins(t, l, n+3, head+long(n))
		splits(t, head+long(n), l)
		joinIs(t, "a byte too few", l, n+2, api.ErrLarge)
		if n > 0 {
			splitIsNone(t, "a byte too few", head+long(n-1))
		}
	}
	for _, n := range []int{1501, 1502, 1535, 1536, 2048, 32768, 65532, 65535} {
		s := "\x01" + string([]byte{byte(n >> 8), byte(n)}) + long(n)
		splitIsNone(t, "an item that is too long", s[:min(len(s), 65535)])
	}
}

// TestChannels: each from 1 to 32 may be, and no other.
func TestChannels(t *testing.T) {
	for id := range 256 {
		l := []api.Item{{Channel: id, Data: "a"}}
		s := string([]byte{byte(id), 0, 1, 'a'})
		if id >= 1 && id <= 32 {
			joins(t, l, 4, s)
			splits(t, s, l)
			continue
		}
		joinIs(t, "no channel", l, 4, api.ErrArg)
		splitIsNone(t, "no channel", s)
	}
	for _, id := range wrongIDs {
		joinIs(t, "no channel", []api.Item{{Channel: id}}, 100, api.ErrArg)
		joinIs(t, "no channel behind one", []api.Item{{Channel: 1}, {Channel: id}}, 100, api.ErrArg)
	}
}

// TestSizes: a size that may not be is told, whatever there is to join.
func TestSizes(t *testing.T) {
	for _, size := range wrongSizes {
		joinIs(t, "nothing", nil, size, api.ErrArg)
		joinIs(t, "an item", []api.Item{{Channel: 1, Data: "a"}}, size, api.ErrArg)
		joinIs(t, "no item", []api.Item{{}}, size, api.ErrArg)
	}
}

// TestItemsThatMayNotBe: they are told ahead of too many bytes, wherever they stand.
func TestItemsThatMayNotBe(t *testing.T) {
	good := api.Item{Channel: 7, Data: long(1500)}
	for _, bad := range []api.Item{{}, {Channel: 33}, {Channel: 63}, {Channel: -1, Data: "a"}, {Channel: 1, Data: long(1501)}, {Channel: 32, Data: long(65536 + 5)}} {
		for at := range 4 {
			l := slices.Insert([]api.Item{good, good, good}, at, bad)
			for _, size := range []int{0, 1, 3, 4509, 6100, 65535} {
				joinIs(t, "an item that may not be", l, size, api.ErrArg)
			}
		}
	}
	joinIs(t, "items that may be", []api.Item{good, good, good}, 4508, api.ErrLarge)
	joinIs(t, "items that may be", []api.Item{good, good, good}, 0, api.ErrLarge)
}

// TestGreatest: a text of 65535 bytes may be full of items, great ones and small ones; what is more is refused.
func TestGreatest(t *testing.T) {
	small := make([]api.Item, 65535/3)
	for i := range small {
		small[i].Channel = 1 + i%32
	}
	great := make([]api.Item, 44)
	for i := range great {
		great[i] = api.Item{Channel: 32 - i%32, Data: long(1500)}
	}
	great[43].Data = long(65535 - 43*1503 - 3)
	for _, l := range [][]api.Item{small, great} {
		s := join(t, l, 65535)
		if len(s) != 65535 {
			t.Fatalf("a text of %d bytes", len(s))
		}
		splits(t, s, l)
		joinIs(t, "a byte too few", l, 65534, api.ErrLarge)
		joinIs(t, "an item more", append(slices.Clone(l), api.Item{Channel: 1}), 65535, api.ErrLarge)
		splitIsNone(t, "an item more", s+"\x01\x00\x00")
		splitIsNone(t, "a rest more", s+"\x3f")
	}
	splitIsNone(t, "a rest that is too long", "\x3f"+strings.Repeat("\x00", 65535))
	splitIsNone(t, "an item and a rest that is too long", "\x01\x00\x00\x3f"+strings.Repeat("\x00", 65532))
}

// TestMoreThanALength: many items are too large, however many they are.
func TestMoreThanALength(t *testing.T) {
	l := make([]api.Item, 50000)
	for i := range l {
		l[i] = api.Item{Channel: 1 + i%32, Data: long(1500)}
	}
	joinIs(t, "many items", l, 65535, api.ErrLarge)
	l[len(l)-1].Channel = 0
	joinIs(t, "many items, and one that may not be", l, 65535, api.ErrArg)
}

// TestRestIsNoughts: each other byte behind 63 is seen, wherever it stands.
func TestRestIsNoughts(t *testing.T) {
	whole := "\x05\x00\x01a"
	for at := range 9 {
		for _, x := range []byte{1, 2, 32, 63, 127, 128, 255} {
			rest := make([]byte, 9)
			rest[at] = x
			splitIsNone(t, "a rest of another byte", whole+"\x3f"+string(rest))
			splitIsNone(t, "a rest of another byte", "\x3f"+string(rest))
		}
	}
	splitIsNone(t, "an item in the rest", "\x3f\x00\x01\x00\x00")
	splitIsNone(t, "noughts without 63", whole+"\x00")
	splitIsNone(t, "noughts without 63", whole+"\x00\x00\x00")
	splitIsNone(t, "noughts without 63", "\x00\x00\x00")
}

// TestCutShort: a text that ends in an item's head or Data is none.
func TestCutShort(t *testing.T) {
	l := []api.Item{{Channel: 1, Data: "abc"}, {Channel: 63 - 32}, {Channel: 2, Data: "??\x00"}}
	s := join(t, l, need(l))
	ends := map[int]int{0: 0, 6: 1, 9: 2, 15: 3}
	for n := range len(s) + 1 {
		if items, whole := ends[n]; whole {
			splits(t, s[:n], l[:items])
			continue
		}
		splitIsNone(t, "a text that is cut", s[:n])
	}
}

// TestDataIsAnyBytes: 63, noughts and heads in the Data stay there.
func TestDataIsAnyBytes(t *testing.T) {
	all := make([]byte, 256)
	for i := range all {
		all[i] = byte(i)
	}
	l := []api.Item{
		{Channel: 4, Data: "\x3f"}, {Channel: 4, Data: "\x3f\x00\x00"}, {Channel: 1, Data: "\x01\x00\x00"},
		{Channel: 9, Data: string(all)}, {Channel: 9, Data: "\x00\x00\x00\x00"}, {Channel: 32, Data: "\xff\xfe\xff"},
	}
	for more := range 4 {
		splits(t, join(t, l, need(l)+more), l)
	}
}

// TestJoinedIsSplit: what is joined is split as it was, in any room that is large enough.
func TestJoinedIsSplit(t *testing.T) {
	var from source = 1
	for range 300 {
		l := from.items(from.below(12), []int{0, 3, 80, 1500}[from.below(4)])
		size := need(l) + from.below(5)*from.below(40)
		s := join(t, l, size)
		if len(s) != size {
			t.Fatalf("a text of %d bytes, not of %d", len(s), size)
		}
		splits(t, s, l)
	}
}

// TestSplitIsJoined: what Split takes is what Join makes of its items.
func TestSplitIsJoined(t *testing.T) {
	var from source = 2
	taken := 0
	for range 30000 {
		s := []byte(join(t, from.items(from.below(3), 4), 20))
		for range from.below(3) {
			s[from.below(len(s))] = byte([]int{0, 1, 3, 5, 32, 33, 63, 200}[from.below(8)])
		}
		s = s[:len(s)-from.below(2)*from.below(20)]
		l, err := mac.Split(string(s))
		if err == api.OK {
			taken++
			joins(t, l, len(s), string(s))
		} else {
			splitIsNone(t, "a text that was changed", string(s))
		}
	}
	if taken < 1000 || taken > 29000 {
		t.Errorf("%d of 30000 were taken: the test sees one side alone", taken)
	}
}
