package bits_test

import (
	"bytes"
	"testing"

	"roamwave/api"
	"roamwave/bits"
)

// lists are the calls that are handed bits and answer a list.
var lists = map[string]func(b []byte) ([]byte, api.Errno){
	"Sum":  func(b []byte) ([]byte, api.Errno) { return bits.Sum(b, api.Sum24) },
	"Seal": func(b []byte) ([]byte, api.Errno) { return bits.Seal(b, api.Sum11) },
	"Open": func(b []byte) ([]byte, api.Errno) {
		opened, _, err := bits.Open(b, api.Sum6)
		return opened, err
	},
	"Cover": func(b []byte) ([]byte, api.Errno) { return bits.Cover(b, 77) },
	"Pack": func(b []byte) ([]byte, api.Errno) {
		s, err := bits.Pack(b)
		return []byte(s), err
	},
}

// handed is a list of sealed bits with room behind it, and all of that room.
func handed(n int) (b, room []byte) {
	sealed, _ := bits.Seal(mixed(uint64(n), n), api.Sum6)
	room = append(sealed, bytes.Repeat([]byte{9}, 100)...)
	return room[:len(sealed)], room
}

// spoil all of a list, the room behind it too.
func spoil(b []byte) {
	b = b[:cap(b)]
	for i := range b {
		b[i] = 7
	}
}

func TestHandedInStays(t *testing.T) {
	for name, call := range lists {
		for _, n := range []int{0, 1, 8, 33, 1000} {
			b, room := handed(n)
			was := bytes.Clone(room)
			got, err := call(b)
			if err != api.OK || !bytes.Equal(room, was) {
				t.Errorf("%s, %d bits: changed what was handed in, or %v", name, n, err)
			}
			spoil(got)
			if !bytes.Equal(room, was) {
				t.Errorf("%s, %d bits: the answer shares what was handed in", name, n)
			}
		}
	}
}

func TestAnswerIsNew(t *testing.T) {
	for name, call := range lists {
		b, room := handed(33)
		was := bytes.Clone(b)
		first, _ := call(b)
		want := bytes.Clone(first)
		second, _ := call(b)
		spoil(second)
		spoil(room)
		if !bytes.Equal(first, want) {
			t.Errorf("%s: an answer changed later", name)
		}
		if third, _ := call(was); !bytes.Equal(third, want) {
			t.Errorf("%s: another answer to the same", name)
		}
	}
}

func TestAnswerOfNumbersIsNew(t *testing.T) {
	for name, call := range map[string]func() ([]byte, api.Errno){
		"Unpack": func() ([]byte, api.Errno) { return bits.Unpack("some text", 70) },
		"Noise":  func() ([]byte, api.Errno) { return bits.Noise(99, 70) },
		"Sum":    func() ([]byte, api.Errno) { return bits.Sum(nil, api.Sum16) },
	} {
		first, _ := call()
		want := bytes.Clone(first)
		second, _ := call()
		spoil(second)
		third, err := call()
		if err != api.OK || !bytes.Equal(first, want) || !bytes.Equal(third, want) {
			t.Errorf("%s: answers share memory", name)
		}
	}
}
