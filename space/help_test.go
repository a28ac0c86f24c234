package space_test

import (
	"bytes"
	"slices"
	"strings"
	"testing"

	"banyan/api"
	"banyan/space"
)

// counts are numbers of blocks at the limits, and beside the ends of words.
var counts = []int{16, 17, 31, 32, 33, 63, 64, 65, 100, 127, 128, 129, 1000, 65472, 65473, 65535, 65536}

// wrongCounts are numbers of blocks that no space has.
var wrongCounts = []int{15, 0, 1, -1, -16, 65537, 65552, 1 << 17, 1 << 31, 1<<32 + 16, 1<<63 - 1, -1 << 63}

// farNumbers are numbers that no block of any space has.
var farNumbers = []int{-1, -2, -16, -63, -64, -65, -65536, 65536, 65537, 65600, 1 << 31, 1 << 32, 1<<32 + 1, 1<<63 - 1, -1 << 63}

// set is a space as the chapter's words tell it: of each block whether it is used.
type set []bool

// setOf is one of so many blocks, of which these are used.
func setOf(blocks int, used ...int) set {
	s := make(set, blocks)
	for _, n := range used {
		s[n] = true
	}
	return s
}

// firstOf is one of so many blocks, of which the first ones are used.
func firstOf(blocks int, used int) set {
	s := make(set, blocks)
	for n := range used {
		s[n] = true
	}
	return s
}

// patterns are sets of so many blocks: none, all, each one alone, all but one, every other one, runs of several lengths.
func patterns(blocks int) []set {
	list := []set{setOf(blocks), firstOf(blocks, blocks)}
	for _, n := range []int{0, 1, 15, 62, 63, 64, 65, 127, 128, blocks - 2, blocks - 1} {
		if n < blocks {
			alone, without := setOf(blocks, n), firstOf(blocks, blocks)
			without[n] = false
			list = append(list, alone, without)
		}
	}
	for _, long := range []int{1, 2, 3, 7, 63, 64, 65} {
		for _, first := range []bool{false, true} {
			s := setOf(blocks)
			for n := range s {
				s[n] = n/long%2 == 0 == first
			}
			list = append(list, s)
		}
	}
	return list
}

func (s set) has(n int) bool { return n >= 0 && n < len(s) && s[n] }

func (s set) used() int {
	count := 0
	for _, used := range s {
		if used {
			count++
		}
	}
	return count
}

func (s set) alloc() (int, api.Errno) {
	n := slices.Index(s, false)
	if n < 0 {
		return 0, api.ErrFull
	}
	s[n] = true
	return n, api.OK
}

func (s set) take(n int) api.Errno {
	switch {
	case n < 0 || n >= len(s):
		return api.ErrSpaceRange
	case s[n]:
		return api.ErrSpaceUsed
	}
	s[n] = true
	return api.OK
}

func (s set) free(n int) api.Errno {
	switch {
	case n < 0 || n >= len(s):
		return api.ErrSpaceRange
	case !s[n]:
		return api.ErrSpaceFree
	}
	s[n] = false
	return api.OK
}

// runs go through the blocks one by one.
func (s set) runs() []api.Run {
	var list []api.Run
	for n, used := range s {
		switch {
		case !used:
		case n > 0 && s[n-1]:
			list[len(list)-1].Count++
		default:
			list = append(list, api.Run{From: n, Count: 1})
		}
	}
	return list
}

// digits are the four bytes of a number, the highest first.
func digits(n int) string {
	return string([]byte{byte(n / 16777216 % 256), byte(n / 65536 % 256), byte(n / 256 % 256), byte(n % 256)})
}

// text is bytes that tell these runs, whether they may be or not.
func text(runs ...api.Run) []byte {
	var b strings.Builder
	b.WriteString(digits(len(runs)))
	for _, r := range runs {
		b.WriteString(digits(r.From) + digits(r.Count))
	}
	return []byte(b.String())
}

// written is the bytes of a set, by the chapter's words.
func (s set) written() []byte { return text(s.runs()...) }

// readSet is the set of so many blocks whose bytes these are; nil, if there is none.
//
// It marks what the bytes may mean, and holds the bytes of that against them.
func readSet(blocks int, b []byte) set {
	s := setOf(blocks)
	for at := 4; at+8 <= len(b); at += 8 {
		from, count := value(b[at:at+4]), value(b[at+4:at+8])
		for n := from; n < blocks && n < from+count; n++ {
			s[n] = true
		}
	}
	if !bytes.Equal(s.written(), b) {
		return nil
	}
	return s
}

// value is the number that four bytes are.
func value(b []byte) int {
	return 16777216*int(b[0]) + 65536*int(b[1]) + 256*int(b[2]) + int(b[3])
}

// make is a space that is as the set says, made by New and Take.
func (s set) make(t *testing.T) *space.Space {
	t.Helper()
	first := slices.Index(s, false)
	if first < 0 {
		first = len(s)
	}
	made, err := space.New(len(s), first)
	if made == nil || err != api.OK {
		t.Fatalf("New(%d, %d): %v", len(s), first, err)
	}
	for n := first; n < len(s); n++ {
		if s[n] {
			want(t, "Take", made.Take(n), api.OK)
		}
	}
	return made
}

// want holds an answered number against the one that is asked.
func want(t *testing.T, what string, got api.Errno, asked api.Errno) {
	t.Helper()
	if got != asked {
		t.Errorf("%s: %v, want %v", what, got, asked)
	}
}

// tells holds all that a space tells, and changes nothing, against a set.
func tells(t *testing.T, what string, s *space.Space, asked set) {
	t.Helper()
	if s == nil {
		t.Fatalf("%s: no space", what)
	}
	used := asked.used()
	if s.Used() != used || s.Left() != len(asked)-used {
		t.Fatalf("%s: Used %d, Left %d, want %d, %d", what, s.Used(), s.Left(), used, len(asked)-used)
	}
	if runs := s.Runs(); !slices.Equal(runs, asked.runs()) {
		t.Fatalf("%s: Runs %.200v, want %.200v", what, runs, asked.runs())
	}
	if b := s.Encode(); !bytes.Equal(b, asked.written()) {
		t.Fatalf("%s: Encode %.200x, want %.200x", what, b, asked.written())
	}
	for n, is := range asked {
		if s.Has(n) != is {
			t.Fatalf("%s: Has(%d): %v", what, n, !is)
		}
	}
	for _, n := range append([]int{len(asked), len(asked) + 1, len(asked) + 64}, farNumbers...) {
		if s.Has(n) {
			t.Fatalf("%s: Has(%d), and there is no such block", what, n)
		}
	}
}

// decodes holds Decode against the model, and tells whether the bytes were taken.
func decodes(t *testing.T, blocks int, b []byte) bool {
	t.Helper()
	asked := readSet(blocks, b)
	s, err := space.Decode(blocks, b)
	if asked == nil {
		if s != nil || err != api.ErrSpaceForm {
			t.Fatalf("Decode(%d, %.200x): %v, want no space and ErrSpaceForm", blocks, b, err)
		}
		return false
	}
	if err != api.OK {
		t.Fatalf("Decode(%d, %.200x): %v, want OK", blocks, b, err)
	}
	tells(t, "Decode", s, asked)
	return true
}

// dice is a row of numbers that is the same in every run.
type dice uint64

// roll is a number from lo to hi.
func (d *dice) roll(lo int, hi int) int {
	*d = *d*6364136223846793005 + 1442695040888963407
	return lo + int(uint64(*d)>>33)%(hi-lo+1)
}

// thrown is a set of so many blocks whose runs have about that length.
func (d *dice) thrown(blocks int, long int) set {
	s, used := setOf(blocks), false
	for n := range s {
		if d.roll(1, long) == 1 {
			used = !used
		}
		s[n] = used
	}
	return s
}
