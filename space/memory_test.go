package space_test

import (
	"bytes"
	"slices"
	"sync"
	"testing"

	"banyan/api"
	"banyan/space"
)

// spoil writes into bytes and into their spare room.
func spoil(b []byte) {
	b = b[:cap(b)]
	for i := range b {
		b[i] ^= 0xa5
	}
}

// spoilRuns writes into runs and into their spare room.
func spoilRuns(list []api.Run) {
	list = list[:cap(list)]
	for i := range list {
		list[i] = api.Run{From: -7, Count: -9}
	}
}

// memorySets are sets of no, one, some and many runs.
func memorySets() []set {
	r := dice(3)
	return []set{setOf(16), firstOf(64, 64), setOf(16, 0, 2, 3, 9, 15), r.thrown(1000, 2), r.thrown(65536, 5)}
}

// P3: what Decode is handed in, and what stands behind it, is not written into, nor kept.
func TestDecodeLeavesBytes(t *testing.T) {
	for _, asked := range memorySets() {
		b := asked.written()
		for _, end := range []int{len(b), len(b) - 1, 4, 3, 0} {
			room := append(bytes.Clone(b), "spare room"...)
			s, err := space.Decode(len(asked), room[:end])
			if string(room) != string(b)+"spare room" {
				t.Fatal("Decode writes into what it is handed in")
			}
			spoil(room)
			if err == api.OK {
				tells(t, "its bytes were spoilt", s, readSet(len(asked), b[:end]))
			}
		}
	}
}

// P3: answers are new memory: a space does not change with them, nor one with another.
func TestAnswersAreNew(t *testing.T) {
	for _, asked := range memorySets() {
		s := asked.make(t)
		c := s.Copy()
		runs, otherRuns, copyRuns := s.Runs(), s.Runs(), c.Runs()
		b, other, copied := s.Encode(), s.Encode(), c.Encode()
		spoil(b)
		spoilRuns(runs)
		if !bytes.Equal(other, asked.written()) || !bytes.Equal(copied, asked.written()) {
			t.Fatal("bytes change with others")
		}
		if !slices.Equal(otherRuns, asked.runs()) || !slices.Equal(copyRuns, asked.runs()) {
			t.Fatal("runs change with others")
		}
		tells(t, "its answers were spoilt", s, asked)
		tells(t, "the copy's", c, asked)
	}
}

// P3: an answer stays as it was, whatever is done to the space.
func TestAnswersStay(t *testing.T) {
	for _, asked := range memorySets() {
		s := asked.make(t)
		runs, b := s.Runs(), s.Encode()
		for n := range asked {
			if s.Take(n) != api.OK {
				s.Free(n)
			}
		}
		if !bytes.Equal(b, asked.written()) || !slices.Equal(runs, asked.runs()) {
			t.Fatal("an answer changes with the space")
		}
	}
}

// P4: spaces have nothing to do with one another: copies that many hands change at once, each its own, go as they go alone.
func TestManyHands(t *testing.T) {
	r := dice(5)
	asked := r.thrown(1000, 3)
	s := asked.make(t)
	var hands sync.WaitGroup
	for hand := range 8 {
		x := &twin{s.Copy(), slices.Clone(asked)}
		hands.Go(func() {
			mine := dice(hand)
			for range 2000 {
				if !x.step(&mine) {
					t.Error("one of many hands is told otherwise")
					return
				}
			}
			if !bytes.Equal(x.s.Encode(), x.asked.written()) {
				t.Error("a hand's space is not as it must be")
			}
		})
	}
	hands.Wait()
	tells(t, "what was copied", s, asked)
}
