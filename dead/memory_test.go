package dead_test

import (
	"slices"
	"sync"
	"testing"

	"banyan/api"
	"banyan/dead"
)

// spoil writes into a list and into its spare room.
func spoil[T any](list []T, by T) {
	list = list[:cap(list)]
	for i := range list {
		list[i] = by
	}
}

// memoryLists are lists of no, one, some and many lives.
func memoryLists() []heap {
	r := dice(11)
	return []heap{nil, {life(7, 3, 5)}, {life(7, 3, 5), life(7, 5, 9), life(8, 1, 9)}, r.thrown(2, 500, 0, 4)}
}

// P3: the snapshots that Free is handed in, and what stands behind them, are not written into, nor kept.
func TestFreeLeavesSnapshots(t *testing.T) {
	for _, h := range memoryLists() {
		for _, end := range []int{0, 1, 2, 5, 6} {
			room := []uint64{9, 4, 9, 1, 4, 0, 77, 3, 78}
			l, asked := made(t, h...), slices.Clone(h)
			frees(t, l, &asked, room[:end])
			if !slices.Equal(room, []uint64{9, 4, 9, 1, 4, 0, 77, 3, 78}) {
				t.Fatalf("Free writes into what it is handed in: %d", room)
			}
			spoil(room, 12345)
			tells(t, "its snapshots were spoilt", l, asked)
			wantPages(t, "Free again", l.Free([]uint64{0, 1, 4, 9}[:0]), asked.free(nil)...)
		}
	}
}

// P3: answers are new memory: a list does not change with them, nor one with another.
func TestAnswersAreNew(t *testing.T) {
	for _, h := range memoryLists() {
		l := made(t, h...)
		lives, otherLives := l.Lives(), l.Lives()
		held, otherHeld := l.Held(4), l.Held(4)
		spoil(lives, life(-7, 9, 1))
		spoil(held, -9)
		if !slices.Equal(otherLives, h.inOrder()) {
			t.Fatal("lives change with others")
		}
		wantPages(t, "Held changes with others", otherHeld, h.held(4)...)
		tells(t, "its answers were spoilt", l, h)
		asked := slices.Clone(h)
		pages := l.Free([]uint64{4})
		spoil(pages, -3)
		wantPages(t, "Held changes with Free", otherHeld, asked.held(4)...)
		asked.free([]uint64{4})
		tells(t, "what Free told was spoilt", l, asked)
		x := life(65535, 1, 2)
		want(t, "Put behind that", l.Put(x), asked.put(x))
		spoil(l.Lives(), life(3, 3, 3))
		tells(t, "put behind that", l, asked)
	}
}

// P3: an answer stays as it was, whatever is done to the list.
func TestAnswersStay(t *testing.T) {
	for _, h := range memoryLists() {
		l := made(t, h...)
		lives, held := l.Lives(), l.Held(4)
		pages := l.Free([]uint64{2})
		told := slices.Clone(pages)
		for page := 65535; page > 65400; page-- {
			want(t, "Put", l.Put(life(page, 1, 2)), api.OK)
			want(t, "Put", l.Put(life(page-65398, 1<<40, 1<<41)), api.OK)
		}
		l.Free(nil)
		want(t, "Put", l.Put(life(2, 0, greatest)), api.OK)
		if !slices.Equal(lives, h.inOrder()) {
			t.Fatal("lives change with the list")
		}
		wantPages(t, "Held changes with the list", held, h.held(4)...)
		wantPages(t, "Free changes with the list", pages, told...)
	}
}

// P4: lists have nothing to do with one another: many hands, each on its own, go as they go alone.
func TestManyHands(t *testing.T) {
	var hands sync.WaitGroup
	for hand := range 8 {
		hands.Go(func() {
			r, l := dice(hand), dead.New()
			var asked heap
			for range 2000 {
				born := uint64(r.roll(0, 30))
				x := life(r.roll(1, 20), born, born+uint64(r.roll(0, 3)))
				if l.Put(x) != asked.put(x) {
					t.Error("one of many hands is told otherwise")
					return
				}
				if r.roll(0, 20) == 0 {
					snaps := r.snaps(3, 0, 30)
					if !slices.Equal(l.Free(snaps), asked.free(snaps)) {
						t.Error("one of many hands frees otherwise")
						return
					}
				}
			}
			if !slices.Equal(l.Lives(), asked.inOrder()) {
				t.Error("a hand's list is not as it must be")
			}
		})
	}
	hands.Wait()
}
