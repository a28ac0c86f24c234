package bulk_test

import (
	"bytes"
	"fmt"
	"math"
	"slices"
	"strings"
	"testing"

	"banyan/api"
	"banyan/bulk"
	"banyan/leaf"
)

// cuts holds what Leaves tells of entries that may be against the chapter's words, and P15.3.
func cuts(t *testing.T, size int, l []api.Entry, fill int) []int {
	t.Helper()
	counts, err := bulk.Leaves(size, l, fill)
	if want := cut(size, l, fill); err != api.OK || !slices.Equal(counts, want) {
		t.Fatalf("Leaves(%d, %s, %d): %v, %v, want %v", size, shown(l), fill, counts, err, want)
	}
	at := 0
	for i, n := range counts {
		if err := leaf.Check(size, l[at:at+n]); err != api.OK || n < 1 {
			t.Fatalf("Leaves(%d, %s, %d): the leaf %d has %d entries: %v", size, shown(l), fill, i, n, err)
		}
		if i < len(counts)-1 && 100*bytesOf(l[at:at+n+1]) <= fill*(size-32) {
			t.Fatalf("Leaves(%d, %s, %d): the leaf %d would have room for one more", size, shown(l), fill, i)
		}
		at += n
	}
	if at != len(l) {
		t.Fatalf("Leaves(%d, .., %d): %v make up %d, not %d", size, fill, counts, at, len(l))
	}
	return counts
}

// refused holds what Leaves answers to what may not be.
func refused(t *testing.T, what string, size int, l []api.Entry, fill int, want api.Errno) {
	t.Helper()
	if counts, err := bulk.Leaves(size, l, fill); len(counts) != 0 || err != want {
		t.Errorf("%s: Leaves(%d, .., %d): %v, %v, want %v", what, size, fill, counts, err, want)
	}
}

// The chapter's examples.
func TestLeavesExamples(t *testing.T) {
	nine := letters(9, 100)
	if n := bytesOf(nine[:4]); n != 109+3*107 || leaf.Bytes(nine[:4]) != n {
		t.Errorf("four of the examples have %d bytes", n)
	}
	for _, x := range []struct {
		l    []api.Entry
		fill int
		want []int
	}{
		{nine, 100, []int{4, 4, 1}}, {nine, 50, []int{2, 2, 2, 2, 1}}, {nil, 70, nil}, {[]api.Entry{}, 70, nil}, {nine[:1], 50, []int{1}},
	} {
		if counts := cuts(t, 512, x.l, x.fill); !slices.Equal(counts, x.want) {
			t.Errorf("of %d, fill %d: %v, want %v", len(x.l), x.fill, counts, x.want)
		}
	}
	refused(t, "one, fill 49", 512, nine[:1], 49, api.ErrArg)
	refused(t, "b, a", 512, []api.Entry{entry("b", ""), entry("a", "")}, 70, api.ErrBulkOrder)
	refused(t, "an empty key", 512, []api.Entry{entry("", "")}, 70, api.ErrLeafKey)
}

// K1, P15.3: thrown entries, at every size and with every fill.
func TestLeavesThrown(t *testing.T) {
	for _, size := range sizes {
		t.Run(fmt.Sprint(size), func(t *testing.T) {
			t.Parallel()
			r := dice(size)
			for fill := 50; fill <= 100; fill++ {
				for _, most := range []int{1, 2, 3, 10, 40, 150} {
					cuts(t, size, r.rising(size, most), fill)
				}
			}
		})
	}
}

// exact are entries that have just so many bytes, as many of them with the longest value as can be.
func exact(size int, long int) []api.Entry {
	const head = 6 + 1
	var l []api.Entry
	for rest := long - 2; rest > 0; {
		take := min(rest, head+size/4)
		if left := rest - take; left > 0 && left < head {
			take -= head
		}
		l = append(l, entry(string([]byte{byte(1 + len(l))}), strings.Repeat("v", take-head)))
		rest -= take
	}
	return l
}

// A leaf has just as many bytes as it may, one less, and would have one more: at every size and with every fill.
func TestLeavesJustFull(t *testing.T) {
	for _, size := range sizes {
		for fill := 50; fill <= 100; fill++ {
			most := (size - 32) * fill / 100
			last := entry("\xff", "")
			for _, x := range []struct {
				long int
				more int // of the entries ahead of the last one that are in another leaf
			}{{most, 0}, {most - 1, 0}, {most - 6, 0}, {most + 1, 1}} {
				l := exact(size, x.long)
				if leaf.Bytes(l) != x.long {
					t.Fatalf("%d bytes, not %d", leaf.Bytes(l), x.long)
				}
				n := len(l)
				if counts := cuts(t, size, append(l, last), fill); !slices.Equal(counts, []int{n - x.more, 1 + x.more}) {
					t.Errorf("size %d, fill %d, %d of %d bytes: %v", size, fill, x.long, most, counts)
				}
				if counts := cuts(t, size, l, fill); len(counts) != 1+x.more {
					t.Errorf("size %d, fill %d, %d of %d bytes alone: %v", size, fill, x.long, most, counts)
				}
			}
			l := append(exact(size, most-7), last)
			if counts := cuts(t, size, l, fill); !slices.Equal(counts, []int{len(l)}) {
				t.Errorf("size %d, fill %d, with the last one just full: %v", size, fill, counts)
			}
		}
	}
}

// What a key has alike with the one ahead is left out, but for the first one of a leaf.
func TestLeavesAlike(t *testing.T) {
	for _, size := range sizes {
		long := strings.Repeat("k", size/16-2)
		var l []api.Entry
		for i := range 2000 {
			l = append(l, entry(long+string([]byte{byte(i >> 8), byte(i)}), ""))
		}
		first := cuts(t, size, l, 100)[0]
		// Each one behind the first has 7 bytes, at the most once 8 for 256 of them.
		if want := 1 + (size-32-2-6-size/16)/7; first < want-3 || first > want {
			t.Errorf("size %d: %d entries in a leaf, want some %d", size, first, want)
		}
	}
}

// The longest keys and values may be, and one byte more may not, at every size, in the first entry and in others.
func TestLeavesLimits(t *testing.T) {
	for _, size := range sizes {
		for n := range 4 {
			ahead := letters(n, 3)
			with := func(key string, value int) []api.Entry {
				return append(slices.Clone(ahead), api.Entry{Key: []byte(key), Value: make([]byte, value)})
			}
			long := strings.Repeat("z", size/16)
			for fill := 50; fill <= 100; fill++ {
				cuts(t, size, with(long, size/4), fill)
				cuts(t, size, with("z", 0), fill)
			}
			refused(t, "a long key", size, with(long+"z", 0), 50, api.ErrLeafKey)
			refused(t, "a long key and a long value", size, with(long+"z", size/4+1), 50, api.ErrLeafKey)
			refused(t, "a long key that does not rise, if there is one ahead", size, with(strings.Repeat("\x00", size/16+1), 0), 50, api.ErrLeafKey)
			refused(t, "an empty key", size, with("", 0), 100, api.ErrLeafKey)
			refused(t, "an empty key and a long value", size, with("", size/4+1), 100, api.ErrLeafKey)
			refused(t, "a long value", size, with("z", size/4+1), 100, api.ErrLeafValue)
			refused(t, "a long value, and a key that does not rise, if there is one ahead", size, with("\x00", size/4+1), 100, api.ErrLeafValue)
			if n > 0 {
				refused(t, "a key that does not rise", size, with("\x00", 0), 50, api.ErrBulkOrder)
				refused(t, "a key like the one ahead", size, with(string(ahead[n-1].Key), 0), 50, api.ErrBulkOrder)
			}
		}
	}
	refused(t, "a beginning of the key ahead", 512, []api.Entry{entry("ab", ""), entry("a", "")}, 50, api.ErrBulkOrder)
	refused(t, "bytes are held against one another as numbers", 512, []api.Entry{entry("\xff", ""), entry("a", "")}, 50, api.ErrBulkOrder)
}

// Sizes and fills that may not be: ErrArg, ahead of what is wrong with entries, and of no entries too.
func TestLeavesArg(t *testing.T) {
	for _, l := range [][]api.Entry{nil, letters(3, 3), {entry("", "")}, {entry("b", ""), entry("a", "")}} {
		for _, size := range []int{0, -512, 1, 511, 513, 256, 768, 8192, math.MaxInt, math.MinInt} {
			for _, fill := range []int{49, 50, 100} {
				refused(t, "a size", size, l, fill, api.ErrArg)
			}
		}
		for _, size := range sizes {
			for _, fill := range []int{49, 101, 0, -50, 1000, math.MaxInt, math.MinInt} {
				refused(t, "a fill", size, l, fill, api.ErrArg)
			}
		}
	}
}

// Of several entries that may not be the first one is told, wherever the leaves are cut.
func TestLeavesFirstFault(t *testing.T) {
	faults := []struct {
		e    api.Entry
		want api.Errno
	}{{entry("", ""), api.ErrLeafKey}, {entry("zz", strings.Repeat("v", 129)), api.ErrLeafValue}, {entry("\x00", ""), api.ErrBulkOrder}}
	for at := 1; at < 9; at++ {
		for _, one := range faults {
			for _, other := range faults {
				l := append(letters(at, 100), one.e)
				l = append(append(l, letters(3, 100)...), other.e)
				refused(t, fmt.Sprintf("at %d", at), 512, l, 80, one.want)
			}
		}
	}
}

// P3: entries, and what stands behind them, are left alone; answers are new memory.
func TestLeavesMemory(t *testing.T) {
	room := bytes.Repeat([]byte("abcdefgh"), 50)
	var spare []api.Entry
	for i := range 8 {
		spare = append(spare, api.Entry{Key: room[i : i+1+i%3], Value: room[i : i+100]})
	}
	l := spare[:5]
	asked, kept := slices.Clone(room), shown(spare)
	one, _ := bulk.Leaves(512, l, 60)
	other, _ := bulk.Leaves(512, l, 60)
	refused(t, "refused", 512, append(l[:5:5], entry("", "")), 60, api.ErrLeafKey)
	if !bytes.Equal(room, asked) || shown(spare) != kept {
		t.Error("what is handed in is written into")
	}
	if len(one) < 2 || !slices.Equal(one, other) {
		t.Fatalf("%v, and %v", one, other)
	}
	want := slices.Clone(other)
	for i := range one[:cap(one)] {
		one[:cap(one)][i] = -1
	}
	if !slices.Equal(other, want) {
		t.Error("two answers share memory")
	}
}
