package feed_test

import (
	"bytes"
	"math"
	"slices"
	"strings"
	"testing"

	"pestle/api"
	"pestle/feed"
)

const mostSize = 1 << 16

// made is a feed of a size that may be.
func made(t *testing.T, size int, lazy bool) *feed.Feed {
	t.Helper()
	f, e := feed.New(size, lazy)
	if f == nil || e != api.OK {
		t.Fatalf("New(%d, %v): %v %d", size, lazy, f, e)
	}
	return f
}

// text is n bytes of all kinds, that go on another way every 251 bytes, so that a block in a wrong place is seen.
func text(n int) string {
	b := make([]byte, n)
	for i := range b {
		b[i] = byte(i%251 + i/251)
	}
	return string(b)
}

// cut is the blocks and the rest that text comes to in a feed, by slices of the whole.
func cut(text string, size int, lazy bool) (blocks []string, rest string) {
	n := len(text) / size
	if lazy && n > 0 && len(text)%size == 0 {
		n--
	}
	for i := range n {
		blocks = append(blocks, text[i*size:(i+1)*size])
	}
	return blocks, text[n*size:]
}

// parted is text in parts of n bytes, the last one of what is left.
func parted(text string, n int) []string {
	var l []string
	for len(text) > n {
		l = append(l, text[:n])
		text = text[n:]
	}
	return append(l, text)
}

func texts(blocks [][]byte) []string {
	var l []string
	for _, b := range blocks {
		l = append(l, string(b))
	}
	return l
}

// holds tells of a feed that has not that size, that rest and that total.
func holds(t *testing.T, f *feed.Feed, size int, rest string, total int) {
	t.Helper()
	if f.Size() != size || string(f.Rest()) != rest || f.Total() != total {
		t.Errorf("size %d, rest %q, total %d, not %d, %q, %d", f.Size(), f.Rest(), f.Total(), size, rest, total)
	}
}

// puts tells of parts of which other blocks come.
func puts(t *testing.T, f *feed.Feed, parts []string, want ...string) {
	t.Helper()
	if l := texts(f.Put(parts...)); !slices.Equal(l, want) {
		t.Errorf("Put %q: %q, not %q", parts, l, want)
	}
}

// P4.1

func TestNew(t *testing.T) {
	for _, size := range []int{1, 2, 3, 4, 63, 64, 65, 128, 1024, mostSize - 1, mostSize} {
		for _, lazy := range []bool{false, true} {
			holds(t, made(t, size, lazy), size, "", 0)
		}
	}
}

func TestNewRefused(t *testing.T) {
	for _, size := range []int{math.MinInt, -1 << 32, -mostSize, -64, -2, -1, 0, mostSize + 1, mostSize + 2, 2 * mostSize, 1 << 32, 1<<32 + 4, api.Most, math.MaxInt} {
		for _, lazy := range []bool{false, true} {
			if f, e := feed.New(size, lazy); f != nil || e != api.ErrArg {
				t.Errorf("New(%d, %v): %v %d", size, lazy, f, e)
			}
		}
	}
}

func TestSizeStays(t *testing.T) {
	f := made(t, 3, true)
	for range 10 {
		f.Put("ab", "c")
		if f.Size() != 3 {
			t.Fatal(f.Size())
		}
	}
}

// P4.2

func TestPut(t *testing.T) {
	for _, c := range []struct {
		size  int
		lazy  bool
		parts []string
		want  []string
		rest  string
	}{
		{4, false, []string{"abc", "defgh"}, []string{"abcd", "efgh"}, ""},
		{4, true, []string{"abc", "defgh"}, []string{"abcd"}, "efgh"},
		{4, false, []string{"abc"}, nil, "abc"},
		{4, true, []string{"abc"}, nil, "abc"},
		{4, false, []string{"abcd"}, []string{"abcd"}, ""},
		{4, true, []string{"abcd"}, nil, "abcd"},
		{4, false, []string{"abcde"}, []string{"abcd"}, "e"},
		{4, true, []string{"abcde"}, []string{"abcd"}, "e"},
		{4, false, []string{"abcd", "", "e", "fgh", ""}, []string{"abcd", "efgh"}, ""},
		{4, true, []string{"abcd", "", "e", "fgh", ""}, []string{"abcd"}, "efgh"},
		{4, false, []string{"", "abcdefghijklm", ""}, []string{"abcd", "efgh", "ijkl"}, "m"},
		{4, true, []string{"abcdefghijkl"}, []string{"abcd", "efgh"}, "ijkl"},
		{4, false, nil, nil, ""},
		{4, true, []string{"", "", ""}, nil, ""},
		{1, false, []string{"abc"}, []string{"a", "b", "c"}, ""},
		{1, true, []string{"abc"}, []string{"a", "b"}, "c"},
		{1, true, []string{"a", "b"}, []string{"a"}, "b"},
		{2, false, []string{"\x00\xff\x00", "\x80"}, []string{"\x00\xff", "\x00\x80"}, ""},
		{2, true, []string{"\xc3", "\xa4\x00\x00"}, []string{"\xc3\xa4"}, "\x00\x00"},
	} {
		f := made(t, c.size, c.lazy)
		puts(t, f, c.parts, c.want...)
		holds(t, f, c.size, c.rest, len(strings.Join(c.parts, "")))
	}
}

// TestPutAgain: what is held from one call to the next, and that a lazy feed hands a whole block on as more comes, not before.
func TestPutAgain(t *testing.T) {
	f := made(t, 4, false)
	puts(t, f, []string{"abc"})
	puts(t, f, []string{"", ""})
	holds(t, f, 4, "abc", 3)
	puts(t, f, []string{"d"}, "abcd")
	holds(t, f, 4, "", 4)
	puts(t, f, nil)
	puts(t, f, []string{"e", "fghijk"}, "efgh")
	holds(t, f, 4, "ijk", 11)

	f = made(t, 4, true)
	puts(t, f, []string{"abc"})
	puts(t, f, []string{"d"})
	puts(t, f, []string{""})
	puts(t, f, nil)
	holds(t, f, 4, "abcd", 4)
	puts(t, f, []string{"e"}, "abcd")
	holds(t, f, 4, "e", 5)
	puts(t, f, []string{"fgh"})
	holds(t, f, 4, "efgh", 8)
	puts(t, f, []string{"ijkl"}, "efgh")
	puts(t, f, []string{"mnopq"}, "ijkl", "mnop")
	holds(t, f, 4, "q", 17)
}

// TestGreatBlocks: of the greatest size there is, about the ends of its blocks.
func TestGreatBlocks(t *testing.T) {
	all := text(3*mostSize + 1)
	for _, lazy := range []bool{false, true} {
		for _, n := range []int{mostSize - 1, mostSize, mostSize + 1, 2*mostSize - 1, 2 * mostSize, 2*mostSize + 1, len(all)} {
			blocks, rest := cut(all[:n], mostSize, lazy)
			for _, step := range []int{1, 1000, mostSize, n} {
				f := made(t, mostSize, lazy)
				if l := texts(f.Put(parted(all[:n], step)...)); !slices.Equal(l, blocks) || string(f.Rest()) != rest || f.Total() != n {
					t.Fatalf("%d bytes by %d, lazy %v: %d blocks, %d bytes left, total %d", n, step, lazy, len(l), len(f.Rest()), f.Total())
				}
			}
		}
	}
}

// TestAnswersAreNew: what is done to an answer is not seen in the feed, nor in another answer (R2).
func TestAnswersAreNew(t *testing.T) {
	for _, lazy := range []bool{false, true} {
		f := made(t, 4, lazy)
		f.Put("ab")
		for range 2 {
			rest := f.Rest()
			clear(rest)
			_ = append(rest[:1], "xxxxxxxx"...)
		}
		holds(t, f, 4, "ab", 2)
		l := f.Put("cdefghij")
		if !slices.Equal(texts(l), []string{"abcd", "efgh"}) {
			t.Fatalf("%q", l)
		}
		clear(l[0])
		_ = append(l[0], "xxxxxxxx"...)
		if string(l[1]) != "efgh" {
			t.Errorf("%q", l[1])
		}
		kept, rest := bytes.Clone(l[1]), f.Rest()
		m := f.Put("klmnopqr")
		if !slices.Equal(texts(m), []string{"ijkl", "mnop"}) || !bytes.Equal(l[1], kept) || string(rest) != "ij" || string(l[0]) != "\x00\x00\x00\x00" {
			t.Errorf("%q, %q, %q, rest %q", l, kept, m, rest)
		}
		for _, b := range m {
			clear(b)
		}
		clear(m)
		holds(t, f, 4, "qr", 18)
	}
}

// TestBlocksAreTheirOwners: a block that was held over several calls is not written any more once it is handed on.
func TestBlocksAreTheirOwners(t *testing.T) {
	for _, lazy := range []bool{false, true} {
		f := made(t, 3, lazy)
		var l [][]byte
		for _, b := range []byte("abcdefghijklm") {
			l = append(l, f.Put(string(b))...)
		}
		if !slices.Equal(texts(l), []string{"abc", "def", "ghi", "jkl"}) {
			t.Errorf("lazy %v: %q", lazy, l)
		}
		holds(t, f, 3, "m", 13)
	}
}

// TestPartsStay: the list that a call is given is as it was, and what lies behind its length does not come.
func TestPartsStay(t *testing.T) {
	l := []string{"ab", "cde", "fgh"}
	f := made(t, 4, false)
	puts(t, f, l[:2], "abcd")
	holds(t, f, 4, "e", 5)
	if !slices.Equal(l, []string{"ab", "cde", "fgh"}) {
		t.Error(l)
	}
}

// P4.3

func TestCopy(t *testing.T) {
	f := made(t, 4, true)
	f.Put("abc", "defgh")
	c := f.Copy()
	if c == f {
		t.Fatal("no feed by itself")
	}
	holds(t, c, 4, "efgh", 8)
	puts(t, c, []string{"i"}, "efgh")
	holds(t, f, 4, "efgh", 8)
	holds(t, c, 4, "i", 9)
	puts(t, f, []string{"xyz12"}, "efgh", "xyz1")
	holds(t, f, 4, "2", 13)
	holds(t, c, 4, "i", 9)
}

// TestCopyIsByItself: at each place within a block, of each kind, what comes to the one is not seen in the other.
func TestCopyIsByItself(t *testing.T) {
	all := text(40)
	for _, lazy := range []bool{false, true} {
		for n := range 20 {
			f := made(t, 8, lazy)
			for i := range n { // byte by byte, so that what is held has room behind it
				f.Put(all[i : i+1])
			}
			c, d := f.Copy(), f.Copy().Copy()
			for i := n; i < 24; i++ {
				f.Put(all[i : i+1])
				c.Put("\xee")
			}
			_, rest := cut(all[:24], 8, lazy)
			holds(t, f, 8, rest, 24)
			_, rest = cut(all[:n]+strings.Repeat("\xee", 24-n), 8, lazy)
			holds(t, c, 8, rest, 24)
			_, rest = cut(all[:n], 8, lazy)
			holds(t, d, 8, rest, n)
		}
	}
}

// TestCopyGoesOn: a copy, and the one that was copied, hand the same on.
func TestCopyGoesOn(t *testing.T) {
	all := text(60)
	for _, lazy := range []bool{false, true} {
		for size := 1; size < 20; size++ {
			for n := range len(all) {
				f := made(t, size, lazy)
				first := texts(f.Put(all[:n]))
				c := f.Copy()
				blocks, rest := cut(all, size, lazy)
				puts(t, f, []string{all[n:]}, blocks[len(first):]...)
				puts(t, c, []string{all[n:]}, blocks[len(first):]...)
				holds(t, f, size, rest, len(all))
				holds(t, c, size, rest, len(all))
			}
		}
	}
}

func TestNil(t *testing.T) {
	var f *feed.Feed
	if l := f.Put("abc", "defgh"); len(l) != 0 {
		t.Errorf("%q", l)
	}
	f.Put()
	holds(t, f, 0, "", 0)
	if c := f.Copy(); c != nil {
		t.Error(c)
	}
}

// TestNobodyMade: the calls of a feed that no call made end, and none panics (R1); what they answer is promised nowhere.
func TestNobodyMade(t *testing.T) {
	for _, f := range []*feed.Feed{{}, new(feed.Feed).Copy()} {
		f.Put()
		f.Put("", "abc", "defgh")
		f.Rest()
		f.Total()
		f.Size()
		f.Copy().Put("abc")
	}
}

// P4.4

// TestParts: however bytes are parted, within a call and over calls, the blocks and the rest are the bytes that came.
func TestParts(t *testing.T) {
	for _, lazy := range []bool{false, true} {
		for size := 1; size <= 9; size++ {
			for n := range 31 {
				all := text(n)
				blocks, rest := cut(all, size, lazy)
				if strings.Join(blocks, "")+rest != all {
					t.Fatalf("%q, %q", blocks, rest)
				}
				for step := 1; step <= n+1; step++ {
					parts := parted(all, step)
					f, g := made(t, size, lazy), made(t, size, lazy)
					var l []string
					total := 0
					for _, part := range parts {
						l = append(l, texts(f.Put(part))...)
						total += len(part)
						if _, want := cut(all[:total], size, lazy); string(f.Rest()) != want || f.Total() != total {
							t.Fatalf("size %d, lazy %v, %q: rest %q, total %d", size, lazy, all[:total], f.Rest(), f.Total())
						}
					}
					puts(t, g, parts, blocks...)
					holds(t, f, size, rest, n)
					holds(t, g, size, rest, n)
					if !slices.Equal(l, blocks) {
						t.Fatalf("size %d, lazy %v, %q by %d: %q, not %q", size, lazy, all, step, l, blocks)
					}
				}
			}
		}
	}
}

// TestAllPartings: of one text each way there is to part it, empty parts between.
func TestAllPartings(t *testing.T) {
	all := text(10)
	for _, lazy := range []bool{false, true} {
		for size := 1; size <= 11; size++ {
			blocks, rest := cut(all, size, lazy)
			for cuts := range 1 << (len(all) - 1) { // bit i: a part ends behind byte i
				var parts []string
				begin := 0
				for i := range len(all) - 1 {
					if cuts>>i&1 == 1 {
						parts = append(parts, all[begin:i+1], "")
						begin = i + 1
					}
				}
				f := made(t, size, lazy)
				puts(t, f, append(parts, all[begin:]), blocks...)
				holds(t, f, size, rest, len(all))
			}
		}
	}
}
