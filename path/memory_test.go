package path_test

import (
	"slices"
	"strings"
	"sync"
	"testing"
	"unsafe"

	"purlin/api"
	"purlin/path"
)

// P12.1, R4: what is handed in to Join stays as it is, its spare room too.
func TestJoinLeavesItsParts(t *testing.T) {
	for n := range 8 {
		room := []string{"a", "..", "", ".", "b/", "x", "y", "z"}
		before := slices.Clone(room)
		if got, want := path.Join(room[:n]...), joinedByHand(before[:n]); got != want {
			t.Errorf("Join(%q): %q, not %q", before[:n], got, want)
		}
		if !slices.Equal(room, before) {
			t.Errorf("Join of %d parts: then %q", n, room)
		}
	}
}

// P12.1, R4: what Join told stays as it is, whatever becomes of the parts.
func TestJoinKeepsNothing(t *testing.T) {
	for _, parts := range [][]string{{"a"}, {"a", "b"}, {"abc", "..", "d"}} {
		want := joinedByHand(parts)
		got := path.Join(parts...)
		for i := range parts {
			parts[i] = "other"
		}
		if got != want {
			t.Errorf("Join: then %q, not %q", got, want)
		}
	}
}

// P12.1, P12.2, R4: lists that were told share nothing with others, their spare room neither.
func TestAnswersShareNothing(t *testing.T) {
	for _, text := range []string{"/a", "/a/b", "/a/../b", "/a/b/c/d/e", "/", strings.Repeat("/a", 20)} {
		calls := []func() []string{
			func() []string { parts, _ := path.Split(text); return parts },
			func() []string { parts, _, _ := path.Target(text); return parts },
		}
		var lists [][]string
		for range 3 {
			for _, call := range calls {
				lists = append(lists, call())
			}
		}
		want := slices.Clone(lists[0])
		for k, list := range lists {
			if !slices.Equal(list, want) {
				t.Fatalf("%q: the %d-th: %q, not %q", text, k, list, want)
			}
			list = list[:cap(list)]
			for i := range list {
				list[i] = "other"
			}
		}
		for _, call := range calls {
			if got := call(); !slices.Equal(got, want) {
				t.Errorf("%q: behind it %q, not %q", text, got, want)
			}
		}
	}
}

// P12.1, P12.2, R4: what was told stays as it is, whatever becomes of the bytes of the text.
func TestNoMemoryOfTheText(t *testing.T) {
	b := []byte("/one/two/../three/./four")
	before := string(b)
	text := unsafe.String(&b[0], len(b))
	parts, _ := path.Split(text)
	clean, _ := path.Clean(text)
	ahead, last, _ := path.Last(text)
	told, _, _ := path.Target(text)
	joined := path.Join(text[1:4])
	clear(b)
	want, _ := splitByHand(before)
	if !slices.Equal(parts, want) || !slices.Equal(told, want) {
		t.Errorf("Split, Target: then %q, %q, not %q", parts, told, want)
	}
	if clean != "/one/three/four" || ahead != "/one/two/../three" || last != "four" || joined != "/one" {
		t.Errorf("Clean, Last, Join: then %q, %q, %q, %q", clean, ahead, last, joined)
	}
}

// R5: the calls may be made from several goroutines at one time.
func TestAtOneTime(t *testing.T) {
	shared := []string{"a", "..", "b"}
	var all sync.WaitGroup
	for range 8 {
		all.Go(func() {
			for range 200 {
				for _, text := range []string{"/a/../b", "a//b", "/", "", "/" + long(25, 'x'), strings.Repeat("/a", 20), longest(200), "/a\x00"} {
					agrees(t, text)
				}
				if got := path.Join(shared...); got != "/a/../b" {
					t.Errorf("Join: %q", got)
				}
			}
		})
	}
	all.Wait()
}

// R5: of the same text the same is told again, whatever was asked between.
func TestAgain(t *testing.T) {
	texts := []string{"/a/../b", "/a\x00", "/" + long(25, 'x'), "/..", "a", "/", longest(201), "/a/b/c"}
	for range 3 {
		for _, a := range texts {
			for _, b := range texts {
				agrees(t, a)
				agrees(t, b)
			}
		}
	}
	// The example of the chapter.
	if got, code := path.Clean("/a/../b/./c"); got != "/b/c" || code != api.OK {
		t.Errorf("Clean: %q, %d", got, code)
	}
}
