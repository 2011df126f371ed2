package path_test

import (
	"slices"
	"strings"
	"testing"

	"purlin/api"
)

// P12.2: Target, of known targets: with a slash ahead, with none, with two, of slashes alone.
func TestTarget(t *testing.T) {
	for _, x := range []struct {
		text string
		root bool
		want []string
	}{
		{"/", true, nil}, {"//", true, nil}, {"/////", true, nil}, {".", false, nil}, {"./", false, nil}, {"/.", true, nil}, {"././/.", false, nil}, {"/././", true, nil},
		{"a", false, []string{"a"}}, {"/a", true, []string{"a"}}, {"//a", true, []string{"a"}}, {"a/", false, []string{"a"}}, {"/a/", true, []string{"a"}}, {"a//", false, []string{"a"}},
		{"a/b", false, []string{"a", "b"}}, {"/a/b", true, []string{"a", "b"}}, {"//a//b//", true, []string{"a", "b"}}, {"./a/./b/.", false, []string{"a", "b"}}, {"a//b", false, []string{"a", "b"}},
		{"..", false, []string{".."}}, {"/..", true, []string{".."}}, {"../a", false, []string{"..", "a"}}, {"../../a/..", false, []string{"..", "..", "a", ".."}}, {"/a/../b", true, []string{"a", "..", "b"}},
		{"a/..", false, []string{"a", ".."}}, {"a/../b", false, []string{"a", "..", "b"}}, {"./..", false, []string{".."}}, {"..//..", false, []string{"..", ".."}},
		{"...", false, []string{"..."}}, {"/...", true, []string{"..."}}, {".../..", false, []string{"...", ".."}}, {".a/a.", false, []string{".a", "a."}}, {"..a", false, []string{"..a"}},
		{" ", false, []string{" "}}, {" /a", false, []string{" ", "a"}}, {"\\/a", false, []string{"\\", "a"}}, {"é/\xff", false, []string{"é", "\xff"}}, {"\n", false, []string{"\n"}},
	} {
		isTarget(t, x.text, x.root, x.want...)
	}
}

// P12.2: Target, of no byte, and of a 0 byte at each place, at every limit and beyond too.
func TestNoTarget(t *testing.T) {
	isNoTarget(t, "", api.ErrArg)
	for _, text := range []string{"/", "a", "/a", "a/b/../c", "//./..//a/", ".", "..", long(24, 'x'), longest(100), longest(150), strings.Repeat("a/", 20), strings.Repeat("/a", 21), long(25, 'x')} {
		for i := range len(text) {
			isNoTarget(t, text[:i]+"\x00"+text[i+1:], api.ErrArg)
			isNoTarget(t, text[:i]+"\x00"+text[i:], api.ErrArg)
		}
		isNoTarget(t, text+"\x00", api.ErrArg)
	}
	isNoTarget(t, long(1<<20, 'a')+"\x00", api.ErrArg)
}

// P12.2: Target, whose first byte is each one that may be: only / makes it one from the root on.
func TestFirstByteOfATarget(t *testing.T) {
	for x := 1; x < 256; x++ {
		b := string([]byte{byte(x)})
		switch b {
		case "/":
			isTarget(t, b+"a", true, "a")
			isTarget(t, b+"/a", true, "a")
		case ".":
			isTarget(t, b+"/a", false, "a")
		default:
			isTarget(t, b, false, b)
			isTarget(t, b+"/a", false, b, "a")
			isTarget(t, "/"+b, true, b)
			isTarget(t, "./"+b, false, b)
		}
	}
}

// P12.2: Target: texts of MaxTarget bytes and of more, of whatever they are.
func TestLengthOfATarget(t *testing.T) {
	for n := 1; n <= 220; n++ {
		for _, text := range []string{longest(n), longest(n + 1)[1:], long(n, '/'), strings.Repeat("./", n)[:n], strings.Repeat("/.", n)[:n], "a" + long(n-1, '/')} {
			if len(text) > 100 {
				isNoTarget(t, text, api.ErrLong)
				continue
			}
			agrees(t, text)
		}
	}
	isTarget(t, longest(100), true, slices.Repeat([]string{long(19, 'p')}, 5)...)
	isTarget(t, longest(101)[1:], false, slices.Repeat([]string{long(19, 'p')}, 5)...)
	isNoTarget(t, longest(100)+"/", api.ErrLong)
	isNoTarget(t, "/"+longest(100), api.ErrLong)
	isTarget(t, long(100, '/'), true)
	isNoTarget(t, long(101, '/'), api.ErrLong)
	isTarget(t, strings.Repeat("./", 50), false)
	isNoTarget(t, strings.Repeat("./", 50)+".", api.ErrLong)
	isNoTarget(t, longest(200), api.ErrLong)
	isNoTarget(t, longest(1<<20), api.ErrLong)
}

// P12.2: Target: parts of each length, at each place among others, up to MaxName and beyond.
func TestLengthOfATargetsPart(t *testing.T) {
	for n := 1; n <= 60; n++ {
		part := long(n, 'n')
		for _, ahead := range []string{"", "/", "a/", "../", "./", "/a/../"} {
			for _, behind := range []string{"", "/", "/b", "/..", "/."} {
				text := ahead + part + behind
				if n > 24 {
					isNoTarget(t, text, api.ErrLong)
					continue
				}
				agrees(t, text)
			}
		}
	}
	isTarget(t, long(24, '.')+"/"+long(24, 'm'), false, long(24, '.'), long(24, 'm'))
	isNoTarget(t, long(25, '.'), api.ErrLong)
	isNoTarget(t, long(100, 'a'), api.ErrLong)
}

// P12.2: Target: MaxParts parts and more, those that count and those that do not.
func TestCountOfATargetsParts(t *testing.T) {
	for n := 1; n <= 33; n++ {
		for _, part := range []string{"a", "..", "...", "a/."} {
			text := strings.Repeat(part+"/", n)
			if len(text) > 100 {
				continue
			}
			if n > 20 {
				isNoTarget(t, text, api.ErrLong)
				isNoTarget(t, "/"+text, api.ErrLong)
				continue
			}
			isTarget(t, text, false, slices.Repeat([]string{strings.TrimSuffix(part, "/.")}, n)...)
			isTarget(t, "/"+text[:len(text)-1], true, slices.Repeat([]string{strings.TrimSuffix(part, "/.")}, n)...)
		}
	}
	twenty := slices.Repeat([]string{"a"}, 20)
	isTarget(t, strings.Repeat("a//", 20), false, twenty...)
	isTarget(t, strings.Repeat("/./a", 20), true, twenty...)
	isTarget(t, strings.Repeat("a/", 20)+"././//.", false, twenty...)
	for _, text := range []string{strings.Repeat("a/", 20) + "a", strings.Repeat("a/", 20) + "..", "../" + strings.Repeat("a/", 20), strings.Repeat("a/../", 10) + "b", strings.Repeat("../", 21)} {
		isNoTarget(t, text, api.ErrLong)
	}
}
