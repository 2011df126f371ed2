package dir_test

import (
	"math"
	"strings"
	"testing"

	"purlin/api"
	"purlin/dir"
)

// four is what a block holds.
type four = [4]api.Slot

// of makes a slot.
func of(ino, kind int, name string) api.Slot {
	return api.Slot{Ino: ino, Kind: kind, Name: name}
}

// long is a name of so many bytes, of which the last one tells it from others.
func long(n int, last byte) string {
	return strings.Repeat("n", n-1) + string([]byte{last})
}

// names are such as may be: the shortest, the longest, what is like . and .., and bytes of every sort.
func names() []string {
	return []string{
		"a", "Z", "0", "-", "~", " ", "\\", "*", "\x01", "\t", "\n", "\x7f", "\x80", "\xff",
		"...", "....", ".a", "a.", "..a", "a..", ".-", "-.", ". ", " .", ".. ", " ..", "\x01.", "..\x01", ".\xff", "\xc0\xae", "\xff\xff",
		"ab", "é", "日本", "\u2024", "no name", "NUL", "%00", "%2f", "a\\b", "a\u2215b",
		long(23, 'a'), long(24, 'a'), long(24, '.'), strings.Repeat(".", 23), strings.Repeat(".", 24), strings.Repeat("\xff", 24), strings.Repeat("日", 8), strings.Repeat(" ", 24),
	}
}

// noNames are such as may not be: none, too long, . and .., and such as have a byte that none may have.
func noNames() []string {
	return []string{
		"", ".", "..",
		long(25, 'a'), long(26, 'a'), long(32, 'a'), long(255, 'a'), long(256, 'a'), long(257, 'a'), long(280, 'a'), long(65536, 'a'), long(65537, 'a'), strings.Repeat(".", 25), strings.Repeat("日", 9), "abcdefghijklmnopqrstuvwé",
		"/", "//", "/a", "a/", "a/b", "./", "/.", "../", "/..", "a/..", "\xff/", "é/", strings.Repeat("/", 24), strings.Repeat("/", 25),
		"\x00", "\x00\x00", "\x00a", "a\x00", "a\x00b", ".\x00", "..\x00", "\x00..", "\xff\x00", "é\x00", strings.Repeat("\x00", 24), strings.Repeat("\x00", 25), "/\x00",
	}
}

// far are numbers that neither Ino nor Kind may be: also such as fewer bits would make one that may.
func far() []int {
	return []int{
		-1, -2, -3, -128, -255, -256, -32768, -65535, -65536, -65537, -1 << 31, -1<<31 + 1, -1 << 32, -1<<32 + 1, -1 << 48, math.MinInt, math.MinInt + 1,
		65536, 65537, 65538, 65536 + 255, 131071, 131072, 131073, 1 << 24, math.MaxInt32, 1 << 31, 1<<32 - 1, 1 << 32, 1<<32 + 1, 1<<40 + 1, 1 << 48, 1<<62 + 1, math.MaxInt - 1, math.MaxInt,
	}
}

// inos are such as may be: the least and the greatest, and those about a byte's end and a sign's.
func inos() []int {
	return []int{1, 2, 127, 128, 254, 255, 256, 257, 511, 512, 32767, 32768, 32769, 65279, 65280, 65534, 65535}
}

// may are slots that may be: free, each kind, the least and the greatest of each number, each name.
func may() []api.Slot {
	l := []api.Slot{{}}
	for _, ino := range inos() {
		for kind := 1; kind <= 3; kind++ {
			l = append(l, of(ino, kind, "a"), of(ino, kind, long(24, 'z')))
		}
	}
	for k, name := range names() {
		l = append(l, of(1+1000*k, 1+k%3, name))
	}
	return l
}

// none are slots that may not be: zero but for one field or two, or one that may, but for one field.
func none() []api.Slot {
	var l []api.Slot
	for _, x := range append(far(), 0) {
		l = append(l, of(x, 1, "a"), of(x, 3, long(24, 'z')), of(9, x, "a"))
		if x != 0 {
			l = append(l, of(x, 0, ""), of(0, x, ""), of(x, x, ""), of(x, x, "a"))
		}
	}
	for _, kind := range []int{0, 4, 5, 127, 128, 255, 256, 257, 258, 259, 512 + 1} {
		l = append(l, of(9, kind, "a"), of(65535, kind, long(24, 'z')))
	}
	for _, ino := range inos() {
		l = append(l, of(ino, 0, ""), of(ino, 2, ""), of(ino, 0, "a"))
	}
	for kind := 1; kind <= 3; kind++ {
		l = append(l, of(0, kind, ""), of(0, kind, "a"))
	}
	for _, name := range noNames() {
		l = append(l, of(9, 1, name), of(1, 2, name), of(65535, 3, name))
		if name != "" {
			l = append(l, of(0, 0, name))
		}
	}
	for _, name := range names() {
		l = append(l, of(0, 0, name))
	}
	return l
}

// P9.1: Name, of known ones.
func TestName(t *testing.T) {
	for _, s := range names() {
		if !dir.Name(s) {
			t.Errorf("Name(%q): false", s)
		}
	}
	for _, s := range noNames() {
		if dir.Name(s) {
			t.Errorf("Name(%q): true", s)
		}
	}
}

// P9.1: Name, of each byte at each place of a name of each length.
func TestNameOfEachByte(t *testing.T) {
	for n := 1; n <= 24; n++ {
		for at := range n {
			for x := range 256 {
				b := []byte(long(n, 'n'))
				b[at] = byte(x)
				want := x != '/' && x != 0 && string(b) != "."
				if dir.Name(string(b)) != want {
					t.Fatalf("Name(%q): %v", b, !want)
				}
			}
		}
	}
}

// P9.1: Name, of each length, and of every one of two bytes.
func TestNameOfEachLength(t *testing.T) {
	for n := range 300 {
		for _, c := range []string{"a", ".", "\xff", "\x01"} {
			want := n >= 1 && n <= 24 && !(c == "." && n <= 2)
			if s := strings.Repeat(c, n); dir.Name(s) != want {
				t.Errorf("Name(%q): %v", s, !want)
			}
		}
	}
	for x := range 65536 {
		a, b := byte(x/256), byte(x)
		want := a != 0 && b != 0 && a != '/' && b != '/' && !(a == '.' && b == '.')
		if s := string([]byte{a, b}); dir.Name(s) != want {
			t.Errorf("Name(%q): %v", s, !want)
		}
	}
}

// P9.1: May: free, each kind, each number's least and greatest, each name; and what lies past them.
func TestMay(t *testing.T) {
	for _, s := range may() {
		if !dir.May(s) {
			t.Errorf("May(%v): false", s)
		}
	}
	for _, s := range none() {
		if dir.May(s) {
			t.Errorf("May(%v): true", s)
		}
	}
}

// P9.1: May, of every number about the bounds, by Ino and by Kind apart.
func TestMayOfEachNumber(t *testing.T) {
	for x := -300; x < 70000; x++ {
		for _, c := range []struct {
			what string
			s    api.Slot
			want bool
		}{
			{"Ino", of(x, 1, "a"), x >= 1 && x <= 65535},
			{"Ino alone", of(x, 0, ""), x == 0},
			{"Ino, with no name", of(x, 2, ""), false},
			{"Ino, with no kind", of(x, 0, "a"), false},
			{"Kind", of(1, x, "a"), x >= 1 && x <= 3},
			{"Kind alone", of(0, x, ""), x == 0},
			{"Kind, with no name", of(1, x, ""), false},
			{"Kind, with no Ino", of(0, x, "a"), false},
		} {
			if dir.May(c.s) != c.want {
				t.Fatalf("May, by %s %d: %v", c.what, x, !c.want)
			}
		}
	}
}

// P9.1: Find: each slot by itself, all taken, none taken, and names that are nearly the same.
func TestFind(t *testing.T) {
	for k := range 4 {
		var ss four
		ss[k] = of(7, 1, "name")
		if got := dir.Find(ss, "name"); got != k {
			t.Errorf("Find in %v: %d", ss, got)
		}
		for _, near := range []string{"", "n", "nam", "name ", "names", "Name", "NAME", "ame", " name", "name\x00", "/name", "."} {
			if got := dir.Find(ss, near); got != -1 {
				t.Errorf("Find(%v, %q): %d", ss, near, got)
			}
		}
	}
	all := four{of(9, 1, "a"), of(9, 2, "b"), of(3, 3, "c"), of(65535, 1, long(24, 'd'))}
	for k, s := range all {
		if got := dir.Find(all, s.Name); got != k {
			t.Errorf("Find(%v, %q): %d", all, s.Name, got)
		}
	}
	for _, near := range []string{"", "d", "ab", "A", long(23, 'n'), long(23, 'd'), long(24, 'c'), long(25, 'd')} {
		if got := dir.Find(all, near); got != -1 {
			t.Errorf("Find(%v, %q): %d", all, near, got)
		}
	}
	for _, name := range append(names(), noNames()...) {
		if got := dir.Find(four{}, name); got != -1 {
			t.Errorf("Find in none, %q: %d", name, got)
		}
	}
}

// P9.1: Find, of slots that may not be: the first of several, only such as are taken, whatever else they have.
func TestFindTheFirst(t *testing.T) {
	one, two, free := of(5, 1, "x"), of(6, 2, "x"), of(0, 1, "x")
	for _, c := range []struct {
		ss   four
		name string
		want int
	}{
		{four{one, two, one, two}, "x", 0},
		{four{{}, two, one, two}, "x", 1},
		{four{free, {}, one, one}, "x", 2},
		{four{free, free, free, two}, "x", 3},
		{four{free, free, free, free}, "x", -1},
		{four{free, of(1, 0, ""), {}, of(2, 1, "")}, "", 1},
		{four{{}, {}, {}, {}}, "", -1},
		{four{of(-1, 9, "x"), one}, "x", 0},
		{four{of(9, 1, "y"), of(65536, 1, "x"), one}, "x", 1},
		{four{of(9, 1, "y"), of(1<<32, 1, "a/b"), one}, "a/b", 1},
		{four{0: of(9, 1, "."), 3: of(9, 1, "..")}, "..", 3},
	} {
		if got := dir.Find(c.ss, c.name); got != c.want {
			t.Errorf("Find(%v, %q): %d, not %d", c.ss, c.name, got, c.want)
		}
	}
}

// P9.1: Free: each choice of slots that are taken, by the first whose Ino is 0.
func TestFree(t *testing.T) {
	for taken := range 16 {
		var ss four
		want := -1
		for k := 3; k >= 0; k-- {
			if taken>>k&1 == 0 {
				want = k
				continue
			}
			ss[k] = of(1+k, 1, string([]byte{'a' + byte(k)}))
		}
		if got := dir.Free(ss); got != want {
			t.Errorf("Free(%v): %d, not %d", ss, got, want)
		}
	}
}

// P9.1: Free, of slots that may not be: Ino alone says whether one is free.
func TestFreeByInoAlone(t *testing.T) {
	for _, x := range append(far(), inos()...) {
		for k := range 4 {
			bare, full := four{}, four{of(x, 1, "a"), of(x, 0, ""), of(x, 9, "."), of(x, 3, "a")}
			bare[k] = of(x, 0, "")
			want := 0
			if k == 0 {
				want = 1
			}
			if got := dir.Free(bare); got != want {
				t.Errorf("Free(%v): %d, not %d", bare, got, want)
			}
			if got := dir.Free(full); got != -1 {
				t.Errorf("Free(%v): %d", full, got)
			}
			full[k] = of(0, 2, "taken")
			if got := dir.Free(full); got != k {
				t.Errorf("Free(%v): %d, not %d", full, got, k)
			}
		}
	}
}
