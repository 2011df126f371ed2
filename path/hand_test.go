package path_test

import (
	"slices"
	"strings"
	"testing"

	"purlin/api"
	"purlin/path"
)

// partsByHand walks t byte by byte and tells its parts as the chapter has them, of up to most bytes in all.
func partsByHand(t string, most int) ([]string, api.Errno) {
	var parts []string
	part, zero, long := "", false, len(t) > most
	for i := range len(t) + 1 {
		if i < len(t) && t[i] != '/' {
			zero = zero || t[i] == 0
			part += t[i : i+1]
			continue
		}
		if part != "" && part != "." {
			parts = append(parts, part)
			long = long || len(part) > 24
		}
		part = ""
	}
	switch {
	case t == "" || zero:
		return nil, api.ErrArg
	case long || len(parts) > 20:
		return nil, api.ErrLong
	}
	return parts, api.OK
}

// splitByHand tells what Split has to tell of p.
func splitByHand(p string) ([]string, api.Errno) {
	if p == "" || p[0] != '/' {
		return nil, api.ErrArg
	}
	return partsByHand(p, 200)
}

// joinedByHand tells a path of these parts.
func joinedByHand(parts []string) string {
	p := "/"
	for i, part := range parts {
		if i > 0 {
			p += "/"
		}
		p += part
	}
	return p
}

// cleanByHand tells what is left of parts, going down a name and up with each .. .
func cleanByHand(parts []string) string {
	var way []string
	for _, part := range parts {
		switch {
		case part != "..":
			way = append(way, part)
		case len(way) > 0:
			way = way[:len(way)-1]
		}
	}
	return joinedByHand(way)
}

// agrees asks that each call tells of t what is worked out by hand.
func agrees(t *testing.T, text string) {
	t.Helper()
	parts, code := splitByHand(text)
	if code != api.OK {
		refused(t, text, code)
	} else {
		splits(t, text, parts...)
		cleans(t, text, cleanByHand(parts))
		if n := len(parts); n == 0 || parts[n-1] == ".." {
			hasNoLast(t, text, api.ErrArg)
		} else {
			hasLast(t, text, joinedByHand(parts[:n-1]), parts[n-1])
		}
	}
	parts, code = partsByHand(text, 100)
	if code != api.OK {
		isNoTarget(t, text, code)
	} else {
		isTarget(t, text, text[0] == '/', parts...)
	}
}

// splits asks that p has these parts.
func splits(t *testing.T, p string, want ...string) {
	t.Helper()
	if got, code := path.Split(p); !slices.Equal(got, want) || code != api.OK {
		t.Errorf("Split(%q): %q, %d, not %q", p, got, code, want)
	}
}

// cleans asks that p is this path without its .. parts.
func cleans(t *testing.T, p, want string) {
	t.Helper()
	if got, code := path.Clean(p); got != want || code != api.OK {
		t.Errorf("Clean(%q): %q, %d, not %q", p, got, code, want)
	}
}

// hasLast asks that Last tells these two of p.
func hasLast(t *testing.T, p, ahead, last string) {
	t.Helper()
	if a, l, code := path.Last(p); a != ahead || l != last || code != api.OK {
		t.Errorf("Last(%q): %q, %q, %d, not %q, %q", p, a, l, code, ahead, last)
	}
}

// hasNoLast asks that Last tells just this code of p.
func hasNoLast(t *testing.T, p string, want api.Errno) {
	t.Helper()
	if a, l, code := path.Last(p); a != "" || l != "" || code != want {
		t.Errorf("Last(%q): %q, %q, %d, not %d", p, a, l, code, want)
	}
}

// refused asks that Split, Clean and Last tell just this code of p.
func refused(t *testing.T, p string, want api.Errno) {
	t.Helper()
	if got, code := path.Split(p); len(got) != 0 || code != want {
		t.Errorf("Split(%q): %q, %d, not %d", p, got, code, want)
	}
	if got, code := path.Clean(p); got != "" || code != want {
		t.Errorf("Clean(%q): %q, %d, not %d", p, got, code, want)
	}
	hasNoLast(t, p, want)
}

// isTarget asks that Target tells these parts of text, and whether it begins with a slash.
func isTarget(t *testing.T, text string, root bool, want ...string) {
	t.Helper()
	if got, on, code := path.Target(text); !slices.Equal(got, want) || on != root || code != api.OK {
		t.Errorf("Target(%q): %q, %v, %d, not %q, %v", text, got, on, code, want, root)
	}
}

// isNoTarget asks that Target tells just this code of text.
func isNoTarget(t *testing.T, text string, want api.Errno) {
	t.Helper()
	if got, on, code := path.Target(text); len(got) != 0 || on || code != want {
		t.Errorf("Target(%q): %q, %v, %d, not %d", text, got, on, code, want)
	}
}

// long is so many bytes, all x.
func long(n int, x byte) string {
	return strings.Repeat(string([]byte{x}), n)
}

// P12.1, P12.2: each call, of every text of up to eight bytes of those that are told apart.
func TestEachShortText(t *testing.T) {
	texts := []string{""}
	for range 9 {
		var next []string
		for _, text := range texts {
			agrees(t, text)
			for _, x := range []string{"/", ".", "a", "\x00"} {
				next = append(next, text+x)
			}
		}
		texts = next
	}
}

// P12.1, P12.2: each call, of texts of up to nine pieces such as stand in paths.
func TestMixedTexts(t *testing.T) {
	pieces := []string{
		"/", "//", "/.", "/./", "/..", "/../..", "/...", "/a", "/bc", "/.a", "/a.", "/..b", "a", ".", "..", "/ ", "/\xff", "/\n", "/é",
		"/" + long(23, 'x'), "/" + long(24, 'y'), "/" + long(24, '.'), "/a/b/c/d/e", "/../a", "/a/..",
	}
	bad := []string{"/" + long(25, 'z'), "\x00", "/" + long(25, '.'), "/a\x00b"}
	state := uint32(1)
	next := func(n int) int {
		state = state*1664525 + 1013904223
		return int(state>>8) % n
	}
	for i := range 60000 {
		text := ""
		for range 1 + next(9) {
			text += pieces[next(len(pieces))]
		}
		if i%10 == 0 {
			text += bad[next(len(bad))]
		}
		if i%20 == 0 {
			text += pieces[next(len(pieces))]
		}
		agrees(t, text)
	}
}
