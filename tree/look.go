package tree

import (
	"bytes"

	"purlin/api"
)

// stat tells what stands where the path p finds it.
func (t *Tree) stat(p string, itself bool) (api.Answer, api.Errno) {
	n, code := t.find(p, itself)
	if code != api.OK {
		return only(code)
	}
	return api.Answer{Kind: n.kind, N: n.size(), Links: n.names}, api.OK
}

// readLink tells the target of a link.
func (t *Tree) readLink(p string) (api.Answer, api.Errno) {
	n, code := t.find(p, true)
	switch {
	case code != api.OK:
		return only(code)
	case n.kind != api.KindLink:
		return only(api.ErrArg)
	}
	return api.Answer{Data: bytes.Clone(n.data)}, api.OK
}

// readDir tells the names of a directory.
func (t *Tree) readDir(p string) (api.Answer, api.Errno) {
	n, code := t.find(p, false)
	switch {
	case code != api.OK:
		return only(code)
	case n.kind != api.KindDir:
		return only(api.ErrNotDir)
	}
	return api.Answer{Names: n.list()}, api.OK
}
