package tree

import (
	"iter"
	"maps"
	"slices"
	"strings"

	"remora/api"
	"remora/path"
)

// node is a thing of a tree.
type node struct {
	kind   int
	ino    int
	names  int
	meta   api.Meta
	text   string           // a file's bytes, or a link's target: never changed in place, so that copies may have it, too
	things map[string]*node // what stands in a directory, by the last parts
}

// place is where a path leads to: the directory (of the top none), the last part, and what stands there, or nil.
type place struct {
	dir   *node
	part  string
	thing *node
}

// put: the thing stands at the place, by one name more.
func (at place) put(n *node) {
	// A part of its own: else all of the path that was handed in would be kept.
	at.dir.things[strings.Clone(at.part)] = n
	n.names++
}

// cut: the name at the place is gone.
func (at place) cut() {
	delete(at.dir.things, at.part)
	at.thing.names--
}

// moveDir: the directory stands at another place, whose path is p.
func moveDir(from, to place, p string) api.Errno {
	if to.thing != nil {
		return api.ErrThere
	}
	for q := range from.thing.each(p) {
		if !path.Right(q) {
			return api.ErrBig
		}
	}
	from.cut()
	to.put(from.thing)
	return api.OK
}

// moveName: a name of a file, or of a link, stands at another place.
func moveName(from, to place) api.Errno {
	switch {
	case to.thing == from.thing:
		return api.OK
	case to.thing != nil && to.thing.kind == api.Dir:
		return api.ErrIsDir
	case to.thing != nil:
		to.cut()
	}
	from.cut()
	to.put(from.thing)
	return api.OK
}

// size: how many bytes or things it has.
func (n *node) size() int {
	if n.kind == api.Dir {
		return len(n.things)
	}
	return len(n.text)
}

// noFile: the error of who wants a file.
func (n *node) noFile() api.Errno {
	switch n.kind {
	case api.Dir:
		return api.ErrIsDir
	case api.Link:
		return api.ErrKind
	}
	return api.OK
}

// parts: the last parts of all that stands in it, rising.
func (n *node) parts() []string {
	return slices.Sorted(maps.Keys(n.things))
}

// each: goes through all that stands below it, in order of paths, if it stands at p.
func (n *node) each(p string) iter.Seq2[string, *node] {
	return func(yield func(string, *node) bool) {
		n.tell(p, yield)
	}
}

// tell: tells all that stands below it, as long as more is wanted; is it still?
func (n *node) tell(p string, yield func(string, *node) bool) bool {
	for _, part := range n.parts() {
		q, x := part, n.things[part]
		if p != "" {
			q = p + "/" + part
		}
		if !yield(q, x) || !x.tell(q, yield) {
			return false
		}
	}
	return true
}

// count: how many names stand below it.
func (n *node) count() int {
	out := len(n.things)
	for _, x := range n.things {
		out += x.count()
	}
	return out
}

// copied: the thing, with all below it, anew; made are those that are there already, by their numbers, since a file may be met by several names.
func (n *node) copied(made map[int]*node) *node {
	if x, ok := made[n.ino]; ok {
		return x
	}
	out := *n
	made[n.ino] = &out
	if n.kind == api.Dir {
		out.things = make(map[string]*node, len(n.things))
		for part, x := range n.things {
			out.things[part] = x.copied(made)
		}
	}
	return &out
}

// same: are both things the same, with all below them? Met are the numbers of those of the one that were looked at, with the other one's.
func same(x, y *node, met map[int]int) bool {
	if ino, ok := met[x.ino]; ok {
		return ino == y.ino
	}
	met[x.ino] = y.ino
	// With as many names each, and all of the one's among the other's, these have none beyond them.
	if x.kind != y.kind || x.names != y.names || x.meta != y.meta || x.text != y.text || len(x.things) != len(y.things) {
		return false
	}
	for part, below := range x.things {
		other, ok := y.things[part]
		if !ok || !same(below, other, met) {
			return false
		}
	}
	return true
}
