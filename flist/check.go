package flist

import (
	"remora/api"
	"remora/meta"
	"remora/path"
)

// sumSize is how many bytes a Sum has.
const sumSize = 32

// ahead is what stands ahead of an entry in a list that may be so far.
type ahead struct {
	last   string          // the path right ahead, at first the top
	dirs   map[string]bool // the paths of directories, and the top
	groups int             // the greatest Group; the lesser ones are there, too
}

// refuses: why the entry, which may be by itself, may not stand behind these.
func (x *ahead) refuses(e api.Entry) api.Errno {
	switch {
	case e.Path == x.last:
		return api.ErrThere
	case path.Less(e.Path, x.last):
		return api.ErrRange
	case !x.dirs[path.Parent(e.Path)]:
		return api.ErrNotDir
	case e.Group > x.groups+1:
		return api.ErrForm
	}
	return api.OK
}

// add: the entry stands ahead of the next one.
func (x *ahead) add(e api.Entry) {
	x.last = e.Path
	if e.Kind == api.Dir {
		x.dirs[e.Path] = true
	}
	x.groups = max(x.groups, e.Group)
}

// refused: why the entry may not be by itself.
func refused(e api.Entry) api.Errno {
	switch {
	case e.Path == "" || !path.Right(e.Path):
		return api.ErrName
	case e.Kind != api.File && e.Kind != api.Dir && e.Kind != api.Link:
		return api.ErrKind
	case meta.Check(e.Meta) != api.OK || !rightFor(e):
		return api.ErrArg
	}
	return api.OK
}

// rightFor: may the entry's Size, Target, Sum and Group be those of its kind?
func rightFor(e api.Entry) bool {
	size := len(e.Target)
	switch e.Kind {
	case api.File:
		return size == 0 && within(e.Size, 0, api.MaxFile) && (e.Sum == "" || len(e.Sum) == sumSize) && e.Group >= 0
	case api.Dir:
		return size == 0 && within(e.Size, 0, api.MaxID) && e.Sum == "" && e.Group == 0
	}
	return within(size, 1, api.MaxTarget) && e.Size == size && e.Sum == "" && e.Group == 0
}

// within: is n from least to most?
func within(n, least, most int) bool {
	return n >= least && n <= most
}
