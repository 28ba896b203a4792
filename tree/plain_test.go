package tree

import (
	"slices"
	"strings"

	"remora/api"
	"remora/meta"
	"remora/path"
)

// thing is what a path of the plain tree leads to.
type thing struct {
	kind, ino int
	meta      api.Meta
	text      string
}

// plain is a tree as the chapter says it, with nothing but a thing for each path.
type plain struct {
	at   map[string]*thing
	last int
}

func newPlain() *plain {
	return &plain{at: map[string]*thing{"": {kind: api.Dir, ino: 1, meta: api.Meta{Mode: 493}}}, last: 1}
}

// in: the paths of all that stands right in a directory.
func (x *plain) in(p string) []string {
	var out []string
	for q := range x.at {
		if q != "" && path.Parent(q) == p {
			out = append(out, q)
		}
	}
	return path.Sort(out)
}

// below: the paths of all that stands below p.
func (x *plain) below(p string) []string {
	var out []string
	for q := range x.at {
		if q != p && path.Under(q, p) {
			out = append(out, q)
		}
	}
	return path.Sort(out)
}

func (x *plain) look(p string) (*thing, api.Errno) {
	if !path.Right(p) {
		return nil, api.ErrName
	}
	if p == "" {
		return x.at[""], api.OK
	}
	dir := x.at[path.Parent(p)]
	if dir == nil {
		return nil, api.ErrNone
	}
	if dir.kind != api.Dir {
		return nil, api.ErrNotDir
	}
	return x.at[p], api.OK
}

// find: the error of looking p up; ErrNone.
func (x *plain) find(p string) (*thing, api.Errno) {
	y, err := x.look(p)
	if err == api.OK && y == nil {
		err = api.ErrNone
	}
	return y, err
}

// file: likewise; then ErrIsDir, ErrKind.
func (x *plain) file(p string) (*thing, api.Errno) {
	y, err := x.find(p)
	if err == api.OK && y.kind == api.Dir {
		err = api.ErrIsDir
	}
	if err == api.OK && y.kind == api.Link {
		err = api.ErrKind
	}
	return y, err
}

// free: the error of looking p up; ErrThere.
func (x *plain) free(p string) api.Errno {
	y, err := x.look(p)
	if err == api.OK && y != nil {
		err = api.ErrThere
	}
	return err
}

// wrong: ErrName; ErrArg of a meta.
func wrong(p string, m api.Meta) api.Errno {
	if !path.Right(p) {
		return api.ErrName
	}
	return meta.Check(m)
}

// first: the first error of those.
func first(l ...api.Errno) api.Errno {
	for _, err := range l {
		if err != api.OK {
			return err
		}
	}
	return api.OK
}

// when: err, if that is so.
func when(is bool, err api.Errno) api.Errno {
	if is {
		return err
	}
	return api.OK
}

func (x *plain) add(p string, kind int, m api.Meta, text string) {
	x.last++
	x.at[p] = &thing{kind, x.last, m, text}
}

func (x *plain) names(p string) []string {
	y, err := x.find(p)
	if err != api.OK || p == "" {
		return nil
	}
	var out []string
	for q, z := range x.at {
		if z.ino == y.ino {
			out = append(out, q)
		}
	}
	return path.Sort(out)
}

func (x *plain) stat(p string) (api.Stat, api.Errno) {
	y, err := x.find(p)
	if err != api.OK {
		return api.Stat{}, err
	}
	s := api.Stat{Kind: y.kind, Ino: y.ino, Size: len(y.text), Links: 1, Meta: y.meta}
	switch y.kind {
	case api.Dir:
		s.Size = len(x.in(p))
	case api.File:
		s.Links = len(x.names(p))
	case api.Link:
		s.Target = y.text
	}
	return s, api.OK
}

func (x *plain) read(p string) (string, api.Errno) {
	y, err := x.file(p)
	if err != api.OK {
		return "", err
	}
	return y.text, api.OK
}

func (x *plain) list(p string) ([]string, api.Errno) {
	y, err := x.find(p)
	if err == api.OK && y.kind != api.Dir {
		err = api.ErrNotDir
	}
	if err != api.OK {
		return nil, err
	}
	var out []string
	for _, q := range x.in(p) {
		out = append(out, path.Base(q))
	}
	slices.Sort(out)
	return out, api.OK
}

func (x *plain) mkdir(p string, m api.Meta) api.Errno {
	err := first(wrong(p, m), x.free(p))
	if err == api.OK {
		x.add(p, api.Dir, m, "")
	}
	return err
}

func (x *plain) symlink(p, target string, m api.Meta) api.Errno {
	err := first(wrong(p, m), when(target == "", api.ErrArg), when(len(target) > 200, api.ErrBig), x.free(p))
	if err == api.OK {
		x.add(p, api.Link, m, target)
	}
	return err
}

func (x *plain) write(p, b string, m api.Meta) api.Errno {
	y, err := x.file(p)
	err = first(wrong(p, m), when(len(b) > 65536, api.ErrBig), err)
	switch {
	case err == api.OK:
		y.text, y.meta = b, m
	case err == api.ErrNone && x.free(p) == api.OK:
		x.add(p, api.File, m, b)
		return api.OK
	}
	return err
}

func (x *plain) append(p, b string) api.Errno {
	y, err := x.file(p)
	if err == api.OK && len(y.text)+len(b) > 65536 {
		err = api.ErrBig
	}
	if err == api.OK {
		y.text += b
	}
	return err
}

func (x *plain) link(old, p string) api.Errno {
	y, err := x.file(old)
	err = first(when(!path.Right(old) || !path.Right(p), api.ErrName), err, x.free(p))
	if err == api.OK {
		x.at[p] = y
	}
	return err
}

func (x *plain) remove(p string) api.Errno {
	_, err := x.find(p)
	err = first(when(!path.Right(p), api.ErrName), when(p == "", api.ErrArg), err, when(len(x.below(p)) > 0, api.ErrBusy))
	if err == api.OK {
		delete(x.at, p)
	}
	return err
}

func (x *plain) set(p string, m api.Meta) api.Errno {
	y, err := x.find(p)
	err = first(wrong(p, m), err)
	if err == api.OK {
		y.meta = m
	}
	return err
}

func (x *plain) rename(old, p string) api.Errno {
	y, err := x.find(old)
	err = first(when(!path.Right(old) || !path.Right(p), api.ErrName), when(old == "" || p == "", api.ErrArg), err)
	if err != api.OK {
		return err
	}
	if y.kind == api.Dir && strings.HasPrefix(p, old+"/") {
		return api.ErrArg
	}
	z, err := x.look(p)
	if err != api.OK {
		return err
	}
	if y.kind == api.Dir {
		return x.moveDir(old, p)
	}
	if z != nil && z.kind == api.Dir {
		return api.ErrIsDir
	}
	if z != nil && z.ino == y.ino {
		return api.OK
	}
	delete(x.at, old)
	x.at[p] = y
	return api.OK
}

func (x *plain) moveDir(old, p string) api.Errno {
	if x.at[p] != nil {
		return api.ErrThere
	}
	l := x.below(old)
	for _, q := range l {
		if !path.Right(p + strings.TrimPrefix(q, old)) {
			return api.ErrBig
		}
	}
	for _, q := range append(l, old) {
		x.at[p+strings.TrimPrefix(q, old)] = x.at[q]
		delete(x.at, q)
	}
	return api.OK
}

// copy: a plain tree of its own.
func (x *plain) copy() *plain {
	out := &plain{at: map[string]*thing{}, last: x.last}
	made := map[*thing]*thing{}
	for p, y := range x.at {
		if made[y] == nil {
			z := *y
			made[y] = &z
		}
		out.at[p] = made[y]
	}
	return out
}

// alike: are both the same, but for Inos and numbers to come?
func alike(x, y *plain) bool {
	if len(x.at) != len(y.at) {
		return false
	}
	for p, a := range x.at {
		b := y.at[p]
		if b == nil || a.kind != b.kind || a.meta != b.meta || a.text != b.text || !slices.Equal(x.names(p), y.names(p)) {
			return false
		}
	}
	return true
}
