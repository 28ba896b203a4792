package flist

import (
	"remora/api"
	"remora/meta"
	"remora/num"
)

// withSum is what a Kind has more, if a Sum is laid.
const withSum = 4

// laid: an entry that may be, as bytes; last is the path ahead.
func laid(e api.Entry, last string) []byte {
	like := alike(e.Path, last)
	kind := e.Kind
	if e.Sum != "" {
		kind += withSum
	}
	out := num.PutText(num.Put(nil, like), e.Path[like:])
	out = num.Put(num.Put(out, kind), e.Size)
	about, _ := meta.Bytes(e.Meta) // which may be, as the entry may
	out = append(out, about...)
	if e.Kind == api.Link {
		out = num.PutText(out, e.Target)
	}
	out = append(out, e.Sum...)
	if e.Kind == api.File {
		out = num.Put(out, e.Group)
	}
	return out
}

// alike: of how many bytes both are like each other, from the beginning on.
func alike(a, b string) int {
	most := min(len(a), len(b))
	for i := range most {
		if a[i] != b[i] {
			return i
		}
	}
	return most
}

// reader is who reads a list, thing by thing. Behind the first error, which stays, all that is read is zero.
type reader struct {
	b    []byte
	at   int
	err  api.Errno
	last string // the path ahead, but no more of it than tells that it is too long
	size int    // how many bytes the path ahead has
}

// readList: all entries that stand in body, whether the list may be or not.
func readList(body []byte) ([]api.Entry, api.Errno) {
	r := reader{b: body}
	var out []api.Entry
	for range r.number() {
		if r.err != api.OK { // how many there are is only said: they may end long ahead of that
			break
		}
		out = append(out, r.entry())
	}
	r.refuse(r.at < len(r.b), api.ErrForm)
	if r.err != api.OK {
		return nil, r.err
	}
	return out, api.OK
}

// entry: the next entry.
func (r *reader) entry() api.Entry {
	e := api.Entry{Path: r.path()}
	kind := r.kind()
	e.Kind = kind % withSum
	e.Size = r.number()
	e.Meta = r.meta()
	if e.Kind == api.Link {
		e.Target = r.text(api.MaxTarget)
	}
	if kind > withSum {
		e.Sum = r.sum(e.Kind)
	}
	if e.Kind == api.File {
		e.Group = r.number()
	}
	return e
}

// path: the next path, or the beginning of one that is too long.
func (r *reader) path() string {
	like := r.number()
	r.refuse(like > r.size, api.ErrForm)
	rest := r.text(api.MaxPath)
	if r.err != api.OK {
		return ""
	}
	r.size = like + len(rest)
	p := r.last[:min(like, len(r.last))] + rest
	// No more than that is kept: else few bytes, each path longer than the one ahead, would be read as very many.
	r.last = p[:min(len(p), api.MaxPath+1)]
	return r.last
}

// kind: the next Kind, with the 4, if it has a Sum.
func (r *reader) kind() int {
	kind := r.number()
	r.refuse(kind%withSum == 0 || kind > withSum+api.Link, api.ErrKind)
	return kind
}

// sum: the Sum that stands next, of an entry of that Kind.
func (r *reader) sum(kind int) string {
	r.refuse(kind != api.File, api.ErrArg)
	r.refuse(len(r.b)-r.at < sumSize, api.ErrEnd)
	if r.err != api.OK {
		return ""
	}
	from := r.at
	r.at += sumSize
	return string(r.b[from:r.at])
}

// number: the next number.
func (r *reader) number() int {
	if r.err != api.OK {
		return 0
	}
	n, behind, err := num.Get(r.b, r.at)
	r.at, r.err = behind, err
	return n
}

// text: the next text, of at most so many bytes.
func (r *reader) text(most int) string {
	if r.err != api.OK {
		return ""
	}
	s, behind, err := num.GetText(r.b, r.at, most)
	r.at, r.err = behind, err
	return s
}

// meta: the next meta.
func (r *reader) meta() api.Meta {
	if r.err != api.OK {
		return api.Meta{}
	}
	m, behind, err := meta.Read(r.b, r.at)
	r.at, r.err = behind, err
	return m
}

// refuse: if that is wrong, it is an error, unless there was one ahead.
func (r *reader) refuse(wrong bool, err api.Errno) {
	if wrong && r.err == api.OK {
		r.err = err
	}
}
