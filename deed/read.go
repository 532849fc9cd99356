package deed

import "tabulary/api"

// reader has the bytes that are still to be read. What it can not go on with it throws, so that the first thing that is met is the error.
type reader struct{ rest []byte }

// parsed reads all of the bytes as one thing. A face answers what it answers: what was thrown ends here.
func parsed[T any](b []byte, read func(*reader) T) (thing T, err api.Errno) {
	defer func() {
		thrown := recover()
		if refused, ok := thrown.(api.Errno); ok {
			err = refused
		} else if thrown != nil {
			// A fault of the program itself must not become an answer.
			panic(thrown)
		}
	}()
	r := &reader{b}
	whole := read(r)
	must(len(r.rest) == 0, api.ErrShape)
	return whole, api.OK
}

// must throws an error where what is asked does not hold.
func must(holds bool, err api.Errno) {
	if !holds {
		panic(err)
	}
}

func (r *reader) deed() api.Deed {
	var d api.Deed
	d.Kind = uint8(r.number(kindBytes))
	some := has(d.Kind)
	must(some&hasKind != 0, api.ErrArg)
	if some&hasId != 0 {
		d.Id = r.name(1)
	}
	if some&hasKey != 0 {
		d.Key = r.number(keyBytes)
	}
	if some&hasManifest != 0 {
		d.M = r.manifest()
	}
	return d
}

func (r *reader) reply() api.Reply {
	var a api.Reply
	a.Code = api.Errno(r.number(codeBytes))
	a.Paper = r.paper()
	for range r.count(api.MaxPapers) {
		a.Ids = append(a.Ids, r.name(1))
	}
	return a
}

func (r *reader) paper() api.Paper {
	var p api.Paper
	p.Id = r.name(0)
	p.Key = r.number(keyBytes)
	live := r.number(liveBytes)
	must(live <= 1, api.ErrArg)
	p.Live = live == 1
	p.M = r.manifest()
	return p
}

func (r *reader) manifest() api.Manifest {
	var m api.Manifest
	m.Size = uint32(r.number(sizeBytes))
	m.Stripes = uint16(r.number(stripesBytes))
	m.Whole = r.digest()
	for range r.count(api.MaxSide) {
		m.Shards = append(m.Shards, r.digest())
	}
	return m
}

func (r *reader) digest() api.Digest {
	var d api.Digest
	copy(d[:], r.take(len(d)))
	return d
}

// name is an archive's name of at least so many bytes; with none asked for, no name may stand there, too.
func (r *reader) name(least int) string {
	size := int(r.number(lengthBytes))
	must(least <= size && size <= api.MaxId, api.ErrId)
	s := string(r.take(size))
	must(s == "" || Id(s), api.ErrId)
	return s
}

// count is how many things stand behind it.
func (r *reader) count(most int) int {
	n := int(r.number(countBytes))
	must(n <= most, api.ErrLong)
	return n
}

// number is a number of so many bytes.
func (r *reader) number(width int) uint64 {
	n := uint64(0)
	for _, c := range r.take(width) {
		n = n<<8 | uint64(c)
	}
	return n
}

// take cuts bytes off those that are still to be read. The piece ends where it was cut, spare room too, so that nobody who has it comes to what is still to be read.
func (r *reader) take(size int) []byte {
	must(size <= len(r.rest), api.ErrShort)
	taken := r.rest[:size:size]
	r.rest = r.rest[size:]
	return taken
}
