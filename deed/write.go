package deed

import "tabulary/api"

// How many bytes the numbers take.
const (
	kindBytes    = 1
	codeBytes    = 2
	lengthBytes  = 1
	keyBytes     = 8
	liveBytes    = 1
	sizeBytes    = 4
	stripesBytes = 2
	countBytes   = 1
)

// writer has the bytes that were written. What it is handed was checked.
type writer struct{ b []byte }

func (w *writer) deed(d api.Deed) {
	some := has(d.Kind)
	w.number(uint64(d.Kind), kindBytes)
	if some&hasId != 0 {
		w.name(d.Id)
	}
	if some&hasKey != 0 {
		w.number(d.Key, keyBytes)
	}
	if some&hasManifest != 0 {
		w.manifest(d.M)
	}
}

func (w *writer) reply(r api.Reply) {
	w.number(uint64(r.Code), codeBytes)
	w.paper(r.Paper)
	w.number(uint64(len(r.Ids)), countBytes)
	for _, id := range r.Ids {
		w.name(id)
	}
}

func (w *writer) paper(p api.Paper) {
	w.name(p.Id)
	w.number(p.Key, keyBytes)
	live := uint64(0)
	if p.Live {
		live = 1
	}
	w.number(live, liveBytes)
	w.manifest(p.M)
}

func (w *writer) manifest(m api.Manifest) {
	w.number(uint64(m.Size), sizeBytes)
	w.number(uint64(m.Stripes), stripesBytes)
	w.b = append(w.b, m.Whole[:]...)
	w.number(uint64(len(m.Shards)), countBytes)
	for _, shard := range m.Shards {
		w.b = append(w.b, shard[:]...)
	}
}

func (w *writer) name(s string) {
	w.number(uint64(len(s)), lengthBytes)
	w.b = append(w.b, s...)
}

// number is a number of so many bytes.
func (w *writer) number(n uint64, width int) {
	for left := width - 1; left >= 0; left-- {
		w.b = append(w.b, byte(n>>(8*left)))
	}
}
