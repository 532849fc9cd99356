package deed

import "tabulary/api"

// What a deed may have, each a bit. That its kind is one is among them, so that a kind that is none has nothing.
const (
	hasKind uint8 = 1 << iota
	hasId
	hasKey
	hasManifest
)

// has tells what a kind has: a kind that falls through has what the one below it has, and more.
func has(kind uint8) uint8 {
	some := uint8(0)
	switch kind {
	case api.Begin, api.Drop:
		some |= hasKey
		fallthrough
	case api.Find:
		some |= hasId
		fallthrough
	case api.List:
		some |= hasKind
	case api.Finish:
		some |= hasKind | hasKey | hasManifest
	}
	return some
}

// hasOnly says whether all that a deed has beside some is zero.
func hasOnly(d api.Deed, some uint8) bool {
	return (some&hasId != 0 || d.Id == "") &&
		(some&hasKey != 0 || d.Key == 0) &&
		(some&hasManifest != 0 || isBlank(d.M))
}

// isBlank says whether a manifest is zero.
func isBlank(m api.Manifest) bool {
	return m.Size == 0 && m.Stripes == 0 && m.Whole == api.Digest{} && len(m.Shards) == 0
}
