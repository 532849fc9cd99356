package store

import (
	"maps"
	"slices"

	"tabulary/api"
)

// The kinds of records, which are their first bytes.
const (
	kindStanding byte = 1 + iota
	kindGivenUp
	kindMoved
	kindSpoiled
)

// How many bytes the numbers of a record take.
const (
	kindBytes   = 1
	keyBytes    = 8
	shardBytes  = 1
	countBytes  = 2
	stripeBytes = 2
	cellBytes   = 2
)

// numbers reads a record: next is the next number, of so many bytes, and whole tells whether those that were read are just all of it.
type numbers struct {
	next  func(width int) uint64
	whole func() bool
}

// readers are what is done to a store by each kind of record; each tells whether the record goes. No record is of kind 0.
func readers() [kindSpoiled + 1]func(*Store, numbers) bool {
	return [...]func(*Store, numbers) bool{
		kindStanding: (*Store).readStanding,
		kindGivenUp:  (*Store).readGivenUp,
		kindMoved:    (*Store).readMoved,
		kindSpoiled:  (*Store).readSpoiled,
	}
}

// readAll does what records say, one behind the other, and tells whether all of them go.
func (s *Store) readAll(l [][]byte) bool {
	table := readers()
	for _, record := range l {
		n := numbersOf(record)
		kind := n.next(kindBytes)
		if kind >= uint64(len(table)) || table[kind] == nil || !table[kind](s, n) {
			return false
		}
	}
	return true
}

// readStanding reads that a shelf stands.
func (s *Store) readStanding(n numbers) bool {
	key, shard, count := n.next(keyBytes), n.next(shardBytes), n.next(countBytes)
	if s.has(key) || count > api.MaxBlocks {
		return false
	}
	cells := make([]int, count)
	for i := range cells {
		cells[i] = int(n.next(cellBytes))
	}
	if !n.whole() || !s.hold(cells...) {
		return false
	}
	s.shelves[key] = api.Shelf{Key: key, Shard: uint8(shard), Cells: cells}
	return true
}

// readGivenUp reads that a shelf is given up.
func (s *Store) readGivenUp(n numbers) bool {
	key := n.next(keyBytes)
	if !n.whole() || !s.has(key) {
		return false
	}
	s.remove(s.shelves[key])
	return true
}

// readMoved reads that a stripe's block lies in another cell.
func (s *Store) readMoved(n numbers) bool {
	key, stripe, cell := n.next(keyBytes), int(n.next(stripeBytes)), int(n.next(cellBytes))
	shelf := s.shelves[key]
	if !n.whole() || stripe >= len(shelf.Cells) || !s.hold(cell) {
		return false
	}
	s.move(shelf, stripe, cell)
	return true
}

// readSpoiled reads that a cell is spoiled.
func (s *Store) readSpoiled(n numbers) bool {
	cell := int(n.next(cellBytes))
	if !n.whole() || !s.hold(cell) {
		return false
	}
	s.spoil(cell)
	return true
}

// records are those that stand for the store as it is. The shelves come first; either way each cell would be free.
func (s *Store) records() [][]byte {
	var l [][]byte
	for _, key := range slices.Sorted(maps.Keys(s.shelves)) {
		l = append(l, standing(s.shelves[key]))
	}
	for _, cell := range s.spoiled {
		l = append(l, spoiled(cell))
	}
	return l
}

// standing is the record of a shelf that stands.
func standing(shelf api.Shelf) []byte {
	b := laid(keyed(kindStanding, shelf.Key), uint64(shelf.Shard), shardBytes)
	b = laid(b, uint64(len(shelf.Cells)), countBytes)
	for _, cell := range shelf.Cells {
		b = laid(b, uint64(cell), cellBytes)
	}
	return b
}

// givenUp is the record of one that is given up.
func givenUp(key uint64) []byte { return keyed(kindGivenUp, key) }

// moved is the record of a block that lies in another cell now.
func moved(key uint64, stripe, cell int) []byte {
	b := laid(keyed(kindMoved, key), uint64(stripe), stripeBytes)
	return laid(b, uint64(cell), cellBytes)
}

// spoiled is the record of a cell that is not used any more.
func spoiled(cell int) []byte {
	return laid([]byte{kindSpoiled}, uint64(cell), cellBytes)
}

// keyed is how a record of a kind begins that tells of a key.
func keyed(kind byte, key uint64) []byte { return laid([]byte{kind}, key, keyBytes) }

// laid puts a number behind bytes, the greatest byte first.
func laid(b []byte, number uint64, width int) []byte {
	for left := width - 1; left >= 0; left-- {
		b = append(b, byte(number>>(8*left)))
	}
	return b
}

// numbersOf reads a record. Past its end there are noughts alone, and it is never whole any more.
func numbersOf(record []byte) numbers {
	short := false
	next := func(width int) uint64 {
		if width > len(record) {
			short = true
			return 0
		}
		number := uint64(0)
		for _, c := range record[:width] {
			number = number<<8 | uint64(c)
		}
		record = record[width:]
		return number
	}
	whole := func() bool { return !short && len(record) == 0 }
	return numbers{next, whole}
}
