package wire

import "tabulary/api"

// The fields that a message may have beside its type, each a bit.
const (
	hasView uint16 = 1 << iota
	hasNormal
	hasOp
	hasCommit
	hasLog
	hasClient
	hasSeq
	hasBody
	hasKey
	hasShard
	hasStripe
	hasCode
	hasBlocks
)

// How many bytes the numbers of a message take.
const (
	typeBytes   = 1
	longBytes   = 8
	placeBytes  = 1
	entryBytes  = 1
	bodyBytes   = 2
	shardBytes  = 1
	stripeBytes = 4
	codeBytes   = 2
	blockBytes  = 2
)

// maxCode is the greatest number that has codeBytes bytes.
const maxCode = 1<<(8*codeBytes) - 1

// has tells which fields a type has: none, if the type is none.
func has(kind uint8) uint16 {
	table := [...]uint16{
		api.Prepare:  hasView | hasOp | hasCommit | hasLog,
		api.Prepared: hasView | hasOp,
		api.Change:   hasView,
		api.Vote:     hasView | hasNormal | hasCommit | hasLog,
		api.Lead:     hasView | hasCommit | hasLog,
		api.Ask:      hasView,
		api.Request:  hasClient | hasSeq | hasBody,
		api.Answer:   hasClient | hasSeq | hasBody,
		api.Put:      hasKey | hasShard | hasBlocks,
		api.Kept:     hasKey | hasShard | hasCode,
		api.Get:      hasKey,
		api.Have:     hasKey | hasShard | hasCode | hasBlocks,
		api.Mend:     hasKey | hasStripe | hasBlocks,
		api.Mended:   hasKey | hasStripe | hasCode,
	}
	if int(kind) >= len(table) {
		return 0
	}
	return table[kind]
}

// known are the fields of a type that must be one.
func known(kind uint8) uint16 {
	some := has(kind)
	must(some != 0, api.ErrArg)
	return some
}

// fields are a message's fields, each of which is gone over by a pen.
type fields api.Message

// field is one that a message may have, and what goes over it.
type field struct {
	bit  uint16
	pass func(*fields, pen)
}

// inOrder are the fields in the order in which they stand as bytes.
func inOrder() [13]field {
	return [...]field{
		{hasView, (*fields).view},
		{hasNormal, (*fields).normal},
		{hasOp, (*fields).op},
		{hasCommit, (*fields).commit},
		{hasLog, (*fields).log},
		{hasClient, (*fields).client},
		{hasSeq, (*fields).seq},
		{hasBody, (*fields).body},
		{hasKey, (*fields).key},
		{hasShard, (*fields).shard},
		{hasStripe, (*fields).stripe},
		{hasCode, (*fields).code},
		{hasBlocks, (*fields).blocks},
	}
}

// whole goes over the type, and then over the fields that it has.
func (f *fields) whole(p pen) {
	f.Type = uint8(p.number(uint64(f.Type), typeBytes))
	f.pass(p, known(f.Type))
}

// pass goes over some of the fields.
func (f *fields) pass(p pen, some uint16) {
	for _, one := range inOrder() {
		if some&one.bit != 0 {
			one.pass(f, p)
		}
	}
}

func (f *fields) view(p pen)   { f.View = p.number(f.View, longBytes) }
func (f *fields) normal(p pen) { f.Normal = p.number(f.Normal, longBytes) }
func (f *fields) op(p pen)     { f.Op = p.count(f.Op, api.MaxLog, placeBytes, api.ErrArg) }
func (f *fields) commit(p pen) { f.Commit = p.count(f.Commit, api.MaxLog, placeBytes, api.ErrArg) }
func (f *fields) client(p pen) { f.Client = p.number(f.Client, longBytes) }
func (f *fields) seq(p pen)    { f.Seq = p.number(f.Seq, longBytes) }
func (f *fields) body(p pen)   { f.Body = body(p, f.Body) }
func (f *fields) key(p pen)    { f.Key = p.number(f.Key, longBytes) }
func (f *fields) shard(p pen)  { f.Shard = uint8(p.number(uint64(f.Shard), shardBytes)) }
func (f *fields) stripe(p pen) { f.Stripe = uint32(p.number(uint64(f.Stripe), stripeBytes)) }
func (f *fields) code(p pen) {
	f.Code = api.Errno(p.count(int(f.Code), maxCode, codeBytes, api.ErrArg))
}

func (f *fields) log(p pen) {
	count := p.count(len(f.Log), api.MaxLog, entryBytes, api.ErrLong)
	f.Log = listed(f.Log, count, func(e api.Entry) api.Entry { return entry(p, e) })
}

func (f *fields) blocks(p pen) {
	count := p.count(len(f.Blocks), api.MaxBlocks, blockBytes, api.ErrLong)
	f.Blocks = listed(f.Blocks, count, func(b []byte) []byte { return p.bytes(b, api.BlockSize) })
}

// entry goes over an entry of a log.
func entry(p pen, e api.Entry) api.Entry {
	e.Client = p.number(e.Client, longBytes)
	e.Seq = p.number(e.Seq, longBytes)
	e.Body = body(p, e.Body)
	return e
}

// body goes over a body, a message's or an entry's.
func body(p pen, b []byte) []byte {
	return p.bytes(b, p.count(len(b), api.MaxBody, bodyBytes, api.ErrLong))
}

// listed goes over a list's things: those that it has, or, where it is read, as many blank ones. The list itself is the caller's, and stays as it is.
func listed[T any](l []T, count int, each func(T) T) []T {
	var all []T
	if count > 0 {
		all = make([]T, count)
	}
	copy(all, l)
	for i := range all {
		all[i] = each(all[i])
	}
	return all
}
