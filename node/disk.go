package node

import (
	"sync"

	"shard/api"
	"shard/codec"
	"shard/core"
	"shard/journal"
	"shard/wire"
)

// The bytes that a journal's state begins with.
const (
	mark    = 78
	version = 1
)

// owner is whose disk it is, and in which cluster.
type owner struct {
	config api.Config
	self   api.Addr
}

// content is what a disk holds.
type content struct {
	epoch int
	core  *core.Core
}

// reading is what the bytes of a disk say, read when it is first asked for.
type reading struct {
	once sync.Once
	content
}

// save gives the bytes of a journal's state.
func save(c content) []byte {
	// The state of a core can be saved, and never comes near this limit.
	state, _ := core.Save(c.core.State())
	w, _ := codec.NewWriter(api.MaxCodec)
	w.U8(mark)
	w.U8(version)
	w.U32(uint32(c.epoch))
	w.Block(state)
	b, _ := w.Out()
	return b
}

// load gives what the bytes of a journal's state say; false, if they are none of this owner's.
func (o owner) load(b []byte) (content, bool) {
	r, _ := codec.NewReader(b)
	if r.U8() != mark || r.U8() != version {
		return content{}, false
	}
	epoch := r.U32()
	state, e := core.Read(r.Block(api.MaxState))
	if r.Done() != api.OK || epoch > api.MaxEpoch || e != api.OK || state.Self != o.self {
		return content{}, false
	}
	loaded, e := core.Load(o.config, state)
	return content{int(epoch), loaded}, e == api.OK
}

// record gives the bytes by which a message is written down.
func record(from api.Addr, packet []byte) []byte {
	return append([]byte{byte(from)}, packet...)
}

// redo lets a core take the message of a record; false, if that does not change it.
func redo(c *core.Core, rec []byte) bool {
	m, _, e := wire.Parse(rec[1:])
	if e != api.OK {
		return false
	}
	_, changed, e := c.Apply(api.Addr(rec[0]), m)
	return changed && e == api.OK
}

// read gives the journal and the content of a disk; false, if it holds no core.
func (o owner) read(d api.Disk) (*journal.Journal, content, bool) {
	j, replay, err := journal.Open(d, api.MaxSlotSize)
	if err != nil {
		return nil, content{}, false
	}
	found, fine := o.load(replay.State)
	if !fine {
		return nil, content{}, false
	}
	for _, rec := range replay.Records {
		if !redo(found.core, rec) {
			return nil, content{}, false
		}
	}
	return j, found, true
}
