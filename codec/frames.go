package codec

import "shard/api"

// A frame's head: the body's length, then the sum.
const (
	lengthSize = 4
	frameHead  = lengthSize + 4
	mostBody   = api.MaxCodec - frameHead
)

// frameSum sums up the bytes of a length and the body behind them.
func frameSum(length, body []byte) uint32 { return CrcMore(Crc(length), body) }

// Frame gives a body with its length and sum ahead.
func Frame(b []byte) ([]byte, api.Errno) {
	if len(b) > mostBody {
		return nil, api.ErrCodecBig
	}
	out := make([]byte, 0, frameHead+len(b))
	out = putNumber(out, uint64(len(b)), lengthSize)
	out = putNumber(out, uint64(frameSum(out, b)), frameHead-lengthSize)
	return append(out, b...), api.OK
}

// Frames gives the bodies of the whole frames from the left, how many bytes they take, and why it ended.
func Frames(b []byte) ([][]byte, int, api.Errno) {
	all := own(b)
	var bodies [][]byte
	at := 0
	for at < len(all) {
		size, e := frameSize(all[at:])
		if e != api.OK {
			return bodies, at, e
		}
		end := at + size
		// A body's room ends with it, so that appending to it leaves the next one alone.
		bodies = append(bodies, all[at+frameHead:end:end])
		at = end
	}
	return bodies, at, api.OK
}

// frameSize tells how many bytes the frame at the beginning of b takes, or why there is none.
func frameSize(b []byte) (int, api.Errno) {
	if len(b) < frameHead {
		return 0, api.ErrCodecShort
	}
	length := getNumber(b[:lengthSize])
	if length > mostBody {
		return 0, api.ErrCodecBig
	}
	size := frameHead + int(length)
	if size > len(b) {
		return 0, api.ErrCodecShort
	}
	if uint64(frameSum(b[:lengthSize], b[frameHead:size])) != getNumber(b[lengthSize:frameHead]) {
		return 0, api.ErrCodecSum
	}
	return size, api.OK
}
