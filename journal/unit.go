package journal

import (
	"guilloche/api"
)

const headSize = api.BlockSize - api.Payload

// head belongs to a string, and stands in each of its units.
type head struct {
	stamp uint64 // see area
	size  int    // in bytes
}

// unit is what a journal stores in a block.
type unit struct {
	head
	data [api.Payload]byte
}

// unitsOf returns how many units a string of that many bytes takes.
func unitsOf(bytes int) int { return max(1, (bytes+api.Payload-1)/api.Payload) }

// split returns the units of a string.
func split(stamp uint64, text string) []unit {
	out := make([]unit, unitsOf(len(text)))
	for i := range out {
		out[i].head = head{stamp, len(text)}
		copy(out[i].data[:], text[i*api.Payload:])
	}
	return out
}

// encode returns the content of the unit's block.
func (u unit) encode() string {
	var b block
	put(b[:8], u.stamp)
	put(b[8:12], uint64(u.size))
	copy(b[headSize:], u.data[:])
	return string(b[:])
}

// decode is the inverse of encode.
func decode(content string) unit {
	b := fill(content)
	var u unit
	u.stamp = get(b[:8])
	u.size = int(get(b[8:12]))
	copy(u.data[:], b[headSize:])
	return u
}

// put writes a number into all of these bytes, the highest ones first.
func put(to []byte, number uint64) {
	for i := range to {
		to[len(to)-1-i] = byte(number >> (8 * i))
	}
}

// get is the inverse of put.
func get(from []byte) uint64 {
	var number uint64
	for _, b := range from {
		number = number<<8 | uint64(b)
	}
	return number
}
