package bitset

// room is room for the numbers from 0, below an end.
type room struct{ end int }

// holds: is there room for i?
func (r room) holds(i int) bool { return 0 <= i && i < r.end }

// length: how many words of bits there are.
func (r room) length() int { return (r.end + 63) / 64 }

// part: of the word at a place, which is below length, the bits for which there is room.
func (r room) part(at int) uint64 {
	if left := r.end - 64*at; left < 64 {
		return 1<<left - 1
	}
	return ^uint64(0)
}
