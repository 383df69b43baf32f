package label

import "partywall/api"

// size is how many bytes a label has.
const size = 8

// Bytes returns the 8 bytes of l, big-endian.
func Bytes(l uint64) string {
	b := make([]byte, 0, size)
fill:
	for shift := 8 * (size - 1); ; shift -= 8 {
		b = append(b, byte(l>>shift))
		if shift == 0 {
			break fill
		}
	}
	return string(b)
}

// Of8 returns the label with these bytes, big-endian, or ErrForm unless there are 8.
func Of8(s string) (uint64, api.Errno) {
	if len(s) != size {
		return 0, api.ErrForm
	}
	var l uint64
	for i := range size {
		l = l<<8 | uint64(s[i])
	}
	return l, api.OK
}
