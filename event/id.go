package event

import "partywall/api"

// CheckId returns ErrRange unless the Id is sound.
func CheckId(id api.Id) api.Errno {
	if !isCount(id.No) {
		return api.ErrRange
	}
	return api.OK
}

// Compare returns -1 if a is before b, 1 if it is behind it, 0 if they are equal.
func Compare(a, b api.Id) int {
	switch {
	case a == b:
		return 0
	case before(a, b):
		return -1
	}
	return 1
}

// before says whether the label of a is less than that of b, as a number, or the number if it is the same label.
func before(a, b api.Id) bool {
	if a.Label != b.Label {
		return a.Label < b.Label
	}
	return a.No < b.No
}
