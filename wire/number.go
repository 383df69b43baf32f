package wire

const (
	// lengthSize is how many bytes the length of a sized string has.
	lengthSize = 2
	// longest is how many bytes a sized string may have.
	longest = 1<<(8*lengthSize) - 1
	// signedSize is how many bytes a number with a sign has.
	signedSize = 8
)

// integer is what numbers are made of.
type integer interface{ ~int | ~int64 | ~uint64 }

// isSize says whether numbers may have this many bytes.
func isSize(size int) bool { return size == 1 || size == 2 || size == 4 || size == 8 }

// fits says whether size bytes are enough for n.
func fits(n uint64, size int) bool { return n>>(8*size) == 0 }

// number returns the number with these bytes, big-endian: 0 if there are none.
func number[N integer](bytes string) N {
	var n N
	for i := range len(bytes) {
		n = n<<8 | N(bytes[i])
	}
	return n
}

// digits returns the last size bytes of n, big-endian.
func digits[N integer](n N, size int) string {
	b := make([]byte, size)
	for i := range b {
		b[size-1-i] = byte(n >> (8 * i))
	}
	return string(b)
}
