package row

import "partywall/api"

// Bare says whether s, as it is, is a bare word.
func Bare(s string) bool {
	for i := range len(s) {
		if !isPlain(s[i]) || s[i] == ' ' {
			return false
		}
	}
	return s != "" && s[0] != remark
}

// Word returns a word as it is written, or ErrForm if it is not Quoted, and must be.
func Word(w api.Word) (string, api.Errno) {
	if w.Quoted {
		return quoted(w.Text), api.OK
	}
	if !Bare(w.Text) {
		return "", api.ErrForm
	}
	return w.Text, api.OK
}

// quoted returns the quoted word that stands for s.
func quoted(s string) string {
	word := []byte{quote}
	for i := range len(s) {
		switch b := s[i]; {
		case isPlain(b):
			word = append(word, b)
		case isPrinted(b):
			word = append(word, escape, b)
		default:
			word = append(word, escape, hex, digits[b>>4], digits[b&15])
		}
	}
	return string(append(word, quote))
}
