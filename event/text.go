package event

import (
	"strconv"
	"strings"

	"partywall/api"
	"partywall/label"
)

const (
	// blank stands between the parts of the text of an event.
	blank = " "
	// mark stands between the parts of the text of an Id.
	mark = "#"
)

// Text returns the text of an event, or the error of Check.
func Text(e api.Event) (string, api.Errno) {
	letter, err := Letter(e.Kind)
	if err != api.OK {
		return "", err
	}
	return letter + blank + label.Text(e.Label) + blank + strconv.FormatInt(e.Value, 10), api.OK
}

// Read returns the event whose text is s, or ErrForm if there is none.
func Read(s string) (api.Event, api.Errno) {
	letter, rest, _ := strings.Cut(s, blank)
	labelText, digits, _ := strings.Cut(rest, blank)
	// A part that cannot be read counts as 0 here: the text of the event then differs from s, just as it does if a part has another form (+1, 01, -0).
	kind, _ := Kind(letter)
	l, _ := label.Parse(labelText)
	value, _ := strconv.ParseInt(digits, 10, 64)
	e := api.Event{Label: l, Kind: kind, Value: value}
	if text, err := Text(e); err != api.OK || text != s {
		return api.Event{}, api.ErrForm
	}
	return e, api.OK
}

// IdText returns the text of an Id, or the error of CheckId.
func IdText(id api.Id) (string, api.Errno) {
	if err := CheckId(id); err != api.OK {
		return "", err
	}
	return label.Text(id.Label) + mark + strconv.FormatUint(id.No, 10), api.OK
}

// ReadId returns the Id whose text is s, or ErrForm if there is none.
func ReadId(s string) (api.Id, api.Errno) {
	labelText, digits, _ := strings.Cut(s, mark)
	// As in Read, the text says whether all parts could be read.
	l, _ := label.Parse(labelText)
	no, _ := strconv.ParseUint(digits, 10, 64)
	id := api.Id{Label: l, No: no}
	if text, err := IdText(id); err != api.OK || text != s {
		return api.Id{}, api.ErrForm
	}
	return id, api.OK
}
