package event_test

import (
	"testing"

	"partywall/api"
	"partywall/event"
)

func results[A, B any](a A, b B) []any { return []any{a, b} }

// TestExamples: the chapter's table, row by row.
func TestExamples(t *testing.T) {
	e := api.Event{Label: 1 | 1<<8, Kind: 2, Value: -2}
	bytes := "\x00\x00\x00\x00\x00\x00\x01\x01\x02\xff\xff\xff\xff\xff\xff\xff\xfe"
	var none api.Event
	for i, row := range []struct{ got, want []any }{
		{results(event.Bytes(e)), results(bytes, api.OK)},

		{results(event.Parse(bytes)), results(e, api.Fault{})},
		{results(event.Parse(bytes[:8])), results(none, fault(api.ErrShort, 8))},
		{results(event.Parse(bytes[:12])), results(none, fault(api.ErrShort, 9))},
		{results(event.Parse(bytes + "x")), results(none, fault(api.ErrLong, 17))},

		{results(event.Parse(bytes[:8] + "\x1a")), results(none, fault(api.ErrKind, 8))},
		{results(event.Parse("")), results(none, fault(api.ErrShort, 0))},

		{results(event.Text(e)), results("C {0,8} -2", api.OK)},
		{results(event.Read("C {0,8} -2")), results(e, api.OK)},
		{results(event.Read("C {8,0} -2")), results(none, api.ErrForm)},
		{results(event.Read("C {0,8} -0")), results(none, api.ErrForm)},

		{results(event.IdText(api.Id{No: 12})), results("{}#12", api.OK)},
		{results(event.ReadId("{}#12")), results(api.Id{No: 12}, api.OK)},
		{results(event.ReadId("{}#012")), results(api.Id{}, api.ErrForm)},
		{results(event.ReadId("{}#0")), results(api.Id{}, api.ErrForm)},

		{[]any{event.Compare(api.Id{No: 5}, api.Id{Label: 1, No: 1}), event.Compare(api.Id{No: 5}, api.Id{No: 4})}, results(-1, 1)},

		{results(event.Letter(25)), results("Z", api.OK)},
		{results(event.Kind("Z")), results(25, api.OK)},
		{results(event.Kind("z")), results(0, api.ErrKind)},
		{results(event.Letter(26)), results("", api.ErrKind)},

		{results(event.Store(api.Event{Kind: 26}, 1, 1, 0)), results(api.Stored{}, api.ErrKind)},
		{results(event.Store(none, 0, 1, 0)), results(api.Stored{}, api.ErrRange)},
		{results(event.Store(none, 1, 1<<40+1, 0)), results(api.Stored{}, api.ErrRange)},
	} {
		for j := range row.want {
			if row.got[j] != row.want[j] {
				t.Errorf("example %d: %v, not %v", i, row.got, row.want)
			}
		}
	}
}
