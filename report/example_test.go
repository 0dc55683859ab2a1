package report_test

import (
	"testing"

	"cordon/api"
	"cordon/report"
	"cordon/value"
)

// What README shows.
func TestReadmeExample(t *testing.T) {
	r := []api.Value{value.Int(1), value.Null(), value.Text("it's")}
	check(t, "Row", report.Row(r), "1, null, 'it''s'")
	check(t, "Value", report.Value(value.Text("a\n\\")), `'a\0a\5c'`)
	check(t, "Rows", report.Rows([][]api.Value{r, {value.Bool(true)}}), "1, null, 'it''s'\ntrue\n")
	reads(t, "1, null, 'it''s'", r, api.OK)
	refused(t, api.ErrForm, "1,null", "01")
	channels := []api.Named{{Name: "out"}, {Name: "log", Level: 1}}
	check(t, "Outs", report.Outs(channels, []api.Out{{Channel: 1, Value: value.Int(7)}, {Channel: 5, Value: value.Bool(true)}}), "log 7\n? true\n")
	check(t, "Why", report.Why(api.ErrOver), "overflow")
	check(t, "Why", report.Why(99), "error 99")
	n := api.Note{Part: 2, At: 13, Err: api.ErrFlow, Why: api.WhyPrint}
	check(t, "Note", report.Note("levels low;", "print out 1;\nprint out :x;", n), "flow 2:1: flow print")
}

func TestSignatures(t *testing.T) {
	var _ func(api.Value) string = report.Value
	var _ func([]api.Value) string = report.Row
	var _ func([][]api.Value) string = report.Rows
	var _ func([]api.Named, []api.Out) string = report.Outs
	var _ func(api.Errno) string = report.Why
	var _ func(string, string, api.Note) string = report.Note
	var _ func(string) ([]api.Value, api.Errno) = report.Read
}
