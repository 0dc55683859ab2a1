package report_test

import (
	"math"
	"strings"
	"testing"

	"cordon/api"
	"cordon/report"
)

func out(channel int, v api.Value) api.Out { return api.Out{Channel: channel, Value: v} }

// P23.2

func TestOuts(t *testing.T) {
	channels := []api.Named{{Name: "out"}, {Name: "log", Level: 1}, {Name: "out", Level: 7}, {Name: "a_b9", Level: -1}}
	for _, x := range []struct {
		what     string
		channels []api.Named
		l        []api.Out
		want     string
	}{
		{"nothing", nil, nil, ""},
		{"no line", channels, []api.Out{}, ""},
		{"one", channels, []api.Out{out(0, num(1))}, "out 1\n"},
		{"each channel", channels, []api.Out{out(3, null), out(2, no), out(1, text("a b")), out(0, num(-5)), out(1, text("\n'"))}, "a_b9 null\nout false\nlog 'a b'\nout -5\nlog '\\0a'''\n"},
		{"the same twice", channels, []api.Out{out(1, yes), out(1, yes)}, "log true\nlog true\n"},
		{"the last one, and beyond", channels, []api.Out{out(3, num(1)), out(4, num(2)), out(5, num(3))}, "a_b9 1\n? 2\n? 3\n"},
		{"below 0", channels, []api.Out{out(-1, num(1)), out(0, num(2)), out(-2, text("?"))}, "? 1\nout 2\n? '?'\n"},
		{"far away", channels, []api.Out{out(math.MaxInt, null), out(math.MinInt, yes), out(1<<32, no)}, "? null\n? true\n? false\n"},
		{"no channels", nil, []api.Out{out(0, num(1)), out(-1, num(2)), out(1, num(3))}, "? 1\n? 2\n? 3\n"},
		{"an empty list of them", []api.Named{}, []api.Out{out(0, text(""))}, "? ''\n"},
		{"one channel", channels[1:2], []api.Out{out(0, num(1)), out(1, num(2))}, "log 1\n? 2\n"},
	} {
		check(t, x.what, report.Outs(x.channels, x.l), x.want)
	}
}

func TestOutsValues(t *testing.T) {
	var l []api.Out
	var want strings.Builder
	for i, x := range allTold() {
		l = append(l, out(i%3, x.v))
		want.WriteString([]string{"a ", "b ", "? "}[i%3] + x.text + "\n")
	}
	check(t, "all values", report.Outs([]api.Named{{Name: "a"}, {Name: "b"}}, l), want.String())
}

// The room behind a list of channels counts for nothing.
func TestOutsRoom(t *testing.T) {
	channels := []api.Named{{Name: "a"}, {Name: "b"}}
	check(t, "room", report.Outs(channels[:1], []api.Out{out(1, num(1))}), "? 1\n")
}
