package erase_test

import (
	"math"
	"strings"
	"testing"

	"cordon/api"
	"cordon/erase"
	"cordon/schema"
)

// Outs as texts: the channel's name, or its number if there is none, and the value.

func outsTold(c *schema.Catalog, l []api.Out) string {
	channels := c.Channels()
	return strings.Join(numbered(len(l), func(i int) string {
		if at := l[i].Channel; at >= 0 && at < len(channels) {
			return channels[at].Name + " " + valueTold(l[i].Value)
		}
		return "none " + valueTold(l[i].Value)
	}), "; ")
}

// outsOf are what such a text tells.
func outsOf(c *schema.Catalog, text string) []api.Out {
	var out []api.Out
	for _, told := range strings.Split(text, ";") {
		words := strings.Fields(told)
		if len(words) == 0 {
			continue
		}
		for at, channel := range c.Channels() {
			if channel.Name == words[0] {
				out = append(out, api.Out{Channel: at, Value: val(words[1])})
			}
		}
	}
	return out
}

// P20.4: channels below, at, above and beside the level, by turns.
func TestOuts(t *testing.T) {
	const told = "cl 1; ca 'x'; cb true; ch null; again 5; cl 2; ch 3; cb 4; ca 'x'; cl 1"
	for level, want := range map[string]string{
		"low": "cl 1; cl 2; cl 1", "a": "cl 1; ca 'x'; again 5; cl 2; ca 'x'; cl 1", "b": "cl 1; cb true; cl 2; cb 4; cl 1", "high": told,
	} {
		for _, c := range ours() {
			check(t, level, outsTold(c, erase.Outs(c, outsOf(c, told), levelOf(c, level))), want)
		}
	}
	for _, c := range ours() {
		for _, level := range noLevels(c) {
			check(t, level, outsTold(c, erase.Outs(c, outsOf(c, told), level)), "")
		}
		for level := -1; level < 5; level++ {
			for _, none := range [][]api.Out{nil, {}} {
				check(t, "nothing told", outsTold(c, erase.Outs(c, none, level)), "")
			}
		}
	}
}

// P20.4, of one channel alone, told once and often.
func TestOutsOfOne(t *testing.T) {
	for name, want := range map[string]string{"cl": "low a b high", "ca": "a high", "cb": "b high", "ch": "high", "again": "a high"} {
		for _, c := range ours() {
			for _, level := range []string{"low", "a", "b", "high"} {
				for _, told := range []string{name + " 1", name + " 1; " + name + " 1; " + name + " null"} {
					seen := ""
					if strings.Contains(" "+want+" ", " "+level+" ") {
						seen = told
					}
					check(t, name+" at "+level, outsTold(c, erase.Outs(c, outsOf(c, told), levelOf(c, level))), seen)
				}
			}
		}
	}
}

// P20.4: a channel is a place in the catalog, whatever its name and level are.
func TestOutsByPlace(t *testing.T) {
	c := catalogOf("levels high, low; order low < high; channel z high; channel y low; channel x low; channel w high;")
	l := numbered(8, func(i int) api.Out { return api.Out{Channel: i % 4, Value: val("1")} })
	check(t, "low", outsTold(c, erase.Outs(c, l, 1)), "y 1; x 1; y 1; x 1")
	check(t, "high", outsTold(c, erase.Outs(c, l, 0)), "z 1; y 1; x 1; w 1; z 1; y 1; x 1; w 1")
}

// P20.4 and P1: what was told to channels that are not there is not seen, at no level.
func TestOutsToNoChannel(t *testing.T) {
	for _, c := range append(ours(), catalogOf("levels low;")) {
		n := len(c.Channels())
		var odd, mixed []api.Out
		for _, at := range []int{-1, -2, n, n + 1, api.MaxTables, math.MaxInt, math.MinInt} {
			odd = append(odd, api.Out{Channel: at, Value: val("1")})
			mixed = append(mixed, api.Out{Channel: at, Value: val("'no'")})
			if n > 0 {
				mixed = append(mixed, api.Out{Value: val("7")}) // to the first one, which is low
			}
		}
		for level := -1; level < 6; level++ {
			check(t, level, outsTold(c, erase.Outs(c, odd, level)), "")
			want := strings.TrimSuffix(strings.Repeat("cl 7; ", 7), "; ")
			if n == 0 || level < 0 || level > 3 {
				want = ""
			}
			check(t, level, outsTold(c, erase.Outs(c, mixed, level)), want)
		}
	}
}

// P20.4: values are handed on as they are, also such that are not right.
func TestOutsOfOddValues(t *testing.T) {
	c := ours()[0]
	var l []api.Out
	for _, v := range []api.Value{{}, {N: 7}, {Type: 9}, {Type: -1, S: "x"}, {Type: api.TyBool, N: 5}, {Type: api.TyText, S: strings.Repeat("x", 5000)}, {Type: api.TyInt, N: math.MinInt, S: "\xff"}} {
		l = append(l, api.Out{Channel: 0, Value: v}, api.Out{Channel: 3, Value: v})
	}
	got := erase.Outs(c, l, levelOf(c, "b"))
	for i := range l {
		if i%2 == 0 && (len(got) != len(l)/2 || got[i/2] != l[i]) {
			t.Errorf("%d: %v", i, got)
		}
	}
}

// P20.4, of nil, and of a catalog that no call made: nothing.
func TestOutsOfNil(t *testing.T) {
	for _, none := range []*schema.Catalog{nil, {}} {
		for level := -2; level < 6; level++ {
			for _, l := range [][]api.Out{nil, {{}}, {{Channel: 0, Value: val("1")}, {Channel: 1, Value: val("2")}, {Channel: -1}}} {
				if got := erase.Outs(none, l, level); len(got) > 0 {
					t.Errorf("%v", got)
				}
			}
		}
	}
}

// A great many.
func TestOutsOfMany(t *testing.T) {
	c := ours()[1]
	l := numbered(1<<17, func(i int) api.Out { return api.Out{Channel: i%7 - 1, Value: api.Value{Type: api.TyInt, N: i}} })
	got := erase.Outs(c, l, levelOf(c, "low"))
	for i, o := range got {
		if o != (api.Out{Channel: 0, Value: api.Value{Type: api.TyInt, N: 7*i + 1}}) {
			t.Fatalf("%d: %v", i, o)
		}
	}
	if want := (1<<17 + 5) / 7; len(got) != want {
		t.Errorf("%d of them, not %d", len(got), want)
	}
}
