package flow_test

import (
	"fmt"
	"strings"
	"testing"

	"cordon/api"
	"cordon/flow"
)

// Each statement of which something may not flow when it stands at a, and all may when it stands at low, in blocks of each kind, behind statements that can raise something and behind such as can't, within one another: at its own place, with its Why.
func TestEverywhere(t *testing.T) {
	b := benchOf("table n rows low (x int null low, y int null a);")
	stmts := []struct {
		text string
		why  int
	}{
		{"print out 1;", api.WhyPrint}, {"input x;", api.WhyInput}, {"begin;", api.WhySaved}, {"commit;", api.WhySaved}, {"rollback;", api.WhySaved},
		{"insert into n values (1, 2);", api.WhyRows}, {"insert into n select 1 as x, 2 as y;", api.WhyRows}, {"update n set x = 1, y = 2;", api.WhyColumn}, {"delete from n;", api.WhyRows},
	}
	low := []string{
		"%s", "skip; %s skip;", "if true { %s }", "if true { skip; } else { %s }", "while true { %s }", "for l in select i as x from t { %s }", "try { %s } catch { skip; }", "try { raise; } catch { %s }", "try { skip; } catch { %s }",
		"print ca :va; %s", "set l = -1; %s", "raise; %s", "try { print ca -:va; } catch { skip; } %s", "if :va > 0 { skip; } %s", "while :va > 0 { skip; } %s", "for y in " + rowsA + " { skip; } %s",
		"if true { if :va > 0 { skip; } else { set y = :va; } %s }", "%s print ca -:va;", "if true { %s } else { print ca -:va; }", "try { %s print ca -:va; } catch { skip; }", "while true { try { %s print ca -:va; } catch { skip; } }", "for l in select i as x from t { try { raise; } catch { if true { %s } } }", "if :va > 0 { call idle(); } %s",
	}
	high := []string{
		"if :va > 0 { %s }", "if :va > 0 { skip; } else { %s }", "while :va > 0 { %s }", "for y in " + rowsA + " { %s }", "for y in select -ia as x from t { %s }", "if " + quiet + " { %s }", "while " + quiet + " { %s }",
		"print ca -:va; %s", "if -:va > 0 { skip; } %s", "if :va > 0 { raise; } %s", "if true { print ca -:va; } %s", "if true { skip; } else { print ca -:va; } skip; %s", "while true { print ca -:va; } %s", "for y in select i as x from t { print ca -:va; } %s", "try { skip; } catch { print ca -:va; } %s", "call loud(:va); %s", "call idle2(-:va); %s",
		"while true { %s print ca -:va; }", "while true { %s skip; if true { print ca -:va; } }", "for y in select i as x from t { %s print ca -:va; }", "for y in select i as x from t { if true { %s } print ca -:va; }",
		"try { print ca -:va; %s } catch { skip; }", "try { print ca -:va; } catch { %s }", "try { if true { raise; } if :va > 0 { raise; } } catch { %s }", "try { call loud(:va); } catch { skip; %s }",
		"if :va > 0 { try { skip; } catch { %s } }", "if true { while true { try { skip; } catch { print ca -:va; } %s } }", "try { while :va > 0 { for y in select i as x from t { if true { skip; } else { %s } } } } catch { skip; }", "try { try { print ca -:va; } catch { raise; } %s } catch { skip; }", "while true { for y in select i as x from t { %s } print ca -:va; }",
	}
	declared := "var x int; var y int; proc loud(n int) { if :n > 0 { raise; } } proc idle() { skip; } proc idle2(n int) { skip; } | "
	for _, c := range b {
		for _, s := range stmts {
			for i, around := range append(low, high...) {
				text := withPreamble(declared + fmt.Sprintf(around, s.text))
				want := ""
				if i >= len(low) {
					want = fmt.Sprint([]api.Diag{{At: strings.Index(text, s.text), Why: s.why}})
				}
				if got := flow.Check(c, programOf(t, c, text)).Diags; len(got) > 0 || want != "" {
					check(t, text, fmt.Sprint(got), want)
				}
				in := withPreamble("proc whole(l int, va int) { var x int; var y int; " + fmt.Sprintf(around, s.text) + " } proc loud(n int) { if :n > 0 { raise; } } proc idle() { skip; } proc idle2(n int) { skip; } | call whole(:l, :va);")
				if got := flow.Check(c, programOf(t, c, in)).Diags; len(got) > 0 || want != "" {
					check(t, in, fmt.Sprint(got), fmt.Sprint([]api.Diag{{At: strings.Index(in, s.text), Why: s.why}}))
				}
			}
		}
	}
}
