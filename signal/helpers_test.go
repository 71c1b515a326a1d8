package signal

import (
	"testing"

	"qanat/api"
)

const digits = "0123456789"

// signals is all texts that are signals, written out from the chapter, with what each of them says.
func signals() map[string]api.Signal {
	m := map[string]api.Signal{}
	for table := range 8 {
		short := "snapshot " + digits[table:table+1]
		m[short] = api.Signal{Table: table, Weight: 1}
		for weight := 1; weight <= 8; weight++ {
			m[short+" "+digits[weight:weight+1]] = api.Signal{Table: table, Weight: weight}
		}
	}
	return m
}

// parsed holds Parse(s) against what it is to be.
func parsed(t *testing.T, what, s string, want api.Signal, is bool) {
	t.Helper()
	if g, ok := Parse(s); g != want || ok != is {
		t.Errorf("%s: Parse(%q): got %v, %v, want %v, %v", what, s, g, ok, want, is)
	}
}

// none holds Parse(s) against what is told of a text that is no signal.
func none(t *testing.T, what string, l ...string) {
	t.Helper()
	for _, s := range l {
		parsed(t, what, s, api.Signal{}, false)
	}
}

// right holds Parse(s) against the list of all signals.
func right(t *testing.T, what, s string, all map[string]api.Signal) {
	t.Helper()
	g, is := all[s]
	parsed(t, what, s, g, is)
}

// written holds Text(g) against what it is to be.
func written(t *testing.T, what string, g api.Signal, want string, is bool) {
	t.Helper()
	if s, ok := Text(g); s != want || ok != is {
		t.Errorf("%s: Text(%v): got %q, %v, want %q, %v", what, g, s, ok, want, is)
	}
}
