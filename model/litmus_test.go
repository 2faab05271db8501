package model_test

import (
	"fmt"
	"strings"
	"testing"

	"seisin/api"
	"seisin/model"
)

// verdicts are what Broken tells of an execution for the models, in their order. It holds Holds to it.
func verdicts(t *testing.T, x api.Exec) string {
	s := ""
	for m := api.ModelCoh; m <= api.ModelWeak; m++ {
		axiom := model.Broken(m, x)
		if model.Holds(m, x) != (axiom == 0) {
			t.Errorf("%v: model %d does not hold axiom %d, but Holds tells %v", x, m, axiom, model.Holds(m, x))
		}
		s += fmt.Sprint(axiom)
	}
	return s
}

// ends reports whether an outcome has the values that the text lists, as in 1:r0=7 x=1.
func ends(p api.Prog, f api.Final, text string) bool {
	have := map[string]bool{}
	for t := range p.Threads {
		for r, v := range f.Regs[t] {
			have[fmt.Sprint(t, ":r", r, "=", v)] = true
		}
	}
	for loc, name := range p.Locs {
		have[fmt.Sprint(name, "=", f.Mem[loc])] = true
	}
	for _, s := range strings.Fields(text) {
		if !have[s] {
			return false
		}
	}
	return true
}

// litmus is a program and an end of it: the verdicts of the executions that end so, under Coh, SC, TSO, PSO, RA and Weak.
type litmus struct{ lines, end, want string }

func holdLitmus(t *testing.T, l []litmus) {
	t.Helper()
	for _, v := range l {
		p := program(t, v.lines)
		var got []string
		for _, x := range cands(t, p) {
			if ends(p, x.Final, v.end) {
				got = append(got, verdicts(t, x))
			}
		}
		if s := strings.Join(got, " "); s != v.want {
			t.Errorf("%s with %s: %s, want %s", v.lines, v.end, s, v.want)
		}
	}
}

// P10.2: AxCoherent, whatever the model and the modes are.
func TestBrokenCoherent(t *testing.T) {
	holdLitmus(t, []litmus{
		{"thread;x = 1;r0 = x", "0:r0=0", "111111"},
		{"thread;x = 1;r0 = x", "0:r0=1", "000000"},
		{"thread;r0 = x;x = 1", "0:r0=1", "111111"},
		{"thread;r0 = x;x = 1", "0:r0=0", "000000"},
		{"thread;x = 1;x = 2", "x=1", "111111"},
		{"thread;x = 1;x = 2", "x=2", "000000"},
		{"thread;x = 1;thread;r0 = x;r1 = x", "1:r0=1 1:r1=0", "111111"},
		{"thread;x = 1;thread;r0 = x;r1 = x", "1:r0=0 1:r1=1", "000000"},
		{"thread;r0 = x;x = 1;thread;x = 2", "0:r0=2 x=2", "111111"},
		{"thread;r0 = x;x = 1;thread;x = 2", "0:r0=2 x=1", "000000"},
		{"thread;x = 1;r0 = x;thread;x = 2", "0:r0=2 x=1", "111111"},
		{"thread;x = 1;r0 = x;thread;x = 2", "0:r0=2 x=2", "000000"},
		{"thread;x = 1;thread;x = 2;thread;r0 = x;r1 = x;thread;r0 = x;r1 = x", "2:r0=1 2:r1=2 3:r0=2 3:r1=1", "111111 111111"},
		{"thread;r0 = swap x 1", "0:r0=1", "111111"},
		{"thread;x = 1;thread;r0 = x acq;fence;r1 = x acq", "1:r0=1 1:r1=0", "111111"},
	})
}

// P10.2: AxAtomic, whatever the model is, but behind AxCoherent and ahead of AxOrder.
func TestBrokenAtomic(t *testing.T) {
	holdLitmus(t, []litmus{
		{"thread;r0 = swap x 1;thread;x = 5", "0:r0=0 x=1", "222222"},
		{"thread;r0 = swap x 1;thread;x = 5", "0:r0=0 x=5", "000000"},
		{"thread;r0 = swap x 1;thread;x = 5", "0:r0=5 x=1", "000000"},
		{"thread;r0 = swap x 1;thread;r0 = swap x 1", "0:r0=0 1:r0=0", "222222 222222"},
		{"thread;r0 = swap x 1;thread;r0 = swap x 2", "0:r0=0 1:r0=1", "000000 111111"},
		{"thread;r0 = cas x 0 1;thread;r0 = cas x 0 2", "0:r0=0 1:r0=0", "222222 222222"},
		{"thread;r0 = cas x 0 1;thread;x = 5", "0:r0=0 x=1", "222222"},
		{"thread;r0 = cas x 9 1;thread;x = 5", "0:r0=0 x=5", "000000"}, // it writes nothing
		{"thread;r0 = x;x = 1;thread;x = 5", "0:r0=0 x=1", "000000"},   // not atomic
		// two writes in between, and one of the own thread
		{"thread;r0 = swap x 1;thread;x = 5;x = 6", "0:r0=0 x=1", "222222 111111"},
		{"thread;r0 = swap x 1;thread;x = 5;x = 6", "0:r0=5 x=1", "222222 111111"},
		{"thread;r0 = swap x 1;x = 5", "0:r0=0 x=1", "111111"},
		// with a cycle for AxOrder elsewhere
		{"thread;x = 1;r0 = y;thread;y = 1;r0 = x;thread;r0 = swap z 1;thread;z = 5", "0:r0=0 1:r0=0 2:r0=0 z=1", "222222"},
		{"thread;x = 1;r0 = y;thread;y = 1;r0 = x;thread;r0 = swap z 1;thread;z = 5", "0:r0=0 1:r0=0 2:r0=0 z=5", "030000"},
		// with a cycle for AxCoherent elsewhere
		{"thread;x = 1;r0 = x;thread;r0 = swap z 1;thread;z = 5", "0:r0=0 1:r0=0 z=1", "111111"},
	})
}

// P10.2: AxOrder, by the model.
func TestBrokenOrder(t *testing.T) {
	holdLitmus(t, []litmus{
		// store buffering
		{"thread;x = 1;r0 = y;thread;y = 1;r0 = x", "0:r0=0 1:r0=0", "030000"},
		{"thread;x = 1;r0 = y;thread;y = 1;r0 = x", "0:r0=0 1:r0=1", "000000"},
		{"thread;x = 1;fence;r0 = y;thread;y = 1;fence;r0 = x", "0:r0=0 1:r0=0", "033333"},
		{"thread;x = 1;fence;r0 = y;thread;y = 1;r0 = x", "0:r0=0 1:r0=0", "030000"},
		{"thread;x = 1;fence stores;r0 = y;thread;y = 1;fence loads;r0 = x", "0:r0=0 1:r0=0", "030000"},
		{"thread;x = 1 rel;r0 = y acq;thread;y = 1 rel;r0 = x acq", "0:r0=0 1:r0=0", "030000"},
		{"thread;r7 = swap x 1;r0 = y;thread;r7 = swap y 1;r0 = x", "0:r0=0 1:r0=0 0:r7=0 1:r7=0", "033300"},
		{"thread;x = 1;r0 = swap y 2;thread;y = 1;r0 = swap x 2", "0:r0=0 1:r0=0 x=1 y=1", "033330"},
		{"thread;x = 1;r0 = x;r1 = y;thread;y = 1;r0 = y;r1 = x", "0:r0=1 0:r1=0 1:r0=1 1:r1=0", "030000"}, // its own writes are read early
		// message passing
		{"thread;x = 1;y = 1;thread;r0 = y;r1 = x", "1:r0=1 1:r1=0", "033000"},
		{"thread;x = 1;y = 1 rel;thread;r0 = y acq;r1 = x", "1:r0=1 1:r1=0", "033030"},
		{"thread;x = 1;y = 1 rel;thread;r0 = y;r1 = x", "1:r0=1 1:r1=0", "033000"},
		{"thread;x = 1;y = 1;thread;r0 = y acq;r1 = x", "1:r0=1 1:r1=0", "033000"},
		{"thread;x = 1;fence stores;y = 1;thread;r0 = y;r1 = x", "1:r0=1 1:r1=0", "033300"},
		{"thread;x = 1;fence stores;y = 1;thread;r0 = y;fence loads;r1 = x", "1:r0=1 1:r1=0", "033333"},
		{"thread;x = 1;fence loads;y = 1;thread;r0 = y;fence loads;r1 = x", "1:r0=1 1:r1=0", "033000"},
		{"thread;x = 1;fence stores;y = 1;thread;r0 = y;fence stores;r1 = x", "1:r0=1 1:r1=0", "033300"},
		// load buffering
		{"thread;r0 = x;y = 1;thread;r0 = y;x = 1", "0:r0=1 1:r0=1", "033300"},
		{"thread;r0 = x;y = r0;thread;r0 = y;x = 1", "0:r0=1 1:r0=1", "033300"},
		{"thread;r0 = x;r1 = r0 ^ r0;r1 = r1 + 1;y = r1;thread;r0 = y;r1 = r0 ^ r0;r1 = r1 + 1;x = r1", "0:r0=1 1:r0=1", "033303"},
		{"thread;r0 = x;skip 1 if r0 == 9;y = 1;thread;r0 = y;skip 1 if r0 == 9;x = 1", "0:r0=1 1:r0=1", "033303"},
		{"thread;r0 = x;y = 1 rel;thread;r0 = y acq;x = 1", "0:r0=1 1:r0=1", "033330"},
		{"thread;r0 = x;fence loads;y = 1;thread;r0 = y;fence stores;x = 1", "0:r0=1 1:r0=1", "033330"},
		{"thread;r0 = x;fence;y = 1;thread;r0 = y;fence;x = 1", "0:r0=1 1:r0=1", "033333"},
		// two threads that write both locations
		{"thread;x = 1;y = 2;thread;y = 1;x = 2", "x=1 y=1", "033000"},
		{"thread;x = 1;fence stores;y = 2;thread;y = 1;fence stores;x = 2", "x=1 y=1", "033333"},
		{"thread;x = 1;fence loads;y = 2;thread;y = 1;fence loads;x = 2", "x=1 y=1", "033000"},
		{"thread;x = 1;y = 2 rel;thread;y = 1;x = 2 rel", "x=1 y=1", "033030"},
		{"thread;x = 1;y = 1;thread;y = 2;r0 = x", "1:r0=0 y=2", "030000"},
		{"thread;x = 2;y = 1;thread;r0 = y;x = 1", "1:r0=1 x=2", "033000"},
		{"thread;x = 2;fence stores;y = 1;thread;r0 = y;x = 1", "1:r0=1 x=2", "033300"},
		{"thread;x = 2;fence stores;y = 1;thread;r0 = y acq;x = 1", "1:r0=1 x=2", "033330"},
		{"thread;x = 2;fence stores;y = 1;thread;r0 = y;x = r0", "1:r0=1 x=2", "033303"},
		{"thread;x = 2;fence stores;y = 1;thread;r0 = y;z = r0;r1 = z;x = r1", "1:r0=1 1:r1=1 x=2", "033300"}, // z is read early
		// more than two threads
		{"thread;x = 1;thread;y = 1;thread;r0 = x;r1 = y;thread;r0 = y;r1 = x", "2:r0=1 2:r1=0 3:r0=1 3:r1=0", "033300"},
		{"thread;x = 1;thread;y = 1;thread;r0 = x acq;r1 = y;thread;r0 = y acq;r1 = x", "2:r0=1 2:r1=0 3:r0=1 3:r1=0", "033330"},
		{"thread;x = 1;thread;y = 1;thread;r0 = x;fence loads;r1 = y;thread;r0 = y;fence loads;r1 = x", "2:r0=1 2:r1=0 3:r0=1 3:r1=0", "033333"},
		{"thread;x = 1;thread;r0 = x;y = 1;thread;r0 = y;r1 = x", "1:r0=1 2:r0=1 2:r1=0", "033300"},
		{"thread;x = 1;thread;r0 = x;y = 1 rel;thread;r0 = y acq;r1 = x", "1:r0=1 2:r0=1 2:r1=0", "033330"},
		{"thread;x = 1;thread;r0 = x;y = r0;thread;r0 = y;fence loads;r1 = x", "1:r0=1 2:r0=1 2:r1=0", "033303"},
	})
}
