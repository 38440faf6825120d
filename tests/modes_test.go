package tests

import (
	"math"
	"testing"

	"loop.example/g00701/impl"
)

func TestP8Modes(t *testing.T) {
	for want, mode := range modes() {
		if mode != want {
			t.Errorf("mode %d is %d", want, mode)
		}
	}
	if impl.MaxHolds != 30 || impl.MaxSession != 999 {
		t.Error("MaxHolds, MaxSession:", impl.MaxHolds, impl.MaxSession)
	}
}

// TestP8WhatFits goes through every two modes; a row tells with which ones a mode fits, from none to X.
func TestP8WhatFits(t *testing.T) {
	for a, row := range []string{"111111", "111110", "111000", "110100", "110000", "100000"} {
		for b := range modes() {
			want := row[b] == '1'
			if fitsByTheRule(a, b) != want {
				t.Fatal("by the rule:", a, b)
			}
			if fits, code := impl.Compatible(a, b); fits != want || code != impl.OK {
				t.Errorf("Compatible(%d, %d) = %v, %d", a, b, fits, code)
			}
			if fits, code := impl.Compatible(b, a); fits != want || code != impl.OK {
				t.Errorf("Compatible(%d, %d) = %v, %d, and not so the other way round", b, a, fits, code)
			}
		}
	}
}

func TestP8Joins(t *testing.T) {
	for a, row := range []string{"012345", "112345", "222445", "334345", "444445", "555555"} {
		for b := range modes() {
			want := int(row[b] - '0')
			if joinModesByTheRule(a, b) != want {
				t.Fatal("by the rule:", a, b)
			}
			if mode, code := impl.JoinModes(a, b); mode != want || code != impl.OK {
				t.Errorf("JoinModes(%d, %d) = %d, %d", a, b, mode, code)
			}
			if mode, code := impl.JoinModes(b, a); mode != want || code != impl.OK {
				t.Errorf("JoinModes(%d, %d) = %d, %d, and not so the other way round", b, a, mode, code)
			}
		}
	}
}

func TestP8Intents(t *testing.T) {
	for mode, want := range []int{0, 1, 2, 1, 2, 2} {
		if intentByTheRule(mode) != want {
			t.Fatal("by the rule:", mode)
		}
		if intent, code := impl.IntentOf(mode); intent != want || code != impl.OK {
			t.Errorf("IntentOf(%d) = %d, %d", mode, intent, code)
		}
	}
}

// TestP8ModesGoTogether: what fits with a join fits with both of it, and intentions alone never stand against each other.
func TestP8ModesGoTogether(t *testing.T) {
	for _, a := range modes() {
		for _, b := range modes() {
			join, _ := impl.JoinModes(a, b)
			one, _ := impl.IntentOf(a)
			other, _ := impl.IntentOf(b)
			if fits, _ := impl.Compatible(one, other); !fits {
				t.Errorf("the intentions of %d and %d do not fit", a, b)
			}
			for _, c := range modes() {
				whole, _ := impl.Compatible(join, c)
				first, _ := impl.Compatible(a, c)
				second, _ := impl.Compatible(b, c)
				if whole != (first && second) {
					t.Errorf("%d fits with %d: %v; with %d, the join of both: %v", c, a, first, join, whole)
				}
			}
		}
	}
}

func TestP8NoModes(t *testing.T) {
	for _, n := range []int{math.MinInt, -1 << 32, -1, 6, 7, 256, 1 << 32, 1<<32 + 1, math.MaxInt} {
		if intent, code := impl.IntentOf(n); intent != 0 || code != impl.ErrMode {
			t.Errorf("IntentOf(%d) = %d, %d", n, intent, code)
		}
		for _, other := range append(modes(), n, -n, -1, 6, math.MinInt, math.MaxInt) {
			for _, pair := range [][2]int{{n, other}, {other, n}} {
				if fits, code := impl.Compatible(pair[0], pair[1]); fits || code != impl.ErrMode {
					t.Errorf("Compatible%v = %v, %d", pair, fits, code)
				}
				if mode, code := impl.JoinModes(pair[0], pair[1]); mode != 0 || code != impl.ErrMode {
					t.Errorf("JoinModes%v = %d, %d", pair, mode, code)
				}
			}
		}
	}
}
