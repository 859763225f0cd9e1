package rulelang_test

import (
	"testing"

	"royalty/api"
	"royalty/rulelang"
)

func checkValid(t *testing.T, r api.Rule, want bool) {
	t.Helper()
	if got := rulelang.Valid(r); got != want {
		t.Errorf("Valid(%+v) = %t; want %t", r, got, want)
	}
}

func TestValidExamples(t *testing.T) {
	for _, x := range examples {
		checkValid(t, x.rule, true)
	}
	checkValid(t, exemption(0), false)
	checkValid(t, api.Rule{Action: api.RAllow, Subject: api.SDevice, N: 7}, false)
	checkValid(t, api.Rule{}, false)
}

func TestValidSamples(t *testing.T) {
	for _, r := range samples() {
		checkValid(t, r, true)
	}
	for _, r := range invalid() {
		checkValid(t, r, false)
	}
}

// TestValidAllFields tries every action, subject and measure around those that are allowed, and extreme ones, with numbers on both sides of the bounds.
func TestValidAllFields(t *testing.T) {
	for _, action := range extremes {
		for _, subject := range extremes {
			for _, measure := range extremes {
				for _, n := range extremes {
					r := judgement(action, subject, measure, n)
					if rulelang.Valid(r) != wantValid(r) {
						t.Fatalf("Valid(%+v) = %t", r, !wantValid(r))
					}
				}
			}
		}
	}
}

// TestValidEveryNumber tries all numbers around and between the bounds.
func TestValidEveryNumber(t *testing.T) {
	for n := -100; n <= 1000100; n++ {
		for _, r := range []api.Rule{judgement(1, 1, 1, n), judgement(2, 3, 4, n), exemption(n)} {
			if rulelang.Valid(r) != wantValid(r) {
				t.Fatalf("Valid(%+v) = %t", r, !wantValid(r))
			}
		}
	}
}
