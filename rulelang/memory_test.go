package rulelang_test

import (
	"math/rand"
	"slices"
	"strings"
	"testing"
	"unsafe"

	"royalty/api"
	"royalty/rulelang"
)

// spoil overwrites l, and its spare capacity.
func spoil(l []api.Rule) {
	l = l[:cap(l)]
	for i := range l {
		l[i] = judgement(-1, -2, -3, -4)
	}
}

// TestPrintMemory prints lists with spare capacity, and overwrites them afterwards.
func TestPrintMemory(t *testing.T) {
	r := rand.New(rand.NewSource(21))
	for n := range 51 {
		space := append(some(r, n), judgement(9, 9, 9, 9), exemption(5))
		before := slices.Clone(space)
		got, e := rulelang.Print(space[:n])
		want := wantText(before[:n])
		if !slices.Equal(space, before) {
			t.Errorf("Print has changed its argument of %d rules", n)
		}
		spoil(space)
		if got != want || e != api.OK {
			t.Errorf("a result of Print is %s, %d; want %s, 0", show(got), e, show(want))
		}
		checkPrintRefuses(t, append([]api.Rule{{}}, before[:n]...))
		checkPrint(t, before[:n], want)
	}
}

// TestPrintTwice compares two results of the same call: they are new, so that neither is a part of the other.
func TestPrintTwice(t *testing.T) {
	l := samples()[:50]
	a, _ := rulelang.Print(l)
	b, _ := rulelang.Print(l)
	if a != b || unsafe.StringData(a) == unsafe.StringData(b) {
		t.Error("two results of Print differ, or are the same memory")
	}
}

// TestParseMemory overwrites the results of Parse, each with its spare capacity, and the bytes that the text was made of.
func TestParseMemory(t *testing.T) {
	texts(22, 300, func(text string, plain string) {
		code := []byte(text)
		s := unsafe.String(unsafe.SliceData(code), len(code))
		a, _, _ := rulelang.Parse(s)
		b, _, _ := rulelang.Parse(s)
		want, _, _ := wantParse(text)
		if string(code) != text {
			t.Errorf("Parse has changed its argument %s", show(text))
		}
		spoil(a)
		if string(code) != text {
			t.Error("a result of Parse is a part of its argument")
		}
		checkRules(t, s, want)
		clear(code)
		if !slices.Equal(b, want) {
			t.Errorf("a result of Parse(%s) has changed", show(text))
		}
		checkPrint(t, b, plain)
	})
}

// TestErrorsAreZero looks at all results of calls that fail behind rules that were read already.
func TestErrorsAreZero(t *testing.T) {
	s := fifty()
	for _, text := range []string{s + "x", s + "allow account 7", "allow account 7\nallow account 0", strings.Repeat(s, 100)} {
		if l, _, e := rulelang.Parse(text); len(l) != 0 || cap(l) != 0 || e != api.ErrRules {
			t.Errorf("Parse(%s) = %d rules with room for %d, %d", show(text), len(l), cap(l), e)
		}
	}
}

// TestCallsApart makes calls with other arguments in between: nothing is kept.
func TestCallsApart(t *testing.T) {
	r := rand.New(rand.NewSource(23))
	var all []string
	texts(24, 50, func(text string, plain string) { all = append(all, text, plain, changed(r, text)) })
	for range 2000 {
		checkParse(t, all[r.Intn(len(all))])
		l := some(r, r.Intn(51))
		checkPrint(t, l, wantText(l))
		for _, x := range l {
			checkValid(t, x, true)
		}
	}
}

// TestAnyText parses arbitrary bytes, and words and spaces in arbitrary order: no call panics.
func TestAnyText(t *testing.T) {
	r := rand.New(rand.NewSource(25))
	for range 20000 {
		code := make([]byte, r.Intn(40))
		for i := range code {
			code[i] = byte(r.Intn(256))
		}
		checkParse(t, string(code))
		s := ""
		for range r.Intn(12) {
			s += vocabulary[r.Intn(len(vocabulary))]
			s += []string{" ", " ", " ", " ", "\n", "", "  "}[r.Intn(7)]
		}
		checkParse(t, s)
	}
}

// FuzzParse compares Parse with its definition. As a test, it tries the texts below alone.
func FuzzParse(f *testing.F) {
	for _, s := range append(slices.Clone(roots), "", "\n", "#", " ", fifty(), fifty()+"x", "allow account 7\n\n# x\nvoid if cluster devices > 20\n") {
		f.Add(s)
	}
	f.Fuzz(func(t *testing.T, s string) { checkParse(t, s) })
}
