package decimal

import "testing"

func TestRead(t *testing.T) {
	for _, x := range []struct {
		s       string
		at      int
		most    int
		n, end  int
		ok, neg bool
	}{
		{"0", 0, 9, 0, 1, true, true}, {"12x", 0, 99, 12, 2, true, true}, {"a10", 1, 9, 0, 3, false, false},
		{"10", 0, 10, 10, 2, true, true}, {"11", 0, 10, 0, 2, false, false}, {"01", 0, 99, 0, 2, false, false},
		{"", 0, 9, 0, 0, false, false}, {"x", 0, 9, 0, 0, false, false}, {"7", 0, 3, 0, 1, false, false},
		{"99999999999999999999999999", 0, 1 << 40, 0, 26, false, false}, {"-5", 0, 9, 0, 0, false, true},
	} {
		if n, end, ok := Read(x.s, x.at, x.most); ok != x.ok || ok && n != x.n || end != x.end {
			t.Error(x, n, end, ok)
		}
		if _, _, ok := ReadSigned(x.s, x.at, x.most); ok != x.neg {
			t.Error(x, ok)
		}
	}
	for s, want := range map[string]bool{"-1": true, "-0": false, "--1": false, "-": false, "5": true, "5 ": false, "-9": false, "-8": true, "-01": false} {
		if _, ok := ParseSigned(s, 8); ok != want {
			t.Error(s)
		}
	}
	if n, ok := Parse("8", 8); n != 8 || !ok {
		t.Error(n)
	}
	if _, ok := Parse("8 ", 8); ok {
		t.Error("rest")
	}
}
