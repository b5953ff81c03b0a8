package wal

import (
	"bytes"
	"hash/fnv"
	"math/rand"
	"slices"
	"strings"
	"testing"

	"palmette/api"
)

func random(r *rand.Rand, n int) (*Log, [][]byte) {
	j := New()
	var parts [][]byte
	for range n {
		data := make([]byte, r.Intn(30))
		for i := range data {
			data[i] = byte([]int{r.Intn(256), '\n', ' ', '0'}[r.Intn(4)])
		}
		b, e := j.Append(Entry{[]string{"a", "b!", "~long-name"}[r.Intn(3)], string(data)})
		if e != api.OK {
			panic(e)
		}
		parts = append(parts, b)
	}
	return j, parts
}

// P53.1.
func TestAppend(t *testing.T) {
	j := New()
	b, e := j.Append(Entry{"a", ""})
	if e != api.OK || len(b) != 14 || !strings.HasPrefix(string(b), "a 0 ") || j.Len() != 1 {
		t.Errorf("%q", b)
	}
	if Checksum(nil) != 2166136261 || Checksum([]byte("a")) != 3826002220 {
		t.Error("Checksum")
	}
	h := fnv.New32a()
	h.Write([]byte("name\nda\nta"))
	if b, _ := j.Append(Entry{"name", "da\nta"}); Checksum([]byte("name\nda\nta")) != h.Sum32() || !strings.HasSuffix(string(b), "\nda\nta\n") || !strings.HasPrefix(string(b), "name 5 ") {
		t.Errorf("%q", b)
	}
	for _, x := range []struct {
		e    Entry
		want api.Errno
	}{{Entry{"", ""}, api.ErrUnknown}, {Entry{strings.Repeat("n", 33), strings.Repeat("d", 70000)}, api.ErrUnknown}, {Entry{"a b", ""}, api.ErrUnknown}, {Entry{"a\x7f", ""}, api.ErrUnknown}, {Entry{"é", ""}, api.ErrUnknown}, {Entry{strings.Repeat("n", 32), strings.Repeat("d", 65536)}, api.OK}, {Entry{"a", strings.Repeat("d", 65537)}, api.ErrRange}} {
		n := j.Len()
		if b, e := j.Append(x.e); e != x.want || e != api.OK && (b != nil || j.Len() != n) {
			t.Error(x.e.Name, e)
		}
	}
	full := New()
	for range MaxEntries {
		full.Append(Entry{"a", ""})
	}
	if b, e := full.Append(Entry{"a", ""}); b != nil || e != api.ErrLimit {
		t.Error(e)
	}
	if _, e := full.Append(Entry{"", ""}); e != api.ErrUnknown {
		t.Error(e)
	}
	more := append(full.Bytes(), []byte("a 0 e40c292c\n\n")...)
	if k, n, e := Recover(more); !k.Equal(full) || n != 14*MaxEntries || e != api.ErrTruncated {
		t.Error(k.Len(), n, e)
	}
	if k, n, e := Recover(full.Bytes()); !k.Equal(full) || n != 14*MaxEntries || e != api.OK {
		t.Error(n, e)
	}
}

// P53.2 and P53.5: all prefixes, and all changes of a byte of data.
func TestRecover(t *testing.T) {
	r := rand.New(rand.NewSource(1))
	for range 30 {
		j, parts := random(r, r.Intn(6))
		all := j.Bytes()
		if !bytes.Equal(all, slices.Concat(parts...)) {
			t.Fatal("Bytes")
		}
		entries, end := 0, 0
		for n := range len(all) + 1 {
			if entries < len(parts) && n == end+len(parts[entries]) {
				end += len(parts[entries])
				entries++
			}
			k, m, e := Recover(all[:n])
			want := api.ErrTruncated
			if n == end {
				want = api.OK
			}
			if m != end || e != want || !slices.Equal(k.Entries(), j.Entries()[:entries]) {
				t.Fatal(n, m, e)
			}
		}
		start := 0
		for i, p := range parts {
			data := len(j.Entries()[i].Data)
			for k := start + len(p) - 1 - data; k < start+len(p)-1; k++ {
				b := slices.Clone(all)
				b[k] ^= byte(1 + r.Intn(255))
				if k, m, e := Recover(b); m != start || e != api.ErrTruncated || k.Len() != i {
					t.Fatal(i, m, e)
				}
			}
			start += len(p)
		}
	}
	good := New()
	b, _ := good.Append(Entry{"x", "yz"})
	s := string(b)
	for _, bad := range []string{strings.Replace(s, " 2 ", " 02 ", 1), strings.Replace(s, " 2 ", "  2 ", 1), strings.Replace(s, " 2 ", " 1 ", 1), strings.Replace(s, " 2 ", " 99999999999999999999 ", 1), strings.Replace(s, " 2 ", " -2 ", 1), " " + s, strings.ToUpper(s), "x y" + s, s[:len(s)-1] + "x", strings.Replace(s, "x", "q", 1), strings.Repeat("x", 33) + s[1:]} {
		if j, n, e := Recover([]byte(bad)); bad != s && (j.Len() != 0 || n != 0 || e != api.ErrTruncated) {
			t.Errorf("%q %d %d", bad, n, e)
		}
	}
	if j, n, e := Recover(nil); j.Len() != 0 || n != 0 || e != api.OK {
		t.Error(n, e)
	}
}

// P53.3 and P53.4.
func TestLists(t *testing.T) {
	j := New()
	for _, e := range []Entry{{"b", "1"}, {"a", "2"}, {"b", "3"}, {"c", "4"}} {
		j.Append(e)
	}
	if !slices.Equal(j.ByName("b"), []Entry{{"b", "1"}, {"b", "3"}}) || len(j.ByName("x")) != 0 || !slices.Equal(j.Names(), []string{"b", "a", "c"}) || !slices.Equal(j.Without([]string{"b", "c", "x"}).Entries(), []Entry{{"a", "2"}}) || j.Len() != 4 || !j.Without(nil).Equal(j) {
		t.Error(j)
	}
	c := j.Clone()
	c.Append(Entry{"d", ""})
	j.Entries()[0].Name = "z"
	if c.Equal(j) || j.Len() != 4 || j.Entries()[0].Name != "b" || !j.Equal(j.Clone()) || j.Equal(nil) {
		t.Error("Clone")
	}
	var none *Log
	if b, e := none.Append(Entry{}); b != nil || e != api.ErrArgument {
		t.Error(e)
	}
	if none.Bytes() != nil || none.Entries() != nil || none.ByName("") != nil || none.Names() != nil || none.Len() != 0 || none.Without(nil) != nil || none.Clone() != nil || !none.Equal(nil) || none.Equal(j) {
		t.Error("nil")
	}
}
