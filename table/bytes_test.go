package table

import (
	"math"
	"slices"
	"strings"
	"testing"

	"bramble/api"
	"bramble/sample"
)

// numbersOf is tables as the numbers that the chapter says.
func numbersOf(t api.Table) []int {
	l := []int{len(t.Rows)}
	for _, r := range t.Rows {
		l = append(l, len(r.Acts))
		for _, a := range r.Acts {
			l = append(l, a.Look, a.To+1, len(a.Reduce))
			l = append(l, a.Reduce...)
			accept := map[bool]int{true: 1}[a.Accept]
			l = append(l, accept)
		}
		l = append(l, len(r.Goes))
		for _, g := range r.Goes {
			l = append(l, g.Sym, g.To)
		}
	}
	return l
}

// bytesOf is numbers as bytes; "", if one of them can't be.
func bytesOf(l ...int) string {
	var s []byte
	for _, n := range l {
		if n < 0 || n > 65535 {
			return ""
		}
		s = append(s, byte(n/256), byte(n%256))
	}
	return string(s)
}

// holdThereAndBack fails where tables of which all numbers can be written do not come back as they were (P12.6).
func holdThereAndBack(t *testing.T, table api.Table) {
	t.Helper()
	s := Encode(table)
	if want := bytesOf(numbersOf(table)...); s != want || s == "" {
		t.Fatalf("%d rows are written as %.80q, not %.80q", len(table.Rows), s, want)
	}
	back, err := Decode(s)
	if err != api.OK || !Same(back, table) || Encode(back) != s {
		t.Fatalf("%.80q is read as %d rows, %v", s, len(back.Rows), err)
	}
}

// P12.5, P12.6 of tables that are written.
func TestEncode(t *testing.T) {
	f := plain(t, "x y", "a", "a -> x a; a -> y")
	for _, c := range []struct{ table, want string }{
		{"", "\x00\x01" + "\x00\x00" + "\x00\x00"},
		{"|", "\x00\x02" + "\x00\x00\x00\x00" + "\x00\x00\x00\x00"},
		{"x>1", "\x00\x01" + "\x00\x01" + "\x00\x00\x00\x02\x00\x00\x00\x00" + "\x00\x00"},
		{"$!", "\x00\x01" + "\x00\x01" + "\x00\x02\x00\x00\x00\x00\x00\x01" + "\x00\x00"},
		{"$/3,258!", "\x00\x01" + "\x00\x01" + "\x00\x02\x00\x00\x00\x02\x00\x03\x01\x02\x00\x01" + "\x00\x00"},
		{"a=4", "\x00\x01" + "\x00\x00" + "\x00\x01" + "\x00\x02\x00\x04"},
		{"a=4 x=772", "\x00\x01" + "\x00\x00" + "\x00\x02" + "\x00\x02\x00\x04" + "\x00\x00\x03\x04"},
		{"x>0/1 1029>0! x=0 | y>255", "\x00\x02" + "\x00\x02" + "\x00\x00\x00\x01\x00\x01\x00\x01\x00\x00" + "\x04\x05\x00\x01\x00\x00\x00\x01" + "\x00\x01" + "\x00\x00\x00\x00" +
			"\x00\x01" + "\x00\x01\x01\x00\x00\x00\x00\x00" + "\x00\x00"},
	} {
		table := sample.TableOf(f, c.table)
		if got := Encode(table); got != c.want {
			t.Errorf("%q: %q, not %q", c.table, got, c.want)
		}
		holdThereAndBack(t, table)
	}
	if got := Encode(api.Table{}); got != "\x00\x00" {
		t.Errorf("of no tables: %q", got)
	}
	holdThereAndBack(t, api.Table{})
}

// Each number of tables becomes another one, near those that can be written and far off.
func TestEncodeByEachNumber(t *testing.T) {
	f, base := small(t)
	holdThereAndBack(t, base)
	numbers := []int{0, 1, 255, 256, 257, 32767, 32768, 65534, 65535, 65536, 65537, 131071, 131072, 1 << 24, math.MaxInt32, 1 << 32, 1<<32 + 1, math.MaxInt - 1, math.MaxInt,
		-1, -2, -3, -255, -256, -257, -65535, -65536, -65537, math.MinInt32, -1 << 32, math.MinInt + 1, math.MinInt}
	for _, number := range numbersIn(base) {
		had := *number
		for _, n := range numbers {
			*number = n
			want := bytesOf(numbersOf(base)...)
			if got := Encode(base); got != want {
				t.Fatalf("%v: %q, not %q", base, got, want)
			}
			if want != "" {
				holdThereAndBack(t, base)
			}
		}
		*number = had
	}
	for _, c := range []struct {
		table string
		told  bool
	}{
		{"0>0", true}, {"65535>0", true}, {"65536>0", false}, {"-1>0", false},
		{"x>-2", false}, {"x>-1", true}, {"x>0", true}, {"x>65534", true}, {"x>65535", false}, {"x>65536", false}, {"x>9223372036854775807", false},
		{"x/0", true}, {"x/65535", true}, {"x/65536", false}, {"x/-1", false}, {"x/0,-1", false}, {"x/65536,0", false},
		{"0=0", true}, {"65535=0", true}, {"65536=0", false}, {"-1=0", false},
		{"x=0", true}, {"x=65535", true}, {"x=65536", false}, {"x=-1", false},
		{"x>0 | x=65535", true}, {"x>0 | x=65536", false}, {"x>-2 | x=0", false}, {"-1/-1! -1=-1", false},
	} {
		if got := Encode(sample.TableOf(f, c.table)); (got != "") != c.told {
			t.Errorf("%q: %q", c.table, got)
		}
	}
}

// P12.5: as many in one place as can be told, and one more.
func TestEncodeCounts(t *testing.T) {
	for _, many := range []int{255, 256, 65534, 65535, 65536, 65537, 131072, 200000} {
		for i, table := range []api.Table{
			{Rows: make([]api.Row, many)},
			{Rows: []api.Row{{}, {Acts: make([]api.Act, many)}}},
			{Rows: []api.Row{{Acts: []api.Act{{}, {Reduce: make([]int, many)}}}}},
			{Rows: []api.Row{{Goes: make([]api.Go, many)}, {}}},
		} {
			if many <= 65535 {
				holdThereAndBack(t, table)
			} else if got := Encode(table); got != "" {
				t.Errorf("place %d, %d: %d bytes", i, many, len(got))
			}
		}
	}
}

// sheet is a text that is read number by number; the first error stays.
type sheet struct {
	s   string
	at  int
	err api.Errno
}

func (s *sheet) next() int {
	if s.err == api.OK && s.at+2 > len(s.s) {
		s.err = api.ErrShort
	}
	if s.err != api.OK {
		return 0
	}
	s.at += 2
	return int(s.s[s.at-2])*256 + int(s.s[s.at-1])
}

// decodeByWords is the numbers of what Decode tells, by the chapter's words, and its error.
func decodeByWords(text string) ([]int, api.Errno) {
	s := &sheet{s: text}
	var l []int
	take := func() int {
		l = append(l, s.next())
		return l[len(l)-1]
	}
	for rows := take(); rows > 0 && s.err == api.OK; rows-- {
		for acts := take(); acts > 0 && s.err == api.OK; acts-- {
			take()
			take()
			for prods := take(); prods > 0; prods-- {
				take()
			}
			if accept := take(); accept > 1 && s.err == api.OK {
				s.err = api.ErrForm
			}
		}
		for goes := take(); goes > 0 && s.err == api.OK; goes-- {
			take()
			take()
		}
	}
	if s.err == api.OK && s.at < len(text) {
		s.err = api.ErrForm
	}
	return l, s.err
}

// holdDecode fails where Decode tells something else of a text than the chapter's words say, or what it tells is written otherwise (P12.6). It tells the error.
func holdDecode(t *testing.T, s string) api.Errno {
	t.Helper()
	numbers, err := decodeByWords(s)
	got, e := Decode(s)
	if e != err {
		t.Fatalf("%.80q: %v, not %v", s, e, err)
	}
	if err != api.OK && got.Rows != nil {
		t.Fatalf("%.80q: %v beside %v", s, got, err)
	}
	if err == api.OK && (!slices.Equal(numbersOf(got), numbers) || Encode(got) != s) {
		t.Fatalf("%.80q is read as %v", s, got)
	}
	return err
}

// P12.5: Decode of texts that are written out.
func TestDecode(t *testing.T) {
	for _, c := range []struct {
		what string
		s    string
		want api.Errno
	}{
		{"the empty text", "", api.ErrShort},
		{"half a number", "\x00", api.ErrShort},
		{"no rows", bytesOf(0), api.OK},
		{"no rows, a byte behind", bytesOf(0) + "\x00", api.ErrForm},
		{"no rows, a number behind", bytesOf(0, 0), api.ErrForm},
		{"a row that is not there", bytesOf(1), api.ErrShort},
		{"a row of nothing", bytesOf(1, 0, 0), api.OK},
		{"a row without Goes", bytesOf(1, 0), api.ErrShort},
		{"a row of nothing, half a number behind", bytesOf(1, 0, 0) + "x", api.ErrForm},
		{"a row of nothing, a row behind", bytesOf(1, 0, 0, 0, 0), api.ErrForm},
		{"as many rows as can be told, but one", bytesOf(65535) + strings.Repeat("\x00", 65534*4), api.ErrShort},
		{"as many rows as can be told", bytesOf(65535) + strings.Repeat("\x00", 65535*4), api.OK},
		{"as many rows as can be told, and one", bytesOf(65535) + strings.Repeat("\x00", 65536*4), api.ErrForm},
		{"an Act", bytesOf(1, 1, 7, 8, 0, 0, 0), api.OK},
		{"an Act of Accept", bytesOf(1, 1, 7, 8, 0, 1, 0), api.OK},
		{"an Accept of 2", bytesOf(1, 1, 7, 8, 0, 2, 0), api.ErrForm},
		{"an Accept of 255", bytesOf(1, 1, 7, 8, 0, 255, 0), api.ErrForm},
		{"an Accept of 256", bytesOf(1, 1, 7, 8, 0, 256, 0), api.ErrForm},
		{"an Accept of 257", bytesOf(1, 1, 7, 8, 0, 257, 0), api.ErrForm},
		{"an Accept of 65535", bytesOf(1, 1, 7, 8, 0, 65535, 0), api.ErrForm},
		{"an Accept of 2, and the end", bytesOf(1, 1, 7, 8, 0, 2), api.ErrForm},
		{"an Accept of 256, half a number behind", bytesOf(1, 1, 7, 8, 0, 256) + "\x00", api.ErrForm},
		{"half an Accept", bytesOf(1, 1, 7, 8, 0) + "\x00", api.ErrShort},
		{"half an Accept that would be too great", bytesOf(1, 1, 7, 8, 0) + "\x02", api.ErrShort},
		{"no Accept", bytesOf(1, 1, 7, 8, 0), api.ErrShort},
		{"an Accept of 2, a row that is not there", bytesOf(2, 1, 7, 8, 0, 2, 0), api.ErrForm},
		{"an Accept of 2, bytes behind", bytesOf(1, 1, 7, 8, 0, 2, 0, 9), api.ErrForm},
		{"an Accept of 2 in a second row that ends ahead", bytesOf(2, 0, 0, 1, 7, 8, 0, 2), api.ErrForm},
		{"a second row that ends ahead of its Accept", bytesOf(2, 1, 7, 8, 0, 1, 0, 1, 7, 8, 0), api.ErrShort},
		{"a Reduce that looks like an Accept of 2", bytesOf(1, 1, 7, 8, 1, 2, 0, 0), api.OK},
		{"a Reduce ahead of an Accept of 2", bytesOf(1, 1, 7, 8, 1, 0, 2, 0), api.ErrForm},
		{"Reduce that are not there", bytesOf(1, 1, 7, 8, 65535, 0, 0), api.ErrShort},
		{"Acts that are not there", bytesOf(1, 65535, 7, 8, 0, 1), api.ErrShort},
		{"Goes", bytesOf(1, 0, 2, 3, 4, 5, 6), api.OK},
		{"Goes, half a number short", bytesOf(1, 0, 2, 3, 4, 5) + "\x00", api.ErrShort},
		{"Goes that are not there", bytesOf(1, 0, 65535, 3, 4), api.ErrShort},
		{"a text", "bramble", api.ErrShort},
	} {
		if got := holdDecode(t, c.s); got != c.want {
			t.Errorf("%s: %v, not %v", c.what, got, c.want)
		}
	}
}

// The numbers stand in their fields; To is 1 less than its number.
func TestDecodeFields(t *testing.T) {
	want := api.Table{Rows: []api.Row{
		{Acts: []api.Act{{Look: 258, To: -1, Reduce: []int{772, 5}}, {Look: 65535, To: 65534, Accept: true}}, Goes: []api.Go{{Sym: 9, To: 10}, {Sym: 65535, To: 65535}}},
		{},
		{Goes: []api.Go{{Sym: 0, To: 0}}},
	}}
	got, err := Decode(bytesOf(3, 2, 258, 0, 2, 772, 5, 0, 65535, 65535, 0, 1, 2, 9, 10, 65535, 65535, 0, 0, 0, 1, 0, 0))
	if err != api.OK || !Same(got, want) {
		t.Errorf("%v, %v, not %v", got, err, want)
	}
	if got.Rows[1].Acts != nil || got.Rows[1].Goes != nil || got.Rows[0].Acts[1].Reduce != nil {
		t.Errorf("an empty list is not none: %v", got)
	}
}

// Every text of a few numbers, some of them cut.
func TestDecodeOfAll(t *testing.T) {
	met := map[api.Errno]int{}
	for _, s := range sample.Texts([]string{"\x00\x00", "\x00\x01", "\x00\x02", "\x01\x00", "\x00"}, 7) {
		met[holdDecode(t, s)]++
	}
	for _, s := range sample.Texts([]string{"\x00\x00", "\x00\x01"}, 13) {
		met[holdDecode(t, s)]++
	}
	if met[api.OK] < 100 || met[api.ErrShort] < 1000 || met[api.ErrForm] < 1000 || len(met) != 3 {
		t.Errorf("each error so often: %v", met)
	}
}

// A text that ends at each place ahead, has bytes behind, or another number in each place.
func TestDecodeOfChanged(t *testing.T) {
	seed := sample.Seed(34)
	all := []api.Table{{}}
	for range 200 {
		f := sample.Flat(&seed, sample.Symbols(seed.Below(4), 1+seed.Below(3)), seed.Below(5), 2)
		all = append(all, sample.FitTable(&seed, f, 1+seed.Below(3)))
	}
	for _, table := range all {
		holdThereAndBack(t, table)
		s := Encode(table)
		for at := range len(s) {
			if got := holdDecode(t, s[:at]); got != api.ErrShort {
				t.Fatalf("%q up to %d: %v", s, at, got)
			}
		}
		for _, behind := range []string{"\x00", "\x00\x00", "\xff", "x", s} {
			if got := holdDecode(t, s+behind); got != api.ErrForm {
				t.Fatalf("%q and %q: %v", s, behind, got)
			}
		}
		for at := 0; at < len(s); at += 2 {
			for _, n := range []int{0, 1, 2, 3, 255, 256, 257, 65535} {
				changed := s[:at] + bytesOf(n) + s[at+2:]
				holdDecode(t, changed)
				holdDecode(t, changed[:len(changed)-1-seed.Below(len(changed)-1)])
				holdDecode(t, changed+"\x00\x00")
			}
		}
	}
}

// P12.6 of drawn ones: what can be written comes back, and what can't is the empty text.
func TestThereAndBackOfDrawn(t *testing.T) {
	seed := sample.Seed(35)
	told, untold := 0, 0
	for range 5000 {
		table := sample.AnyTable(&seed, 3)
		if bytesOf(numbersOf(table)...) == "" {
			untold++
			if got := Encode(table); got != "" {
				t.Fatalf("%v: %q", table, got)
			}
			continue
		}
		told++
		holdThereAndBack(t, table)
	}
	if told < 500 || untold < 500 {
		t.Errorf("%d are told, %d are not", told, untold)
	}
	for _, table := range unlike() {
		if bytesOf(numbersOf(table)...) != "" {
			holdThereAndBack(t, table)
		}
	}
}

// P12.6 of what is built, and of drawn bytes.
func TestThereAndBackOfBuilt(t *testing.T) {
	for _, c := range buildCases() {
		built, _ := Build(plain(t, c.terms, c.nons, c.prods))
		holdThereAndBack(t, built)
	}
	seed := sample.Seed(36)
	for n := range 20000 {
		s := make([]byte, seed.Below(40))
		for i := range s {
			if seed.Below(4) == 0 || i%2 == 1 && n%2 == 0 {
				s[i] = byte(seed.Below(3))
			}
			if seed.Below(40) == 0 {
				s[i] = byte(seed.Below(256))
			}
		}
		holdDecode(t, string(s))
	}
}
