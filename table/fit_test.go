package table

import (
	"math"
	"slices"
	"testing"

	"bramble/api"
	"bramble/flat"
	"bramble/sample"
)

// small is a plain grammar of two terminals, two others and three productions, and tables that are Fit for it and have something in each field.
func small(t *testing.T) (api.Flat, api.Table) {
	t.Helper()
	f := plain(t, "x y", "a b", "a -> x b; a -> b; b -> y")
	return f, sample.TableOf(f, "x>2 y/0,2 $/1! x=1 a=2 b=0 | y>0/1 $/0 y=1 | $! |")
}

// numbersIn is each number of tables, where it stands.
func numbersIn(t api.Table) []*int {
	var l []*int
	for _, r := range t.Rows {
		for i := range r.Acts {
			l = append(l, &r.Acts[i].Look, &r.Acts[i].To)
			for k := range r.Acts[i].Reduce {
				l = append(l, &r.Acts[i].Reduce[k])
			}
		}
		for i := range r.Goes {
			l = append(l, &r.Goes[i].Sym, &r.Goes[i].To)
		}
	}
	return l
}

// fitByWords is Fit, said sentence by sentence.
func fitByWords(f api.Flat, t api.Table) bool {
	states, end, fit := len(t.Rows), len(f.Terms), len(t.Rows) >= 1 && len(t.Rows) <= 600
	hold := func(ok bool) { fit = fit && ok }
	for _, r := range t.Rows {
		for i, a := range r.Acts {
			for _, b := range r.Acts[:i] {
				hold(b.Look < a.Look)
			}
			hold(a.Look >= 0 && a.Look <= end)
			hold(a.To == -1 || a.To >= 0 && a.To < states)
			hold(a.Look != end || a.To == -1)
			for k, prod := range a.Reduce {
				hold(prod >= 0 && prod < len(f.Prods))
				for _, ahead := range a.Reduce[:k] {
					hold(ahead < prod)
				}
			}
			hold(!a.Accept || a.Look == end)
			hold(a.To != -1 || len(a.Reduce) > 0 || a.Accept)
		}
		for i, g := range r.Goes {
			for _, h := range r.Goes[:i] {
				hold(h.Sym < g.Sym)
			}
			hold(g.Sym >= 0 && g.Sym < len(f.Terms)+len(f.Nons))
			hold(g.To >= 0 && g.To < states)
		}
	}
	return fit
}

// P12.2 of tables that are written.
func TestFit(t *testing.T) {
	f, base := small(t)
	if !Fit(f, base) {
		t.Error("it is not Fit")
	}
	for _, c := range []struct {
		what, table string
		fit         bool
	}{
		{"a row of nothing", "", true},
		{"rows of nothing", "||", true},
		{"Acts that rise", "x>0 y>0 $!", true},
		{"Acts with some left out", "x>0 $!", true},
		{"Acts that fall", "y>0 x>0", false},
		{"Acts that fall to the end's left", "x>0 $! y>0", false},
		{"Acts that are there twice", "x>0 x>0", false},
		{"Acts that are there twice, unlike", "x>0 x/0", false},
		{"the end twice", "$! $/0", false},
		{"Acts that fall in the second row", "x>0 y>0 | y>0 x>0", false},
		{"Acts that fall from row to row", "$! | y>0 | x>0", true},
		{"Goes that rise", "x=0 y=0 a=0 b=0", true},
		{"Goes with some left out", "x=0 b=0", true},
		{"Goes that fall", "b=0 a=0", false},
		{"Goes that fall to a terminal", "x=0 a=0 y=0", false},
		{"Goes that are there twice", "a=0 a=0", false},
		{"Goes that are there twice, unlike", "a=0 a=1 |", false},
		{"Goes that fall in the last row", "| | a=0 x=0", false},
		{"Goes that fall from row to row", "b=0 | a=0 | x=0", true},
		{"a Look below 0", "-1>0", false},
		{"a Look below 0 that reduces", "-1/0", false},
		{"a Look that is the end", "2/0", true},
		{"a Look behind the end", "3/0", false},
		{"a Look behind the end that takes the whole", "3!", false},
		{"a To of the last state", "x>2 | |", true},
		{"a To behind the last state", "x>3 | |", false},
		{"a To below -1", "x>-2/0", false},
		{"a To of -1 beside a Reduce", "x>-1/0", true},
		{"a To of the end", "$>0", false},
		{"a To of the end beside a Reduce", "$>1/0 |", false},
		{"a To of the end beside Accept", "$>0!", false},
		{"a To of the end below -1", "$>-2!", false},
		{"Reduce rising", "x/0,1,2", true},
		{"Reduce with some left out", "x/0,2", true},
		{"Reduce that falls", "x/1,0", false},
		{"Reduce that falls at the end", "$/0,2,1", false},
		{"Reduce there twice", "x/1,1", false},
		{"Reduce of the last production", "x/2", true},
		{"Reduce behind the last production", "x/3", false},
		{"Reduce behind the last production, the second", "x/0,3", false},
		{"Reduce below 0", "x/-1", false},
		{"Reduce below 0, the first", "x/-1,0", false},
		{"Accept at the end", "$!", true},
		{"Accept at the end beside Reduce", "$/0,1!", true},
		{"Accept in each row", "$! | $!", true},
		{"Accept at the first terminal", "x!", false},
		{"Accept at the last terminal", "y!", false},
		{"Accept at a terminal that is shifted", "x>0!", false},
		{"Accept at a terminal that reduces", "x/0!", false},
		{"an Act that does nothing", "x", false},
		{"an Act that does nothing, at the end", "$", false},
		{"an Act that does nothing, behind others", "x>0 | x>0 y", false},
		{"a Sym below 0", "-1=0", false},
		{"a Sym behind the last one", "4=0", false},
		{"a Sym that is the last one", "3=0", true},
		{"a To of Goes behind the last state", "a=1", false},
		{"a To of Goes below 0", "a=-1", false},
		{"a To of Goes of the last state", "a=1 |", true},
		{"an Act that shifts where nothing goes", "x>0", true},
		{"an Act that shifts elsewhere than goes", "x>0 x=1 |", true},
	} {
		table := sample.TableOf(f, c.table)
		if Fit(f, table) != c.fit || fitByWords(f, table) != c.fit {
			t.Errorf("%s: Fit is %v", c.what, Fit(f, table))
		}
	}
}

// P12.2: no row, and from 600 to 601.
func TestFitCountsRows(t *testing.T) {
	f, _ := small(t)
	for _, many := range []int{0, 1, 2, 599, 600, 601, 602, 1200, 65536} {
		want := many >= 1 && many <= 600
		table := api.Table{Rows: make([]api.Row, many)}
		if Fit(f, table) != want {
			t.Errorf("%d rows: Fit is %v", many, !want)
		}
		for state := range table.Rows {
			table.Rows[state] = sample.TableOf(f, "x>0/2 y>1 $/0! x=0 b=1").Rows[0]
		}
		if want = want && many > 1; Fit(f, table) != want {
			t.Errorf("%d rows alike: Fit is %v", many, !want)
		}
		if !want {
			continue
		}
		for _, to := range []int{many - 1, many} {
			table.Rows[many-1].Acts[0].To = to
			if Fit(f, table) != (to < many) {
				t.Errorf("%d rows, a To of %d: Fit is %v", many, to, to >= many)
			}
			table.Rows[many-1].Acts[0].To = 0
			table.Rows[0].Goes[0].To = to
			if Fit(f, table) != (to < many) {
				t.Errorf("%d rows, a To of Goes of %d: Fit is %v", many, to, to >= many)
			}
		}
	}
	if Fit(f, api.Table{Rows: []api.Row{}}) {
		t.Error("an empty list of rows is Fit")
	}
}

// Each number of tables becomes another one.
func TestFitByEachNumber(t *testing.T) {
	f, base := small(t)
	numbers := []int{math.MinInt, math.MinInt32, -65536, -257, 256, 600, 65536, math.MaxInt32, math.MaxInt - 1, math.MaxInt}
	for n := -5; n < 9; n++ {
		numbers = append(numbers, n)
	}
	fit, unfit := 0, 0
	for _, number := range numbersIn(base) {
		had := *number
		for _, n := range numbers {
			*number = n
			want := fitByWords(f, base)
			if Fit(f, base) != want {
				t.Fatalf("%v: Fit is %v", base, !want)
			}
			if want {
				fit++
			} else {
				unfit++
			}
		}
		*number = had
	}
	if !Fit(f, base) || fit < 40 || unfit < 200 {
		t.Errorf("%d are Fit, %d are not", fit, unfit)
	}
}

// Without terminals the end is 0; without productions nothing is reduced.
func TestFitOfFew(t *testing.T) {
	for _, c := range []struct {
		terms, nons, prods, table string
		fit                       bool
	}{
		{"", "a", "", "0=0", true},
		{"", "a", "", "1=0", false},
		{"", "a", "", "0!", true},
		{"", "a", "", "1!", false},
		{"", "a", "", "-1!", false},
		{"", "a", "", "0>0", false},
		{"", "a", "", "0/0", false},
		{"", "a", "a ->", "0/0", true},
		{"", "a", "a ->", "0/0,1", false},
		{"x", "a", "", "x>0", true},
		{"x", "a", "", "1!", true},
		{"x", "a", "", "1>0", false},
		{"x", "a", "", "x/0", false},
		{"x", "a", "a -> x", "x/0", true},
		{"x", "a", "", "x=0 a=0", true},
		{"x", "a", "", "2=0", false},
	} {
		f := plain(t, c.terms, c.nons, c.prods)
		if Fit(f, sample.TableOf(f, c.table)) != c.fit {
			t.Errorf("%q of %s: Fit is %v", c.table, flat.Show(f), !c.fit)
		}
	}
}

// changed changes something of tables that have a row.
func changed(seed *sample.Seed, t api.Table) {
	if numbers := numbersIn(t); len(numbers) > 0 && seed.Below(3) > 0 {
		*numbers[seed.Below(len(numbers))] += seed.Below(7) - 3
		return
	}
	r := &t.Rows[seed.Below(len(t.Rows))]
	if len(r.Goes) > 1 && seed.Below(4) == 0 {
		slices.Reverse(r.Goes[len(r.Goes)-2:])
	}
	if len(r.Acts) == 0 {
		return
	}
	a := &r.Acts[seed.Below(len(r.Acts))]
	switch seed.Below(6) {
	case 0:
		a.Accept = !a.Accept
	case 1:
		a.Reduce = nil
	case 2:
		a.To = -1
	case 3:
		a.Reduce = append(a.Reduce, seed.Below(5)-1)
	case 4:
		r.Acts = append(r.Acts, *a)
	case 5:
		slices.Reverse(r.Acts)
	}
}

// P12.2 of drawn ones: some that are Fit, and what comes of them.
func TestFitOfDrawn(t *testing.T) {
	seed := sample.Seed(32)
	fit, unfit := 0, 0
	for range 20000 {
		f := sample.Flat(&seed, sample.Symbols(seed.Below(4), 1+seed.Below(3)), seed.Below(5), 2)
		table := sample.FitTable(&seed, f, 1+seed.Below(4))
		if !Fit(f, table) {
			t.Fatalf("%s: %v is not Fit", flat.Show(f), table)
		}
		for range 1 + seed.Below(2) {
			changed(&seed, table)
		}
		want := fitByWords(f, table)
		if Fit(f, table) != want {
			t.Fatalf("%s: %v: Fit is %v", flat.Show(f), table, !want)
		}
		if want {
			fit++
		} else {
			unfit++
		}
		table = sample.AnyTable(&seed, 2)
		if want := fitByWords(f, table); Fit(f, table) != want {
			t.Fatalf("%s: %v: Fit is %v", flat.Show(f), table, !want)
		}
	}
	if fit < 2000 || unfit < 2000 {
		t.Errorf("%d are Fit, %d are not", fit, unfit)
	}
}
