// Package sample makes inputs for the tests of the other packages.
package sample

// Texts is every text of at most n of the parts, the shorter ones first.
func Texts(parts []string, n int) []string {
	all := []string{""}
	for from := 0; n > 0; n-- {
		to := len(all)
		for _, s := range all[from:to] {
			for _, p := range parts {
				all = append(all, s+p)
			}
		}
		from = to
	}
	return all
}

// Seed hands out numbers that look drawn, and are the same each time: a test that fails does so again.
type Seed uint32

// Below is the next number, from 0 on and below n.
func (s *Seed) Below(n int) int {
	*s = *s*1664525 + 1013904223
	return int(*s>>8) % n
}
