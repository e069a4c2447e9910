package dag_test

import (
	"math"
	"slices"
	"testing"

	"calends/api"
	"calends/dag"
)

// history is nodes by their parents.
func history(parents ...[]int) []api.Commit {
	var l []api.Commit
	for at, p := range parents {
		l = append(l, api.Commit{ID: at + 1, Parents: p})
	}
	return l
}

// example is that of the chapter.
func example() []api.Commit {
	return history(nil, []int{1}, []int{1}, []int{2, 3}, []int{2, 3})
}

func is(t *testing.T, what string, got []int, want ...int) {
	t.Helper()
	if !slices.Equal(got, want) {
		t.Fatalf("%s: %v; want %v", what, got, want)
	}
}

// P18.1

func TestRight(t *testing.T) {
	for _, l := range [][]api.Commit{nil, {}, history(nil), history(nil, nil, nil), history(nil, []int{1}, []int{1, 2}), example()} {
		if !dag.Right(l) {
			t.Errorf("%v is not right", l)
		}
	}
	swapped := example()
	swapped[1], swapped[2] = swapped[2], swapped[1]
	for _, l := range [][]api.Commit{{{ID: 0}}, {{ID: 2}}, swapped, history([]int{1}), history([]int{0}), history(nil, []int{2}), history(nil, []int{3}), history(nil, []int{-1}), history(nil, nil, []int{2, 1}), history(nil, nil, []int{1, 1})} {
		if dag.Right(l) {
			t.Errorf("%v is right", l)
		}
		if dag.Reaches(l, 1, 1) || len(dag.Ancestors(l, 1))+len(dag.Common(l, 1, 1))+len(dag.Heads(l))+len(dag.Path(l, 1, 1)) > 0 {
			t.Errorf("%v is told of", l)
		}
	}
}

// P18.2 to P18.4

func TestExample(t *testing.T) {
	l := example()
	is(t, "Common", dag.Common(l, 4, 5), 2, 3)
	is(t, "Heads", dag.Heads(l), 4, 5)
	is(t, "Path", dag.Path(l, 4, 1), 4, 2, 1)
	is(t, "Ancestors", dag.Ancestors(l, 4), 1, 2, 3, 4)
	is(t, "Ancestors", dag.Ancestors(l, 3, 2, 3), 1, 2, 3)
	is(t, "Ancestors", dag.Ancestors(l))
	if !dag.Reaches(l, 5, 1) || !dag.Reaches(l, 2, 2) || dag.Reaches(l, 1, 2) || dag.Reaches(l, 4, 5) {
		t.Error("Reaches")
	}
}

func TestNodesThatThereAreNot(t *testing.T) {
	l := example()
	for _, n := range []int{0, -1, 6, math.MaxInt, math.MinInt} {
		is(t, "Ancestors", dag.Ancestors(l, n, 2, n), 1, 2)
		is(t, "Common", dag.Common(l, n, 1))
		is(t, "Common", dag.Common(l, 1, n))
		is(t, "Path", dag.Path(l, n, 1))
		is(t, "Path", dag.Path(l, 1, n))
		is(t, "Path", dag.Path(l, n, n))
		if dag.Reaches(l, n, 1) || dag.Reaches(l, 5, n) || dag.Reaches(l, n, n) {
			t.Errorf("Reaches %d", n)
		}
	}
	is(t, "Heads of nothing", dag.Heads(nil))
	is(t, "Common of what has none", dag.Common(history(nil, nil), 1, 2))
	is(t, "Heads of roots", dag.Heads(history(nil, nil)), 1, 2)
}

func TestPathGoesByTheLeastParentThatReaches(t *testing.T) {
	l := history(nil, nil, []int{2}, []int{1}, []int{1, 3, 4})
	is(t, "Path", dag.Path(l, 5, 2), 5, 3, 2)
	is(t, "Path", dag.Path(l, 5, 1), 5, 1)
	is(t, "Path", dag.Path(l, 5, 4), 5, 4)
	is(t, "Path", dag.Path(l, 4, 2))
	is(t, "Path", dag.Path(l, 1, 5))
	is(t, "Path", dag.Path(l, 3, 3), 3)
}

// P18.5 to P18.7

// dice are numbers that are the same in each run.
type dice uint64

func (d *dice) below(n int) int {
	*d = *d*6364136223846793005 + 1442695040888963407
	return int(uint64(*d)>>33) % n
}

func (d *dice) history() []api.Commit {
	var parents [][]int
	for n := range 1 + d.below(14) {
		var p []int
		for id := 1; id <= n; id++ {
			if d.below(n) < 2 {
				p = append(p, id)
			}
		}
		parents = append(parents, p)
	}
	return history(parents...)
}

// table tells of each two nodes whether the first one reaches the other.
func table(l []api.Commit) [20][20]bool {
	var t [20][20]bool
	for _, c := range l {
		t[c.ID][c.ID] = true
		for _, p := range c.Parents {
			for id := range t[p] {
				t[c.ID][id] = t[c.ID][id] || t[p][id]
			}
		}
	}
	return t
}

func TestPlays(t *testing.T) {
	for seed := range 1500 {
		d := dice(seed)
		l := d.history()
		reach := table(l)
		n := len(l)
		var heads []int
		for a := 1; a <= n; a++ {
			head := true
			for b := 1; b <= n; b++ {
				head = head && (a == b || !reach[b][a])
				if dag.Reaches(l, a, b) != reach[a][b] || reach[a][b] && a < b {
					t.Fatalf("%v: Reaches(%d, %d)", l, a, b)
				}
				var common, nearest, all []int
				for c := 1; c <= n; c++ {
					if reach[a][c] && reach[b][c] {
						common = append(common, c)
					}
					if reach[a][c] || reach[b][c] {
						all = append(all, c)
					}
				}
				for _, c := range common {
					if !slices.ContainsFunc(common, func(o int) bool { return o != c && reach[o][c] }) {
						nearest = append(nearest, c)
					}
				}
				is(t, "Common", dag.Common(l, a, b), nearest...)
				is(t, "Ancestors", dag.Ancestors(l, b, a), all...)
				var path []int
				for at := a; reach[a][b] && at != b; {
					path = append(path, at)
					at = l[at-1].Parents[slices.IndexFunc(l[at-1].Parents, func(p int) bool { return reach[p][b] })]
				}
				if reach[a][b] {
					path = append(path, b)
				}
				is(t, "Path", dag.Path(l, a, b), path...)
			}
			if head {
				heads = append(heads, a)
			}
		}
		is(t, "Heads", dag.Heads(l), heads...)
		longer := append(slices.Clone(l), api.Commit{ID: n + 1, Parents: []int{1 + d.below(n)}})
		for range 5 {
			a, b := 1+d.below(n), 1+d.below(n)
			is(t, "Common behind a new one", dag.Common(longer, a, b), dag.Common(l, a, b)...)
			is(t, "Path behind a new one", dag.Path(longer, a, b), dag.Path(l, a, b)...)
		}
	}
}

func TestLongHistories(t *testing.T) {
	const n = 1 << 16
	l := make([]api.Commit, n)
	for at := range l {
		l[at].ID = at + 1
		if at > 0 {
			l[at].Parents = []int{at}
		}
	}
	if p := dag.Path(l, n, 1); len(p) != n {
		t.Fatalf("%d", len(p))
	}
	is(t, "Common", dag.Common(l, n, n/2), n/2)
}
