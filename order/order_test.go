package order

import "testing"

type pair struct{ left, right int }

func TestNumbered(t *testing.T) {
	var n Numbered[pair]
	if n.Count() != 0 {
		t.Fatalf("a set without members has %d", n.Count())
	}
	came := []pair{{2, 1}, {1, 2}, {2, 1}, {0, 0}, {1, 2}, {2, 2}, {2, 1}}
	want := []int{0, 1, 0, 2, 1, 3, 0}
	for i, member := range came {
		if got := n.Number(member); got != want[i] {
			t.Errorf("Number(%v) = %d, want %d", member, got, want[i])
		}
	}
	if n.Count() != 4 {
		t.Errorf("4 members came, but Count() = %d", n.Count())
	}
	for i, member := range came {
		if got := n.Member(want[i]); got != member {
			t.Errorf("Member(%d) = %v, want %v", want[i], got, member)
		}
	}
}

func TestHas(t *testing.T) {
	var n Numbered[pair]
	var w Worklist[pair]
	for range 2 {
		if n.Has(pair{1, 2}) || w.Has(pair{1, 2}) {
			t.Fatal("a thing is there that never came")
		}
	}
	if n.Count() != 0 || w.Count() != 0 {
		t.Fatal("a thing came by being asked for")
	}
	n.Number(pair{1, 2})
	w.Put(pair{1, 2})
	if !n.Has(pair{1, 2}) || !w.Has(pair{1, 2}) || n.Has(pair{2, 1}) || w.Has(pair{2, 1}) {
		t.Error("just the thing that came is there")
	}
	if w.Take(); !w.Has(pair{1, 2}) {
		t.Error("what was given out has come too")
	}
}

func TestWorklistGivesOutOnce(t *testing.T) {
	var w Worklist[string]
	if thing, more := w.Take(); more || thing != "" {
		t.Fatalf("an empty worklist gave out %q", thing)
	}
	put := func(thing string, want int) {
		t.Helper()
		if got := w.Put(thing); got != want {
			t.Errorf("Put(%q) = %d, want %d", thing, got, want)
		}
	}
	take := func(want string, more bool) {
		t.Helper()
		if thing, got := w.Take(); thing != want || got != more {
			t.Errorf("Take() = %q, %v, want %q, %v", thing, got, want, more)
		}
	}
	put("b", 0)
	put("a", 1)
	put("b", 0)
	take("b", true)
	put("b", 0)
	put("c", 2)
	take("a", true)
	take("c", true)
	take("", false)
	put("a", 1)
	take("", false)
	put("d", 3)
	take("d", true)
	take("", false)
	if w.Count() != 4 {
		t.Errorf("4 things came, but Count() = %d", w.Count())
	}
}

func TestWorklistGoesOnWhileItGrows(t *testing.T) {
	var w Worklist[pair]
	w.Put(pair{0, 0})
	var order []pair
	for p, more := w.Take(); more; p, more = w.Take() {
		order = append(order, p)
		if p.left+p.right < 2 {
			w.Put(pair{p.left, p.right + 1})
			w.Put(pair{p.left + 1, p.right})
		}
	}
	want := []pair{{0, 0}, {0, 1}, {1, 0}, {0, 2}, {1, 1}, {2, 0}}
	if len(order) != len(want) {
		t.Fatalf("it gave out %v, want %v", order, want)
	}
	for i := range want {
		if order[i] != want[i] {
			t.Fatalf("it gave out %v, want %v", order, want)
		}
	}
}
