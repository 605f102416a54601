package sets

import "testing"

func numbers(s Set) []int {
	var found []int
	for n := range Count {
		if s.Has(uint8(n)) {
			found = append(found, n)
		}
	}
	return found
}

func holds(t *testing.T, name string, s Set, want func(n int) bool) {
	t.Helper()
	for n := range Count {
		if s.Has(uint8(n)) != want(n) {
			t.Fatalf("%s: Has(%d) = %v", name, n, !want(n))
		}
	}
}

func TestOne(t *testing.T) {
	for n := range Count {
		holds(t, "One", One(uint8(n)), func(m int) bool { return m == n })
	}
}

func TestSpan(t *testing.T) {
	for _, c := range [][2]int{{0, 0}, {0, 255}, {255, 255}, {63, 64}, {64, 127}, {10, 200}, {5, 4}, {255, 0}} {
		holds(t, "Span", Span(uint8(c[0]), uint8(c[1])), func(n int) bool { return c[0] <= n && n <= c[1] })
	}
}

func TestUnion(t *testing.T) {
	if Union() != (Set{}) {
		t.Errorf("the union of no sets has %v", numbers(Union()))
	}
	low, high, mid := Span(0, 9), Span(250, 255), One(64)
	if Union(low) != low {
		t.Errorf("the union of one set has %v", numbers(Union(low)))
	}
	holds(t, "Union", Union(low, Set{}, high, mid, low), func(n int) bool { return n <= 9 || n >= 250 || n == 64 })
}

func TestUnionLeavesItsSets(t *testing.T) {
	all := []Set{One(1), One(2), One(3)}
	Union(all...)
	if all[0] != One(1) || all[1] != One(2) || all[2] != One(3) {
		t.Errorf("the sets have changed: %v", all)
	}
}

func TestOthers(t *testing.T) {
	s := Union(Span(60, 70), One(255))
	holds(t, "Others", s.Others(), func(n int) bool { return !(60 <= n && n <= 70 || n == 255) })
	if s.Others().Others() != s {
		t.Errorf("the others of the others are %v", numbers(s.Others().Others()))
	}
	if (Set{}).Others() != Span(0, 255) {
		t.Errorf("the others of no number are %v", numbers(Set{}.Others()))
	}
}

func TestMeets(t *testing.T) {
	if !Span(0, 100).Meets(Span(100, 200)) {
		t.Errorf("0..100 and 100..200 have 100 in common")
	}
	if Span(0, 99).Meets(Span(100, 200)) || (Set{}).Meets(Span(0, 255)) {
		t.Errorf("sets with nothing in common meet")
	}
}

func TestCommon(t *testing.T) {
	low, high := Span(0, 130), Union(Span(120, 200), One(3), One(255))
	both := func(n int) bool { return 120 <= n && n <= 130 || n == 3 }
	holds(t, "Common", low.Common(high), both)
	holds(t, "Common", high.Common(low), both)
	if low != Span(0, 130) {
		t.Errorf("the set has changed: %v", numbers(low))
	}
	if low.Common(Set{}) != (Set{}) || Span(0, 9).Common(Span(10, 255)) != (Set{}) {
		t.Errorf("sets with nothing in common have common numbers")
	}
}
