package matrix_test

import (
	"math"
	"slices"
	"sync"
	"testing"

	"garret/api"
	"garret/field"
	"garret/matrix"
)

// product is by chapter 3's words: all bits without carries first, and the
// rest by 391 then.
func product(a, b int) int {
	out := 0
	for bit := range 8 {
		if b>>bit&1 == 1 {
			out ^= a << bit
		}
	}
	for bit := 14; bit >= 8; bit-- {
		if out>>bit&1 == 1 {
			out ^= 391 << (bit - 8)
		}
	}
	return out
}

// productOf is the product of two matrices, member by member.
func productOf(a, b matrix.M) matrix.M {
	out := filled(a.Rows, b.Cols, 0)
	for i := range a.Rows {
		for j := range b.Cols {
			for n := range a.Cols {
				out.A[i*b.Cols+j] ^= product(a.A[i*a.Cols+n], b.A[n*b.Cols+j])
			}
		}
	}
	return out
}

func filled(rows, cols, x int) matrix.M {
	return matrix.M{Rows: rows, Cols: cols, A: slices.Repeat([]int{x}, rows*cols)}
}

// some is a matrix whose members hang on the seed, all kinds of them.
func some(rows, cols, seed int) matrix.M {
	out := filled(rows, cols, 0)
	x := uint32(seed)*2654435761 + 12345
	for i := range out.A {
		x = x*1664525 + 1013904223
		out.A[i] = int(x >> 24)
	}
	return out
}

// one is written out here, so that matrix.One is not held against itself.
func one(n int) matrix.M {
	out := filled(n, n, 0)
	for i := range n {
		out.A[i*n+i] = 1
	}
	return out
}

func of(rows, cols int, members ...int) matrix.M {
	return matrix.M{Rows: rows, Cols: cols, A: members}
}

func same(a, b matrix.M) bool {
	return a.Rows == b.Rows && a.Cols == b.Cols && slices.Equal(a.A, b.A)
}

func isZero(a matrix.M) bool { return a.Rows == 0 && a.Cols == 0 && len(a.A) == 0 }

// wantM looks at an answer: it is right, or it is empty beside its error.
func wantM(t *testing.T, what string, got matrix.M, code api.Code, want matrix.M, wantCode api.Code) {
	t.Helper()
	if code != wantCode {
		t.Errorf("%s: code %d, want %d", what, int(code), int(wantCode))
		return
	}
	if code != api.OK && !isZero(got) {
		t.Errorf("%s: %v beside code %d", what, got, int(code))
	}
	if code == api.OK && !same(got, want) {
		t.Errorf("%s: %v, want %v", what, got, want)
	}
}

func must(t *testing.T) func(a matrix.M, code api.Code) matrix.M {
	return func(a matrix.M, code api.Code) matrix.M {
		t.Helper()
		if code != api.OK {
			t.Fatalf("code %d", int(code))
		}
		return a
	}
}

type refused struct {
	name string
	a    matrix.M
	want api.Code
}

// refusals are matrices that Check refuses; where more than one thing is
// wrong, the one that is named first is wanted.
func refusals() []refused {
	return []refused{
		{"nothing", matrix.M{}, api.ErrRange},
		{"rows 0", of(0, 1), api.ErrRange},
		{"rows -1", of(-1, 1, 1), api.ErrRange},
		{"rows 256", filled(256, 1, 1), api.ErrRange},
		{"rows least", of(math.MinInt, 1, 1), api.ErrRange},
		{"rows most", of(math.MaxInt, 1, 1), api.ErrRange},
		{"cols 0", of(1, 0), api.ErrRange},
		{"cols -1", of(1, -1, 1), api.ErrRange},
		{"cols 256", filled(1, 256, 1), api.ErrRange},
		{"cols least", of(1, math.MinInt, 1), api.ErrRange},
		{"cols most", of(1, math.MaxInt, 1), api.ErrRange},
		{"both -1", of(-1, -1, 1), api.ErrRange},
		{"both 256", filled(256, 256, 1), api.ErrRange},
		{"rows and cols whose product wraps round", of(1<<32, 1<<32), api.ErrRange},
		{"no member", of(1, 1), api.ErrShape},
		{"an empty list", of(2, 3, []int{}...), api.ErrShape},
		{"one too few", of(2, 3, 1, 2, 3, 4, 5), api.ErrShape},
		{"one too many", of(2, 3, 1, 2, 3, 4, 5, 6, 7), api.ErrShape},
		{"one too few of the greatest", matrix.M{Rows: 255, Cols: 255, A: make([]int, 255*255-1)}, api.ErrShape},
		{"one too many of the greatest", matrix.M{Rows: 255, Cols: 255, A: make([]int, 255*255+1)}, api.ErrShape},
		{"rows and cols added", of(3, 3, 1, 2, 3, 4, 5, 6), api.ErrShape},
		{"member -1", of(1, 1, -1), api.ErrRange},
		{"member 256", of(1, 1, 256), api.ErrRange},
		{"first member -1", of(2, 2, -1, 2, 3, 4), api.ErrRange},
		{"last member 256", of(2, 2, 1, 2, 3, 256), api.ErrRange},
		{"a member among others", of(2, 2, 1, 1<<40, 3, 4), api.ErrRange},
		{"member least", of(1, 2, 1, math.MinInt), api.ErrRange},
		{"member most", of(1, 2, 1, math.MaxInt), api.ErrRange},
		{"range of rows ahead of shape", of(256, 1, 1), api.ErrRange},
		{"range of cols ahead of shape", of(1, 0, 1), api.ErrRange},
		{"shape ahead of a member", of(2, 2, -1, 256, 1), api.ErrShape},
		{"shape ahead of a member too many", of(1, 1, 1, 256), api.ErrShape},
	}
}

// Promise 4.1.

func TestCheck(t *testing.T) {
	for _, x := range refusals() {
		if code := matrix.Check(x.a); code != x.want {
			t.Errorf("%s: %d, want %d", x.name, int(code), int(x.want))
		}
	}
	for _, a := range []matrix.M{
		of(1, 1, 0), of(1, 1, 255), of(1, 2, 1, 2), of(2, 1, 0, 255), of(2, 3, 1, 2, 3, 4, 5, 6),
		filled(1, 255, 255), filled(255, 1, 0), filled(255, 255, 255), filled(254, 255, 1),
	} {
		if code := matrix.Check(a); code != api.OK {
			t.Errorf("%d rows, %d columns: %d", a.Rows, a.Cols, int(code))
		}
	}
}

func TestOne(t *testing.T) {
	for _, n := range []int{0, -1, 256, 257, math.MinInt, math.MaxInt} {
		a, code := matrix.One(n)
		wantM(t, "One", a, code, matrix.M{}, api.ErrRange)
	}
	a, code := matrix.One(1)
	wantM(t, "One(1)", a, code, of(1, 1, 1), api.OK)
	a, code = matrix.One(3)
	wantM(t, "One(3)", a, code, of(3, 3, 1, 0, 0, 0, 1, 0, 0, 0, 1), api.OK)
	for _, n := range []int{2, 128, 254, 255} {
		a, code = matrix.One(n)
		wantM(t, "One", a, code, one(n), api.OK)
	}
}

func TestPick(t *testing.T) {
	a := of(3, 2, 1, 2, 3, 4, 5, 6)
	for _, x := range []struct {
		name string
		rows []int
		want matrix.M
		code api.Code
	}{
		{"the first", []int{0}, of(1, 2, 1, 2), api.OK},
		{"the last", []int{2}, of(1, 2, 5, 6), api.OK},
		{"all", []int{0, 1, 2}, a, api.OK},
		{"another order", []int{2, 0, 1}, of(3, 2, 5, 6, 1, 2, 3, 4), api.OK},
		{"one twice", []int{1, 1}, of(2, 2, 3, 4, 3, 4), api.OK},
		{"more than there are", []int{1, 1, 0, 2}, of(4, 2, 3, 4, 3, 4, 1, 2, 5, 6), api.OK},
		{"nil", nil, matrix.M{}, api.ErrRange},
		{"none", []int{}, matrix.M{}, api.ErrRange},
		{"row -1", []int{-1}, matrix.M{}, api.ErrRange},
		{"row Rows", []int{3}, matrix.M{}, api.ErrRange},
		{"row -1 behind others", []int{0, 1, -1}, matrix.M{}, api.ErrRange},
		{"row Rows ahead of others", []int{3, 0, 1}, matrix.M{}, api.ErrRange},
		{"the least", []int{0, math.MinInt}, matrix.M{}, api.ErrRange},
		{"the greatest", []int{0, math.MaxInt}, matrix.M{}, api.ErrRange},
		{"256 rows", make([]int, 256), matrix.M{}, api.ErrRange},
		{"many rows", make([]int, 1<<16), matrix.M{}, api.ErrRange},
	} {
		got, code := matrix.Pick(a, x.rows...)
		wantM(t, x.name, got, code, x.want, x.code)
	}
	got, code := matrix.Pick(a, slices.Repeat([]int{1}, 255)...)
	wantM(t, "255 rows", got, code, matrix.M{Rows: 255, Cols: 2, A: slices.Repeat([]int{3, 4}, 255)}, api.OK)
	great := some(255, 255, 1)
	got, code = matrix.Pick(great, 254)
	wantM(t, "row 254", got, code, matrix.M{Rows: 1, Cols: 255, A: great.A[254*255:]}, api.OK)
	for _, x := range refusals() {
		got, code = matrix.Pick(x.a, 0)
		wantM(t, "Pick of "+x.name, got, code, matrix.M{}, x.want)
		got, code = matrix.Pick(x.a)
		wantM(t, "Pick of no row of "+x.name, got, code, matrix.M{}, x.want)
	}
}

func TestTurn(t *testing.T) {
	for _, x := range []struct{ a, want matrix.M }{
		{of(1, 1, 7), of(1, 1, 7)},
		{of(1, 3, 7, 8, 9), of(3, 1, 7, 8, 9)},
		{of(3, 1, 7, 8, 9), of(1, 3, 7, 8, 9)},
		{of(2, 2, 1, 2, 3, 4), of(2, 2, 1, 3, 2, 4)},
		{of(2, 3, 1, 2, 3, 4, 5, 6), of(3, 2, 1, 4, 2, 5, 3, 6)},
		{of(3, 2, 1, 2, 3, 4, 5, 6), of(2, 3, 1, 3, 5, 2, 4, 6)},
	} {
		got, code := matrix.Turn(x.a)
		wantM(t, "Turn", got, code, x.want, api.OK)
	}
	for _, a := range []matrix.M{some(255, 255, 2), some(255, 1, 3), some(1, 255, 4), some(100, 155, 5)} {
		turned := must(t)(matrix.Turn(a))
		for i := range a.Rows {
			for j := range a.Cols {
				if turned.A[j*a.Rows+i] != a.A[i*a.Cols+j] {
					t.Fatalf("row %d, column %d of %d by %d", i, j, a.Rows, a.Cols)
				}
			}
		}
		back, code := matrix.Turn(turned)
		wantM(t, "Turn twice", back, code, a, api.OK)
	}
	for _, x := range refusals() {
		got, code := matrix.Turn(x.a)
		wantM(t, "Turn of "+x.name, got, code, matrix.M{}, x.want)
	}
}

// Promise 4.2.

func TestMul(t *testing.T) {
	s := matrix.New()
	a := of(2, 2, 1, 2, 3, 4)
	for _, x := range []struct {
		name       string
		a, b, want matrix.M
	}{
		{"numbers", of(1, 1, 2), of(1, 1, 128), of(1, 1, 135)},
		{"by a column", a, of(2, 1, 2, 128), of(2, 1, 2^135, 6^137)},
		{"a row by a column", of(1, 3, 1, 2, 3), of(3, 1, 1, 1, 1), of(1, 1, 0)},
		{"a column by a row", of(2, 1, 1, 2), of(1, 3, 1, 64, 128), of(2, 3, 1, 64, 128, 2, 128, 135)},
		{"rows are exchanged", of(2, 2, 0, 1, 1, 0), a, of(2, 2, 3, 4, 1, 2)},
		{"columns are exchanged", a, of(2, 2, 0, 1, 1, 0), of(2, 2, 2, 1, 4, 3)},
		{"by nothing", a, filled(2, 2, 0), filled(2, 2, 0)},
		{"by One", a, one(2), a},
		{"of One", one(2), a, a},
	} {
		got, code := s.Mul(x.a, x.b)
		wantM(t, x.name, got, code, x.want, api.OK)
	}
	for i, x := range [][3]int{{1, 1, 1}, {2, 3, 4}, {4, 3, 2}, {7, 1, 5}, {1, 9, 1}, {30, 20, 10}, {255, 1, 255}, {1, 255, 1}, {3, 255, 2}} {
		a, b := some(x[0], x[1], 2*i), some(x[1], x[2], 2*i+1)
		got, code := s.Mul(a, b)
		wantM(t, "of some", got, code, productOf(a, b), api.OK)
	}
	great := some(255, 255, 77)
	got, code := s.Mul(great, one(255))
	wantM(t, "the greatest by One", got, code, great, api.OK)
}

func TestMulRefuses(t *testing.T) {
	s := matrix.New()
	a := of(2, 3, 1, 2, 3, 4, 5, 6)
	for _, x := range refusals() {
		got, code := s.Mul(x.a, a)
		wantM(t, "Mul of "+x.name, got, code, matrix.M{}, x.want)
		got, code = s.Mul(a, x.a)
		wantM(t, "Mul by "+x.name, got, code, matrix.M{}, x.want)
		for _, y := range refusals() {
			got, code = s.Mul(x.a, y.a)
			wantM(t, "Mul of "+x.name+" by "+y.name, got, code, matrix.M{}, x.want)
		}
	}
	for _, x := range []struct{ a, b matrix.M }{
		{a, a},
		{a, of(1, 3, 1, 2, 3)},
		{a, one(2)},
		{one(3), a},
		{of(1, 1, 1), of(2, 1, 1, 2)},
		{of(1, 2, 1, 2), of(1, 1, 1)},
		{filled(1, 255, 1), filled(254, 1, 1)},
		// As many members, and rows that meet rows, are not enough.
		{of(2, 1, 1, 2), of(2, 1, 1, 2)},
	} {
		got, code := s.Mul(x.a, x.b)
		wantM(t, "Mul where they do not meet", got, code, matrix.M{}, api.ErrShape)
	}
}

func TestInverse(t *testing.T) {
	s := matrix.New()
	for _, x := range []struct {
		name    string
		a, want matrix.M
	}{
		{"1", of(1, 1, 1), of(1, 1, 1)},
		{"rows are exchanged", of(2, 2, 0, 1, 1, 0), of(2, 2, 0, 1, 1, 0)},
		{"rows go round", of(3, 3, 0, 1, 0, 0, 0, 1, 1, 0, 0), of(3, 3, 0, 0, 1, 1, 0, 0, 0, 1, 0)},
		{"a row is added", of(2, 2, 1, 0, 9, 1), of(2, 2, 1, 0, 9, 1)},
		{"to the row ahead", of(2, 2, 1, 9, 0, 1), of(2, 2, 1, 9, 0, 1)},
	} {
		got, code := s.Inverse(x.a)
		wantM(t, x.name, got, code, x.want, api.OK)
	}
	for _, n := range []int{1, 2, 3, 17, 255} {
		got, code := s.Inverse(one(n))
		wantM(t, "of One", got, code, one(n), api.OK)
	}
	for x := 1; x < 256; x++ {
		got := must(t)(s.Inverse(of(1, 1, x)))
		if got.Rows != 1 || got.Cols != 1 || len(got.A) != 1 || product(x, got.A[0]) != 1 {
			t.Errorf("of %d: %v", x, got)
		}
	}
}

// wantInverse looks whether the products are One from both sides.
func wantInverse(t *testing.T, s *matrix.Space, a matrix.M) {
	t.Helper()
	inverse := must(t)(s.Inverse(a))
	if inverse.Rows != a.Rows || inverse.Cols != a.Cols || matrix.Check(inverse) != api.OK {
		t.Fatalf("%d rows, %d columns, %d members", inverse.Rows, inverse.Cols, len(inverse.A))
	}
	if left := productOf(inverse, a); !same(left, one(a.Rows)) {
		t.Errorf("of %v: from the left %v", a, left)
	}
	if right := productOf(a, inverse); !same(right, one(a.Rows)) {
		t.Errorf("of %v: from the right %v", a, right)
	}
}

func TestInverseTimesItsMatrix(t *testing.T) {
	s := matrix.New()
	wantInverse(t, s, of(2, 2, 1, 2, 3, 4))
	wantInverse(t, s, of(3, 3, 0, 0, 7, 0, 5, 255, 3, 200, 1))
	for n := 1; n <= 40; n++ {
		wantInverse(t, s, regular(n, n))
	}
	wantInverse(t, s, regular(90, 1))
	back := must(t)(s.Inverse(must(t)(s.Inverse(regular(50, 9)))))
	wantM(t, "the inverse of the inverse", back, api.OK, regular(50, 9), api.OK)
}

// The greatest is looked at by one vector alone on each side, for speed.
func TestInverseOfTheGreatest(t *testing.T) {
	s := matrix.New()
	a := regular(255, 3)
	inverse := must(t)(s.Inverse(a))
	v := some(255, 1, 8)
	wantM(t, "a and its inverse", productOf(a, productOf(inverse, v)), api.OK, v, api.OK)
	wantM(t, "the inverse and a", productOf(inverse, productOf(a, v)), api.OK, v, api.OK)
}

// regular has an inverse: the product of a matrix with something on and under
// the diagonal and one with something on and over it, the rows turned upside
// down, so that what is asked for first is often 0.
func regular(n, seed int) matrix.M {
	under, over := some(n, n, seed), some(n, n, seed+1)
	for i := range n {
		for j := range n {
			switch at := i*n + j; {
			case i == j:
				under.A[at] |= 1
				over.A[at] |= 1
			case i < j:
				under.A[at] = 0
			default:
				over.A[at] = 0
			}
		}
	}
	down := filled(n, n, 0)
	for i := range n {
		down.A[i*n+n-1-i] = 1
	}
	return productOf(down, productOf(under, over))
}

func TestInverseRefuses(t *testing.T) {
	s := matrix.New()
	for _, x := range refusals() {
		got, code := s.Inverse(x.a)
		wantM(t, "Inverse of "+x.name, got, code, matrix.M{}, x.want)
	}
	for _, a := range []matrix.M{of(1, 2, 1, 2), of(2, 1, 1, 2), of(2, 3, 1, 0, 0, 0, 1, 0), of(3, 2, 1, 0, 0, 1, 0, 0), filled(255, 254, 1), filled(1, 2, 0)} {
		got, code := s.Inverse(a)
		wantM(t, "what is not square", got, code, matrix.M{}, api.ErrShape)
	}
	last := one(255)
	last.A[255*255-1] = 0
	first := one(255)
	first.A[0] = 0
	for _, a := range []matrix.M{
		of(1, 1, 0), filled(2, 2, 0), filled(255, 255, 0), filled(2, 2, 1),
		of(2, 2, 1, 2, 2, 4), of(2, 2, 2, 128, 4, product(128, 2)),
		of(2, 2, 0, 1, 0, 1), of(2, 2, 0, 0, 1, 1), of(2, 2, 1, 1, 0, 0),
		of(3, 3, 1, 2, 3, 4, 5, 6, 1^4, 2^5, 3^6),
		of(3, 3, 1, 0, 1, 0, 1, 1, 1, 1, 0),
		first, last,
	} {
		got, code := s.Inverse(a)
		wantM(t, "what has none", got, code, matrix.M{}, api.ErrRank)
	}
}

func TestRank(t *testing.T) {
	s := matrix.New()
	last := one(255)
	last.A[255*255-1] = 0
	for _, x := range []struct {
		name string
		a    matrix.M
		want int
	}{
		{"a 0", of(1, 1, 0), 0},
		{"a number", of(1, 1, 255), 1},
		{"zeros", filled(3, 2, 0), 0},
		{"the greatest of zeros", filled(255, 255, 0), 0},
		{"One(1)", one(1), 1},
		{"One(7)", one(7), 7},
		{"One(255)", one(255), 255},
		{"One(255) but for one", last, 254},
		{"one row", of(1, 4, 0, 0, 0, 9), 1},
		{"one column", of(4, 1, 0, 0, 0, 9), 1},
		{"the same row", filled(4, 4, 3), 1},
		{"a row and its double", of(2, 2, 1, 2, 2, 4), 1},
		{"doubled in the field", of(2, 2, 1, 128, 2, 135), 1},
		{"doubled as numbers alone", of(2, 2, 64, 128, 128, 0), 2},
		{"the third is the sum", of(3, 3, 1, 2, 3, 4, 5, 6, 5, 7, 5), 2},
		{"the first is the sum", of(3, 3, 5, 7, 5, 1, 2, 3, 4, 5, 6), 2},
		{"no 0 at the front", of(3, 3, 0, 0, 1, 0, 1, 0, 1, 0, 0), 3},
		{"a column of zeros ahead", of(2, 3, 0, 1, 2, 0, 3, 4), 2},
		{"a column of zeros between", of(2, 3, 1, 0, 2, 3, 0, 4), 2},
		{"the second column is the double of the first", of(2, 3, 1, 2, 0, 3, 6, 1), 2},
		{"more rows than columns", of(4, 2, 1, 0, 0, 1, 1, 1, 2, 3), 2},
		{"more rows, all alike", filled(5, 2, 6), 1},
		{"more columns than rows", of(2, 4, 1, 0, 2, 3, 0, 1, 4, 5), 2},
		{"more columns, all alike", filled(2, 5, 6), 1},
		{"rows of zeros between", of(4, 2, 0, 0, 1, 2, 0, 0, 3, 4), 2},
	} {
		if n, code := s.Rank(x.a); code != api.OK || n != x.want {
			t.Errorf("%s: %d, %d, want %d", x.name, n, int(code), x.want)
		}
	}
	for _, x := range refusals() {
		if n, code := s.Rank(x.a); n != 0 || code != x.want {
			t.Errorf("%s: %d, %d, want %d", x.name, n, int(code), int(x.want))
		}
	}
}

// A product of r columns with r rows has no more that stand for themselves,
// and has all of them where One is on both sides.
func TestRankOfProducts(t *testing.T) {
	s := matrix.New()
	for _, x := range [][3]int{{5, 1, 5}, {8, 3, 4}, {4, 3, 9}, {20, 19, 20}, {30, 7, 12}, {12, 12, 30}} {
		rows, r, cols := x[0], x[1], x[2]
		left, right := some(rows, r, rows), some(r, cols, cols)
		for i := range r {
			for j := range r {
				left.A[(rows-r+i)*r+j] = one(r).A[i*r+j]
				right.A[i*cols+cols-r+j] = one(r).A[i*r+j]
			}
		}
		a := productOf(left, right)
		if n, code := s.Rank(a); code != api.OK || n != r {
			t.Errorf("%d by %d: %d, %d, want %d", rows, cols, n, int(code), r)
		}
		if n, code := s.Rank(must(t)(matrix.Turn(a))); code != api.OK || n != r {
			t.Errorf("%d by %d, turned: %d, %d, want %d", rows, cols, n, int(code), r)
		}
	}
}

// All of 2 rows of 2 columns with few unlike members, by the words: a row that
// is a mixture of the other one does not stand for itself.
func TestRankBySmallWords(t *testing.T) {
	s := matrix.New()
	members := []int{0, 1, 2, 3, 128, 135, 255}
	for _, p := range members {
		for _, q := range members {
			for _, u := range members {
				for _, v := range members {
					want := 2
					switch {
					case p == 0 && q == 0 && u == 0 && v == 0:
						want = 0
					case product(p, v) == product(q, u):
						want = 1
					}
					if n, code := s.Rank(of(2, 2, p, q, u, v)); code != api.OK || n != want {
						t.Errorf("%d %d; %d %d: %d, %d, want %d", p, q, u, v, n, int(code), want)
					}
					_, code := s.Inverse(of(2, 2, p, q, u, v))
					if (code == api.OK) != (want == 2) {
						t.Errorf("%d %d; %d %d: Inverse %d", p, q, u, v, int(code))
					}
				}
			}
		}
	}
}

// Promise 4.3.

func TestCauchy(t *testing.T) {
	s := matrix.New()
	got, code := s.Cauchy(1, 1)
	wantM(t, "Cauchy(1, 1)", got, code, of(2, 1, 1, 1), api.OK)
	got, code = s.Cauchy(1, 0)
	wantM(t, "Cauchy(1, 0)", got, code, of(1, 1, 1), api.OK)
	got, code = s.Cauchy(3, 0)
	wantM(t, "Cauchy(3, 0)", got, code, one(3), api.OK)
	f := field.New()
	half, _ := f.Div(1, 2)
	third, _ := f.Div(1, 3)
	got, code = s.Cauchy(2, 2)
	wantM(t, "Cauchy(2, 2)", got, code, of(4, 2, 1, 0, 0, 1, half, third, third, half), api.OK)
	for _, x := range [][2]int{{2, 1}, {1, 254}, {254, 1}, {255, 0}, {100, 155}, {3, 5}, {127, 128}, {1, 3}} {
		k, m := x[0], x[1]
		got, code = s.Cauchy(k, m)
		if code != api.OK || got.Rows != k+m || got.Cols != k || len(got.A) != (k+m)*k {
			t.Errorf("Cauchy(%d, %d): %d rows, %d columns, %d members, %d", k, m, got.Rows, got.Cols, len(got.A), int(code))
			continue
		}
		wantCauchy(t, got, k)
	}
}

// wantCauchy looks at the members by the words of the promise.
func wantCauchy(t *testing.T, a matrix.M, k int) {
	t.Helper()
	if !slices.Equal(a.A[:k*k], one(k).A) {
		t.Errorf("k %d: One(k) is not ahead", k)
	}
	for i := range a.Rows - k {
		for j := range k {
			if x := a.A[(k+i)*k+j]; product(x, (k+i)^j) != 1 {
				t.Fatalf("k %d: row %d, column %d: %d", k, k+i, j, x)
			}
		}
	}
}

func TestCauchyRefuses(t *testing.T) {
	s := matrix.New()
	for _, x := range [][2]int{
		{0, 0}, {0, 1}, {0, 255}, {-1, 1}, {-1, 256}, {1, -1}, {255, -1}, {256, -1}, {-1, -1},
		{255, 1}, {256, 0}, {1, 255}, {128, 128}, {0, 256}, {300, 300},
		{1, math.MaxInt}, {math.MaxInt, 1}, {math.MaxInt, math.MaxInt}, {math.MaxInt, 0},
		{math.MinInt, 1}, {1, math.MinInt}, {math.MinInt, math.MinInt}, {math.MinInt, math.MaxInt}, {math.MaxInt, math.MinInt},
	} {
		got, code := s.Cauchy(x[0], x[1])
		wantM(t, "Cauchy", got, code, matrix.M{}, api.ErrRange)
	}
}

// Promise 4.4.

// choices calls with each choice of k of n rows, in order.
func choices(n, k int, with func(rows []int)) {
	rows := make([]int, k)
	var fill func(at, from int)
	fill = func(at, from int) {
		if at == k {
			with(rows)
			return
		}
		for r := from; r < n; r++ {
			rows[at] = r
			fill(at+1, r+1)
		}
	}
	fill(0, 0)
}

func TestAnyRowsOfCauchyHaveAnInverse(t *testing.T) {
	s := matrix.New()
	for _, x := range [][2]int{{1, 1}, {1, 20}, {2, 2}, {2, 30}, {3, 4}, {4, 3}, {4, 6}, {5, 5}, {10, 1}, {9, 2}, {3, 0}} {
		k, m := x[0], x[1]
		c := must(t)(s.Cauchy(k, m))
		choices(k+m, k, func(rows []int) {
			if p := must(t)(matrix.Pick(c, rows...)); !t.Failed() {
				wantInverse(t, s, p)
			}
		})
	}
}

// Of the greatest ones a few choices: the last rows, every second one, and
// all of One but a few.
func TestRowsOfGreatCauchy(t *testing.T) {
	s := matrix.New()
	for _, x := range [][2]int{{127, 128}, {1, 254}, {100, 155}, {200, 55}, {250, 5}} {
		k, m := x[0], x[1]
		c := must(t)(s.Cauchy(k, m))
		var last, spread, few []int
		for i := range k {
			last = append(last, m+i)
			spread = append(spread, (i*2+1)%(k+m))
			few = append(few, k-1-i)
		}
		few[k/2], few[0] = k, k+m-1
		for _, rows := range [][]int{last, spread, few} {
			p := must(t)(matrix.Pick(c, rows...))
			if n, code := s.Rank(p); n != k || code != api.OK {
				t.Errorf("k %d, m %d: rank %d, %d", k, m, n, int(code))
			}
			inverse := must(t)(s.Inverse(p))
			v := some(k, 1, m)
			wantM(t, "inverse", productOf(inverse, productOf(p, v)), api.OK, v, api.OK)
		}
	}
}

// The rules that hold everywhere (R4, R5, R7, P1).

// kept is a matrix with spare room, of which all is remembered.
type kept struct {
	m      matrix.M
	all    []int
	before []int
}

func keep(a matrix.M) *kept {
	all := append(slices.Clone(a.A), 901, -902, 903, 904, 905, 906, 907, 908, 909)
	return &kept{matrix.M{Rows: a.Rows, Cols: a.Cols, A: all[:len(a.A)]}, all, slices.Clone(all)}
}

func (k *kept) wantAsBefore(t *testing.T, what string) {
	t.Helper()
	if !slices.Equal(k.all, k.before) {
		t.Errorf("%s: what was handed in is %v, was %v", what, k.all, k.before)
	}
}

// overwrite fills an answer, its spare room too, to find memory that is shared.
func overwrite(a matrix.M) {
	room := a.A[:cap(a.A)]
	for i := range room {
		room[i] = 7777
	}
}

// calls are all that answer a matrix of two that are handed in.
func calls(s *matrix.Space) map[string]func(a, b matrix.M) (matrix.M, api.Code) {
	return map[string]func(a, b matrix.M) (matrix.M, api.Code){
		"Pick":      func(a, b matrix.M) (matrix.M, api.Code) { return matrix.Pick(a, 0, 1) },
		"Pick all":  func(a, b matrix.M) (matrix.M, api.Code) { return matrix.Pick(a, 0, 1, 2) },
		"Pick none": func(a, b matrix.M) (matrix.M, api.Code) { return matrix.Pick(a, 3) },
		"Turn":      func(a, b matrix.M) (matrix.M, api.Code) { return matrix.Turn(a) },
		"Mul":       func(a, b matrix.M) (matrix.M, api.Code) { return s.Mul(a, b) },
		"Mul self":  func(a, b matrix.M) (matrix.M, api.Code) { return s.Mul(b, b) },
		"Inverse":   func(a, b matrix.M) (matrix.M, api.Code) { return s.Inverse(a) },
		"none":      func(a, b matrix.M) (matrix.M, api.Code) { return s.Inverse(b) },
		"One":       func(a, b matrix.M) (matrix.M, api.Code) { return matrix.One(3) },
		"Cauchy":    func(a, b matrix.M) (matrix.M, api.Code) { return s.Cauchy(3, 2) },
		"Rank": func(a, b matrix.M) (matrix.M, api.Code) {
			n, code := s.Rank(a)
			return of(1, 1, n), code
		},
	}
}

func TestWhatIsHandedInStays(t *testing.T) {
	s := matrix.New()
	for name, call := range calls(s) {
		a := keep(of(3, 3, 0, 2, 3, 4, 5, 6, 7, 8, 10))
		b := keep(of(3, 3, 1, 2, 3, 2, 4, 6, 9, 9, 9))
		first, code := call(a.m, b.m)
		a.wantAsBefore(t, name)
		b.wantAsBefore(t, name)
		was := matrix.M{Rows: first.Rows, Cols: first.Cols, A: slices.Clone(first.A)}
		overwrite(first)
		a.wantAsBefore(t, name+", answer written over")
		b.wantAsBefore(t, name+", answer written over")
		again, codeAgain := call(a.m, b.m)
		wantM(t, name+" again", again, codeAgain, was, code)
		for i := range a.m.A {
			a.m.A[i], b.m.A[i] = 255, 255
		}
		wantM(t, name+", arguments written over", again, codeAgain, was, code)
	}
}

func TestPickLeavesItsRows(t *testing.T) {
	all := []int{1, 0, 1, 2, 3}
	before := slices.Clone(all)
	got, code := matrix.Pick(of(2, 1, 8, 9), all[:3]...)
	wantM(t, "Pick", got, code, of(3, 1, 9, 8, 9), api.OK)
	if !slices.Equal(all, before) {
		t.Errorf("rows are %v", all)
	}
}

func TestSpacesAreAskedAtOnce(t *testing.T) {
	s := matrix.New()
	a := regular(20, 4)
	want := must(t)(matrix.New().Inverse(a))
	var all sync.WaitGroup
	for range 8 {
		all.Add(1)
		go func() {
			defer all.Done()
			if got, code := s.Inverse(a); code != api.OK || !same(got, want) {
				t.Errorf("%v, %d", got, int(code))
			}
		}()
	}
	all.Wait()
}
