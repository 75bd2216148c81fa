package field_test

import (
	"math"
	"slices"
	"strings"
	"sync"
	"testing"

	"garret/api"
	"garret/field"
)

const greatest = math.MaxInt

// noElements has both sides of what elements are, near and far.
func noElements() []int {
	return []int{-1, -2, -255, -256, 256, 257, 511, 1 << 16, 1 << 32, math.MinInt, greatest}
}

// polynomialProduct is the product by the chapter's words: all bits without
// carries first, and the rest by 391 then.
func polynomialProduct(a, b int) int {
	product := 0
	for bit := range 8 {
		if b>>bit&1 == 1 {
			product ^= a << bit
		}
	}
	for bit := 14; bit >= 8; bit-- {
		if product>>bit&1 == 1 {
			product ^= 391 << (bit - 8)
		}
	}
	return product
}

// productTable has all products by the chapter's words.
func productTable() [256][256]int {
	var out [256][256]int
	for a := range out {
		for b := range out[a] {
			out[a][b] = polynomialProduct(a, b)
		}
	}
	return out
}

func mustMul(t *testing.T, f *field.Field, a, b int) int {
	t.Helper()
	p, e := f.Mul(a, b)
	if e != api.OK {
		t.Fatalf("Mul(%d, %d): %d", a, b, int(e))
	}
	return p
}

func mustAdd(t *testing.T, a, b string) string {
	t.Helper()
	s, e := field.Add(a, b)
	if e != api.OK {
		t.Fatalf("Add(%q, %q): %d", a, b, int(e))
	}
	return s
}

// allElements is a text that has each of them once.
func allElements() string {
	out := make([]byte, 256)
	for i := range out {
		out[i] = byte(i)
	}
	return string(out)
}

// Promise 3.1.

func TestAdd(t *testing.T) {
	for _, x := range []struct {
		a, b, want string
		e          api.Code
	}{
		{"", "", "", api.OK},
		{"\x01\x02", "\x03\x04", "\x02\x06", api.OK},
		{"\x00", "\x00", "\x00", api.OK},
		{"\xff", "\x00", "\xff", api.OK},
		{"\x00", "\xff", "\xff", api.OK},
		{"\xff\x80\x7f", "\xff\x80\x7f", "\x00\x00\x00", api.OK},
		{"abc", "   ", "ABC", api.OK},
		{"a", "", "", api.ErrShape},
		{"", "a", "", api.ErrShape},
		{"ab", "a", "", api.ErrShape},
		{"a", "ab", "", api.ErrShape},
		{"\x00", "\x00\x00", "", api.ErrShape},
		{strings.Repeat("a", 300), "a", "", api.ErrShape},
	} {
		if s, e := field.Add(x.a, x.b); s != x.want || e != x.e {
			t.Errorf("Add(%q, %q) = %q %d, want %q %d", x.a, x.b, s, int(e), x.want, int(x.e))
		}
	}
}

func TestAddOfAllElements(t *testing.T) {
	all := allElements()
	for a := range 256 {
		sums := mustAdd(t, all, strings.Repeat(string([]byte{byte(a)}), 256))
		for b := range 256 {
			if int(sums[b]) != a^b {
				t.Fatalf("%d and %d: %d", b, a, sums[b])
			}
		}
	}
}

func TestAddHasNoLongestText(t *testing.T) {
	const long = 2*api.MaxBytes + 1
	s := mustAdd(t, strings.Repeat("\x05", long), strings.Repeat("\x03", long))
	if s != strings.Repeat("\x06", long) {
		t.Error("not the sums")
	}
}

// Promise 3.2.

func TestMulAndDivOfElements(t *testing.T) {
	f := field.New()
	for _, x := range []struct{ a, b, product int }{
		{2, 128, 135}, {128, 2, 135}, {3, 3, 5}, {0, 9, 0}, {9, 0, 0}, {0, 0, 0}, {1, 9, 9}, {255, 1, 255}, {1, 1, 1},
	} {
		if p := mustMul(t, f, x.a, x.b); p != x.product {
			t.Errorf("Mul(%d, %d) = %d, want %d", x.a, x.b, p, x.product)
		}
		if x.b == 0 {
			continue
		}
		if q, e := f.Div(x.product, x.b); q != x.a || e != api.OK {
			t.Errorf("Div(%d, %d) = %d %d, want %d", x.product, x.b, q, int(e), x.a)
		}
	}
}

func TestMulOfAllElements(t *testing.T) {
	f := field.New()
	for a, row := range productTable() {
		for b, want := range row {
			if p := mustMul(t, f, a, b); p != want {
				t.Fatalf("Mul(%d, %d) = %d, want %d", a, b, p, want)
			}
		}
	}
}

func TestDivOfAllElements(t *testing.T) {
	f := field.New()
	products := productTable()
	for a := range 256 {
		for b := 1; b < 256; b++ {
			q, e := f.Div(a, b)
			if e != api.OK || q < 0 || q > 255 || products[q][b] != a {
				t.Fatalf("Div(%d, %d) = %d %d", a, b, q, int(e))
			}
		}
		if q, e := f.Div(a, 0); q != 0 || e != api.ErrZero {
			t.Fatalf("Div(%d, 0) = %d %d", a, q, int(e))
		}
	}
}

func TestMulAndDivOfNoElements(t *testing.T) {
	f := field.New()
	for _, no := range noElements() {
		for _, x := range []struct{ a, b int }{{no, 1}, {1, no}, {no, 0}, {0, no}, {no, no}, {no, 255}, {255, no}} {
			if p, e := f.Mul(x.a, x.b); p != 0 || e != api.ErrRange {
				t.Errorf("Mul(%d, %d) = %d %d", x.a, x.b, p, int(e))
			}
			if q, e := f.Div(x.a, x.b); q != 0 || e != api.ErrRange {
				t.Errorf("Div(%d, %d) = %d %d", x.a, x.b, q, int(e))
			}
		}
	}
}

func TestPow(t *testing.T) {
	f := field.New()
	for _, x := range []struct {
		a, n, want int
		e          api.Code
	}{
		{2, 8, 135, api.OK},
		{2, 0, 1, api.OK},
		{2, 1, 2, api.OK},
		{2, 7, 128, api.OK},
		{2, 254, 195, api.OK},
		{2, 255, 1, api.OK},
		{2, 256, 2, api.OK},
		{3, 2, 5, api.OK},
		{0, 0, 1, api.OK},
		{0, 1, 0, api.OK},
		{0, 255, 0, api.OK},
		{0, 510, 0, api.OK},
		{0, greatest, 0, api.OK},
		{1, greatest, 1, api.OK},
		{255, 0, 1, api.OK},
		{255, 1, 255, api.OK},
		{7, -1, 0, api.ErrRange},
		{0, -1, 0, api.ErrRange},
		{7, math.MinInt, 0, api.ErrRange},
		{-1, 1, 0, api.ErrRange},
		{256, 1, 0, api.ErrRange},
		{256, 0, 0, api.ErrRange},
		{-1, -1, 0, api.ErrRange},
	} {
		if p, e := f.Pow(x.a, x.n); p != x.want || e != x.e {
			t.Errorf("Pow(%d, %d) = %d %d, want %d %d", x.a, x.n, p, int(e), x.want, int(x.e))
		}
	}
	for _, no := range noElements() {
		if p, e := f.Pow(no, 3); p != 0 || e != api.ErrRange {
			t.Errorf("Pow(%d, 3) = %d %d", no, p, int(e))
		}
	}
}

func TestPowIsSoManyFactors(t *testing.T) {
	f := field.New()
	products := productTable()
	for a := range 256 {
		want := 1
		for n := range 600 {
			if p, e := f.Pow(a, n); p != want || e != api.OK {
				t.Fatalf("Pow(%d, %d) = %d %d, want %d", a, n, p, int(e), want)
			}
			want = products[want][a]
		}
	}
}

// squared is a power by squares, for numbers of factors that nobody counts up to.
func squared(products *[256][256]int, a, n int) int {
	out := 1
	for ; n > 0; n /= 2 {
		if n%2 == 1 {
			out = products[out][a]
		}
		a = products[a][a]
	}
	return out
}

func TestPowOfManyFactors(t *testing.T) {
	f := field.New()
	products := productTable()
	for _, n := range []int{greatest, greatest - 1, greatest / 2, 1 << 62, 1 << 40, 1<<40 + 7, 1 << 32, 1<<31 - 1, 1e18, greatest - greatest%255} {
		for a := range 256 {
			want := squared(&products, a, n)
			if p, e := f.Pow(a, n); p != want || e != api.OK {
				t.Fatalf("Pow(%d, %d) = %d %d, want %d", a, n, p, int(e), want)
			}
		}
	}
}

func TestLogIsThePowerOfTwo(t *testing.T) {
	f := field.New()
	power := 1
	seen := [256]bool{}
	for n := range 255 {
		if seen[power] {
			t.Fatalf("2^%d was there already", n)
		}
		seen[power] = true
		if l, e := f.Log(power); l != n || e != api.OK {
			t.Errorf("Log(%d) = %d %d, want %d", power, l, int(e), n)
		}
		power = polynomialProduct(power, 2)
	}
}

func TestLogOfWhatHasNone(t *testing.T) {
	f := field.New()
	if l, e := f.Log(0); l != 0 || e != api.ErrZero {
		t.Errorf("Log(0) = %d %d", l, int(e))
	}
	for _, no := range noElements() {
		if l, e := f.Log(no); l != 0 || e != api.ErrRange {
			t.Errorf("Log(%d) = %d %d", no, l, int(e))
		}
	}
}

// Promise 3.3.

func TestScale(t *testing.T) {
	f := field.New()
	for _, x := range []struct {
		s    string
		c    int
		want string
		e    api.Code
	}{
		{"\x00\x01\x80", 2, "\x00\x02\x87", api.OK},
		{"", 2, "", api.OK},
		{"", 0, "", api.OK},
		{"abc", 0, "\x00\x00\x00", api.OK},
		{"\x00\x00", 255, "\x00\x00", api.OK},
		{"abc\xff", 1, "abc\xff", api.OK},
		{"\x03", 3, "\x05", api.OK},
		{"abc", -1, "", api.ErrRange},
		{"abc", 256, "", api.ErrRange},
		{"", -1, "", api.ErrRange},
		{"", 256, "", api.ErrRange},
	} {
		if s, e := f.Scale(x.s, x.c); s != x.want || e != x.e {
			t.Errorf("Scale(%q, %d) = %q %d, want %q %d", x.s, x.c, s, int(e), x.want, int(x.e))
		}
	}
	for _, no := range noElements() {
		if s, e := f.Scale("a", no); s != "" || e != api.ErrRange {
			t.Errorf("Scale by %d: %q %d", no, s, int(e))
		}
	}
}

func TestScaleOfAllElements(t *testing.T) {
	f := field.New()
	all := allElements()
	products := productTable()
	for c := range 256 {
		s, e := f.Scale(all, c)
		if e != api.OK || len(s) != len(all) {
			t.Fatalf("by %d: %d bytes, %d", c, len(s), int(e))
		}
		for a := range 256 {
			if int(s[a]) != products[a][c] {
				t.Fatalf("%d by %d: %d", a, c, s[a])
			}
		}
	}
}

func TestScaleHasNoLongestText(t *testing.T) {
	const long = 2*api.MaxBytes + 1
	s, e := field.New().Scale(strings.Repeat("\x80", long), 2)
	if e != api.OK || s != strings.Repeat("\x87", long) {
		t.Error("not the products", int(e))
	}
}

func TestMix(t *testing.T) {
	f := field.New()
	for i, x := range []struct {
		l    []string
		c    []int
		want string
		e    api.Code
	}{
		{nil, nil, "", api.OK},
		{[]string{}, nil, "", api.OK},
		{nil, []int{}, "", api.OK},
		{[]string{""}, []int{7}, "", api.OK},
		{[]string{"", "", ""}, []int{0, 1, 255}, "", api.OK},
		{[]string{"\x01\x02", "\x80\x00"}, []int{3, 2}, "\x84\x06", api.OK},
		{[]string{"abc"}, []int{1}, "abc", api.OK},
		{[]string{"abc"}, []int{0}, "\x00\x00\x00", api.OK},
		{[]string{"abc", "abc"}, []int{9, 9}, "\x00\x00\x00", api.OK},
		{[]string{"abc", "xyz"}, []int{0, 1}, "xyz", api.OK},
		{[]string{"\x01", "\x02", "\x04"}, []int{1, 1, 1}, "\x07", api.OK},
		{[]string{"\xff"}, []int{255}, string([]byte{byte(polynomialProduct(255, 255))}), api.OK},
	} {
		if s, e := f.Mix(x.l, x.c); s != x.want || e != x.e {
			t.Errorf("%d: %q %d, want %q %d", i, s, int(e), x.want, int(x.e))
		}
	}
}

func TestMixOfWhatDoesNotGoTogether(t *testing.T) {
	f := field.New()
	for i, x := range []struct {
		l []string
		c []int
		e api.Code
	}{
		{[]string{"a"}, nil, api.ErrShape},
		{nil, []int{1}, api.ErrShape},
		{[]string{"a"}, []int{1, 1}, api.ErrShape},
		{[]string{"a", "b"}, []int{1}, api.ErrShape},
		{nil, []int{256}, api.ErrShape},
		{[]string{"a"}, []int{256, 1}, api.ErrShape},
		{[]string{"a", ""}, []int{1, 1}, api.ErrShape},
		{[]string{"", "a"}, []int{1, 1}, api.ErrShape},
		{[]string{"ab", "ab", "a"}, []int{1, 1, 1}, api.ErrShape},
		{[]string{"ab", "ab", "abc"}, []int{1, 1, 1}, api.ErrShape},
		{[]string{"ab", "abc", "ab"}, []int{1, 1, 1}, api.ErrShape},
		{[]string{"ab", "a", "a"}, []int{0, 0, 0}, api.ErrShape},
		{[]string{"", "a"}, []int{1, 256}, api.ErrShape},
		{[]string{"", "a"}, []int{256, 1}, api.ErrShape},
		{[]string{"a", "a", "ab"}, []int{-1, 1, 1}, api.ErrShape},
		{[]string{"a", "ab", "a"}, []int{1, 1, -1}, api.ErrShape},
		{[]string{"a", "ab", "a", "a"}, []int{-1, 1, 1, 256}, api.ErrShape},
		{[]string{"a"}, []int{256}, api.ErrRange},
		{[]string{"a"}, []int{-1}, api.ErrRange},
		{[]string{""}, []int{-1}, api.ErrRange},
		{[]string{"a", "b", "c"}, []int{256, 1, 1}, api.ErrRange},
		{[]string{"a", "b", "c"}, []int{1, -1, 1}, api.ErrRange},
		{[]string{"a", "b", "c"}, []int{1, 1, greatest}, api.ErrRange},
	} {
		if s, e := f.Mix(x.l, x.c); s != "" || e != x.e {
			t.Errorf("%d: %q %d, want %d", i, s, int(e), int(x.e))
		}
	}
	for _, no := range noElements() {
		if s, e := f.Mix([]string{"a", "b"}, []int{1, no}); s != "" || e != api.ErrRange {
			t.Errorf("factor %d: %q %d", no, s, int(e))
		}
	}
}

func TestMixIsSumOfScaled(t *testing.T) {
	f := field.New()
	for members := 1; members <= 300; members += 13 {
		l := make([]string, members)
		c := make([]int, members)
		want := strings.Repeat("\x00", 256)
		for i := range l {
			l[i] = mustAdd(t, allElements(), strings.Repeat(string([]byte{byte(i * 7)}), 256))
			c[i] = i * 29 % 256
			scaled, _ := f.Scale(l[i], c[i])
			want = mustAdd(t, want, scaled)
		}
		if s, e := f.Mix(l, c); s != want || e != api.OK {
			t.Errorf("%d members: not the sum, %d", members, int(e))
		}
	}
}

func TestMixLeavesItsListsAsTheyAre(t *testing.T) {
	f := field.New()
	for _, factor := range []int{2, 256} {
		l := []string{"ab", "cd", "room"}
		c := []int{3, factor, 1000}
		f.Mix(l[:2], c[:2])
		if !slices.Equal(l, []string{"ab", "cd", "room"}) || !slices.Equal(c, []int{3, factor, 1000}) {
			t.Errorf("factor %d: %q %d", factor, l, c)
		}
	}
}

func TestMixKeepsNothing(t *testing.T) {
	f := field.New()
	l := []string{"\x01\x02", "\x80\x00"}
	c := []int{3, 2}
	first, _ := f.Mix(l, c)
	l[0], c[0] = "\xff\xff", 9
	if first != "\x84\x06" {
		t.Errorf("%q hangs on the list", first)
	}
	if s, e := f.Mix([]string{"\x01\x02", "\x80\x00"}, []int{3, 2}); s != first || e != api.OK {
		t.Errorf("%q %d", s, int(e))
	}
}

// Promise 3.4.

func TestSumsAndProductsDoNotHangOnOrder(t *testing.T) {
	f := field.New()
	all := allElements()
	for a := range 256 {
		same := strings.Repeat(string([]byte{byte(a)}), 256)
		if mustAdd(t, all, same) != mustAdd(t, same, all) {
			t.Fatalf("sums with %d", a)
		}
		for b := range 256 {
			if mustMul(t, f, a, b) != mustMul(t, f, b, a) {
				t.Fatalf("product of %d and %d", a, b)
			}
		}
	}
}

func TestProductsGoOverSumsAndFactors(t *testing.T) {
	f := field.New()
	var products [256][256]int
	for a := range 256 {
		for b := range 256 {
			products[a][b] = mustMul(t, f, a, b)
		}
	}
	for a := range 256 {
		for b := range 256 {
			for c := range 256 {
				if products[a][b^c] != products[a][b]^products[a][c] {
					t.Fatalf("%d times the sum of %d and %d", a, b, c)
				}
				if products[a][products[b][c]] != products[products[a][b]][c] {
					t.Fatalf("%d, %d and %d as factors", a, b, c)
				}
			}
		}
	}
}

func TestScalingGoesOverSums(t *testing.T) {
	f := field.New()
	a := allElements()
	b := a[100:] + a[:100]
	for c := range 256 {
		scaledA, _ := f.Scale(a, c)
		scaledB, _ := f.Scale(b, c)
		if s, e := f.Scale(mustAdd(t, a, b), c); s != mustAdd(t, scaledA, scaledB) || e != api.OK {
			t.Fatalf("by %d: %d", c, int(e))
		}
	}
}

func TestWhatIsDividedIsGotBack(t *testing.T) {
	f := field.New()
	for a := range 256 {
		for b := 1; b < 256; b++ {
			q, e := f.Div(a, b)
			if e != api.OK || mustMul(t, f, q, b) != a {
				t.Fatalf("%d divided by %d: %d %d", a, b, q, int(e))
			}
			if q, e := f.Div(mustMul(t, f, a, b), b); q != a || e != api.OK {
				t.Fatalf("%d times %d divided: %d %d", a, b, q, int(e))
			}
		}
	}
}

func TestWhatIsAddedTwiceIsGone(t *testing.T) {
	all := allElements()
	for a := range 256 {
		same := strings.Repeat(string([]byte{byte(a)}), 256)
		if mustAdd(t, mustAdd(t, all, same), same) != all {
			t.Fatalf("%d", a)
		}
	}
}

// Tables are made behind the first call that needs them, whichever that is,
// and by one of those that come at once.

func TestEachCallMayBeTheFirst(t *testing.T) {
	if p, e := field.New().Mul(2, 128); p != 135 || e != api.OK {
		t.Errorf("Mul: %d %d", p, int(e))
	}
	if q, e := field.New().Div(135, 2); q != 128 || e != api.OK {
		t.Errorf("Div: %d %d", q, int(e))
	}
	if p, e := field.New().Pow(2, 8); p != 135 || e != api.OK {
		t.Errorf("Pow: %d %d", p, int(e))
	}
	if l, e := field.New().Log(135); l != 8 || e != api.OK {
		t.Errorf("Log: %d %d", l, int(e))
	}
	if s, e := field.New().Scale("\x80", 2); s != "\x87" || e != api.OK {
		t.Errorf("Scale: %q %d", s, int(e))
	}
	if s, e := field.New().Mix([]string{"\x80"}, []int{2}); s != "\x87" || e != api.OK {
		t.Errorf("Mix: %q %d", s, int(e))
	}
}

func TestAnErrorAheadChangesNothing(t *testing.T) {
	f := field.New()
	f.Mul(256, 1)
	f.Div(1, 0)
	f.Pow(1, -1)
	f.Log(0)
	f.Scale("a", 256)
	f.Mix([]string{"a"}, nil)
	if p := mustMul(t, f, 2, 128); p != 135 {
		t.Error(p)
	}
}

func TestManyAskAtOnce(t *testing.T) {
	products := productTable()
	for range 200 {
		f := field.New()
		wrong := make([]int, 16)
		begin := make(chan int)
		var all sync.WaitGroup
		for i := range wrong {
			all.Add(1)
			go func() {
				defer all.Done()
				<-begin
				for a := 255; a >= 0; a-- {
					if p, e := f.Mul(a, 255-i); p != products[a][255-i] || e != api.OK {
						wrong[i]++
					}
				}
			}()
		}
		close(begin)
		all.Wait()
		if slices.Max(wrong) > 0 {
			t.Fatal(wrong)
		}
	}
}
