package fixed

import (
	"math"
	"math/big"
	"math/rand/v2"
	"strings"
	"testing"

	"intermede/api"
)

var nines = strings.Repeat("9", 31)

func TestValid(t *testing.T) {
	for s, want := range map[string]bool{
		"0": true, "0.0": true, "1.50": true, "-0.01": true, "10": true, nines: true, "0." + nines: true, "0." + strings.Repeat("0", 31): true,
		"": false, "-": false, ".": false, "-0": false, "-0.00": false, "00": false, "01": false, "1.": false, ".5": false, "+1": false, "1d": false, "1.2.3": false, " 1": false,
		nines + "9": false, "1." + nines: false, "0." + nines + "9": false, "--1": false, "1e3": false, "\x00": false,
	} {
		if Valid(s) != want {
			t.Errorf("%q: %v", s, !want)
		}
	}
}

func TestRead(t *testing.T) {
	for _, c := range []struct {
		s, want string
		e       api.Errno
	}{
		{".5", "0.5", 0}, {"5.", "5", 0}, {"-0.0d", "0.0", 0}, {"+007.50D", "7.50", 0}, {"-12.5", "-12.5", 0}, {strings.Repeat("0", 100) + "1", "1", 0}, {"0." + strings.Repeat("0", 31), "0." + strings.Repeat("0", 31), 0},
		{"", "", api.ErrSyntax}, {".", "", api.ErrSyntax}, {"d", "", api.ErrSyntax}, {"+", "", api.ErrSyntax}, {"+-1", "", api.ErrSyntax}, {"1dd", "", api.ErrSyntax}, {"1.2.3", "", api.ErrSyntax}, {" 1", "", api.ErrSyntax}, {nines + "9x", "", api.ErrSyntax},
		{nines + "9", "", api.ErrLimit}, {nines + ".0", "", api.ErrLimit}, {"0." + strings.Repeat("0", 32), "", api.ErrLimit}, {"1." + nines, "", api.ErrLimit},
	} {
		if s, e := Read(c.s); s != c.want || e != c.e {
			t.Errorf("%q: %q %d", c.s, s, e)
		}
	}
}

func TestSmall(t *testing.T) {
	two := func(f func(string, string) (string, api.Errno)) func(a, b string) string {
		return func(a, b string) string { s, e := f(a, b); return s + strings.Repeat("!", int(e)) }
	}
	add, sub, mul, rem := two(Add), two(Sub), two(Mul), two(Rem)
	for _, c := range [][2]string{
		{add("1.20", "0.005"), "1.205"}, {add("1.25", "0.5"), "1.75"}, {sub("1", "1.00"), "0.00"}, {add(nines, "1"), "!!!!"}, {add(nines, "0.9"), nines}, {add("-"+nines, "-0.9"), "-" + nines},
		{add("999999999999999999999999999999.9", "0.19"), "1000000000000000000000000000000"},
		{mul("1.25", "0.5"), "0.625"}, {mul("-0.1", "0.1"), "-0.01"}, {mul("0.0000000000000001", "0.0000000000000001"), "0." + strings.Repeat("0", 31)}, {mul("-0.0", "5"), "!!"}, {mul(nines, "10"), "!!!!"}, {mul("1111111111111111.1", "1111111111111111.1"), "1234567901234567876543209876543"},
		{rem("-7", "2"), "-1"}, {rem("7.5", "-2"), "1.5"}, {rem("6", "2.00"), "0.00"}, {rem("1", "0.0"), "!!!!!!!"}, {rem("x", "0"), "!!"}, {rem(nines, "0.0000000000000000000000000000007"), "0.0000000000000000000000000000006"},
	} {
		if c[0] != c[1] {
			t.Errorf("%q instead of %q", c[0], c[1])
		}
	}
	for _, c := range []struct {
		a, b  string
		scale int
		want  string
		e     api.Errno
	}{{"1", "3", 3, "0.333", 0}, {"-7", "2", 0, "-3", 0}, {"2", "-3", 2, "-0.66", 0}, {"-1", "3", 0, "0", 0}, {"1", "0.00", 3, "", api.ErrRange}, {"1", "3", 32, "", api.ErrRange}, {"1", "3", -1, "", api.ErrRange}, {"1", "y", -1, "", api.ErrSyntax}, {nines, "0.1", 0, "", api.ErrLimit}, {"0.0000000000000000000000000000001", nines, 0, "0", 0}, {"12", "0.5", 31, "", api.ErrLimit}} {
		if s, e := Div(c.a, c.b, c.scale); s != c.want || e != c.e {
			t.Errorf("%s / %s: %q %d", c.a, c.b, s, e)
		}
	}
}

func TestOne(t *testing.T) {
	if s, e := Of(-5, 2); s != "-0.05" || e != 0 {
		t.Error(s)
	}
	if s, e := Of(math.MinInt, 0); s != "-9223372036854775808" || e != 0 {
		t.Error(s)
	}
	if _, e := Of(1, 32); e != api.ErrRange {
		t.Error(e)
	}
	if n, e := Int("-7.99"); n != -7 || e != 0 {
		t.Error(n)
	}
	if n, e := Int("-9223372036854775808.5"); n != math.MinInt || e != 0 {
		t.Error(n, e)
	}
	if n, e := Int("9223372036854775808"); n != 0 || e != api.ErrLimit {
		t.Error(n, e)
	}
	if n, e := Digits("0.00"); n != 1 || e != 0 {
		t.Error(n)
	}
	if n, e := Digits("-0.0120"); n != 3 || e != 0 {
		t.Error(n)
	}
	if n, e := Scale("-0.0120"); n != 4 || e != 0 {
		t.Error(n)
	}
	for i, e := range []api.Errno{err(Scale("a")), err(Digits("")), err(Int("1.")), err(Compare("1", "b"))} {
		if e != api.ErrSyntax {
			t.Error(i, e)
		}
	}
	if n, e := Compare("1.50", "1.5"); n != 0 || e != 0 {
		t.Error(n)
	}
	if n, e := Compare("-2", "-1.99"); n != -1 || e != 0 {
		t.Error(n)
	}
	if n, e := Compare(nines, "-"+nines); n != 1 || e != 0 {
		t.Error(n)
	}
	for _, c := range []struct {
		f    func(string, int) (string, api.Errno)
		a    string
		n    int
		want string
		e    api.Errno
	}{{Cut, "-1.29", 1, "-1.2", 0}, {Cut, "-0.9", 0, "0", 0}, {Cut, "1", 2, "1.00", 0}, {Cut, nines, 1, "", api.ErrLimit}, {Cut, "1", 32, "", api.ErrRange}, {Cut, "x", 32, "", api.ErrSyntax}, {Round, "-1.25", 1, "-1.3", 0}, {Round, "1.249", 1, "1.2", 0}, {Round, "0.5", 0, "1", 0}, {Round, "-0.4", 0, "0", 0}, {Round, "9.99", 1, "10.0", 0}, {Round, "2", 1, "2.0", 0}} {
		if s, e := c.f(c.a, c.n); s != c.want || e != c.e {
			t.Errorf("%s: %q %d", c.a, s, e)
		}
	}
	for _, c := range [][2]string{{"1.500", "1.5"}, {"100", "100"}, {"0.00", "0"}, {"-10.10", "-10.1"}} {
		if s, e := Trim(c[0]); s != c[1] || e != 0 {
			t.Error(c, s)
		}
	}
	if s, _ := Neg("0.00"); s != "0.00" {
		t.Error(s)
	}
	if s, _ := Neg("-1.0"); s != "1.0" {
		t.Error(s)
	}
	if s, _ := Abs("-1.0"); s != "1.0" {
		t.Error(s)
	}
}

func err[T any](_ T, e api.Errno) api.Errno { return e }

func TestFits(t *testing.T) {
	for _, c := range []struct {
		a    string
		d, s int
		want bool
	}{{"0.5", 1, 1, true}, {"1.5", 1, 1, false}, {"1.5", 2, 1, true}, {"1.50", 3, 1, false}, {"-99", 2, 0, true}, {"100", 2, 0, false}, {"0", 0, 0, false}, {"0", 32, 0, false}, {"0.0", 1, 2, false}, {"x", 2, 0, false}, {"0", 1, -1, false}} {
		if Fits(c.a, c.d, c.s) != c.want {
			t.Error(c)
		}
	}
	if s, e := To("12.345", 4, 2); s != "12.34" || e != 0 {
		t.Error(s, e)
	}
	if _, e := To("123.4", 4, 2); e != api.ErrLimit {
		t.Error(e)
	}
	if _, e := To("1", 4, 5); e != api.ErrRange {
		t.Error(e)
	}
}

func TestPack(t *testing.T) {
	if s, e := Pack("-12.5", 4, 1); s != "\x00\x12\x5d" || e != 0 {
		t.Errorf("%q", s)
	}
	if s, e := Pack("-0.4", 1, 0); s != "\x0c" || e != 0 {
		t.Errorf("%q", s)
	}
	if _, e := Pack("10", 1, 0); e != api.ErrLimit {
		t.Error(e)
	}
	if n, e := Length(31); n != 16 || e != 0 {
		t.Error(n)
	}
	if n, e := Length(4); n != 3 || e != 0 {
		t.Error(n)
	}
	if _, e := Length(0); e != api.ErrRange {
		t.Error(e)
	}
	for _, c := range []struct {
		s    string
		d, n int
		want string
		at   int
		e    api.Errno
	}{
		{"\x00\x12\x5d", 4, 1, "-12.5", 0, 0}, {"\x1c", 1, 1, "0.1", 0, 0}, {"\x10\x12\x5d", 4, 1, "", 0, api.ErrData}, {"\x0a\x12\x5d", 4, 1, "", 0, api.ErrData}, {"\x00\xa2\x5d", 4, 1, "", 1, api.ErrData}, {"\x00\x2f\x5d", 4, 1, "", 1, api.ErrData},
		{"\x00\x12\xad", 4, 1, "", 2, api.ErrData}, {"\x00\x12\x5b", 4, 1, "", 2, api.ErrData}, {"\x00\x12\x5e", 4, 1, "", 2, api.ErrData}, {"\x00\x00\x0d", 4, 1, "", 2, api.ErrData}, {"\x00\x00\x0c", 4, 1, "0.0", 0, 0},
		{"", 4, 1, "", 0, api.ErrSize}, {"", 4, 5, "", 0, api.ErrRange}, {"\x00\x00\x00\x0c", 4, 1, "", 0, api.ErrSize},
	} {
		if s, at, e := Unpack(c.s, c.d, c.n); s != c.want || at != c.at || e != c.e {
			t.Errorf("%q: %q %d %d", c.s, s, at, e)
		}
	}
}

func random(r *rand.Rand) string {
	n := 1 + r.IntN(31)
	s := strings.TrimLeft(strings.Map(func(rune) rune { return rune('0' + r.IntN(10)) }, strings.Repeat("x", n)), "0")
	scale := r.IntN(32)
	if s == "" {
		s = "0"
	}
	below := s != "0" && r.IntN(2) == 0
	if len(s) <= scale {
		s = strings.Repeat("0", scale+1-len(s)) + s
	}
	if scale > 0 {
		s = s[:len(s)-scale] + "." + s[len(s)-scale:]
	}
	if below {
		s = "-" + s
	}
	return s
}

func rat(s string) *big.Rat { r, _ := new(big.Rat).SetString(s); return r }

// cutRat writes a number cut to a scale, and tells how many digits its whole number has.
func cutRat(r *big.Rat, scale int) (string, int) {
	p := new(big.Int).Exp(big.NewInt(10), big.NewInt(int64(scale)), nil)
	u := new(big.Int).Quo(new(big.Int).Mul(r.Num(), p), r.Denom())
	s := new(big.Int).Abs(u).String()
	n := len(s)
	for len(s) <= scale {
		s = "0" + s
	}
	if scale > 0 {
		s = s[:len(s)-scale] + "." + s[len(s)-scale:]
	}
	if u.Sign() < 0 {
		s = "-" + s
	}
	return s, n
}

// most is a number with as many places behind the point, up to scale, as a decimal may have.
func most(r *big.Rat, scale int) string {
	for s := min(scale, 31); s >= 0; s-- {
		if text, n := cutRat(r, s); n <= 31 {
			return text
		}
	}
	return ""
}

func TestExact(t *testing.T) {
	rnd := rand.New(rand.NewPCG(1, 1))
	for range 3000 {
		a, b := random(rnd), random(rnd)
		x, y := rat(a), rat(b)
		sa, _ := Scale(a)
		sb, _ := Scale(b)
		ask := func(op, got string, r *big.Rat, scale int) {
			if want := most(r, scale); got != want {
				t.Fatalf("%s %s %s: %q instead of %q", a, op, b, got, want)
			}
		}
		if s, e := Read(a); s != a || e != 0 || !Valid(a) {
			t.Fatal(a, s, e)
		}
		s, _ := Add(a, b)
		ask("+", s, new(big.Rat).Add(x, y), max(sa, sb))
		s2, _ := Add(b, a)
		if s != s2 {
			t.Fatal("order")
		}
		s, _ = Sub(a, b)
		ask("-", s, new(big.Rat).Sub(x, y), max(sa, sb))
		s, _ = Mul(a, b)
		ask("*", s, new(big.Rat).Mul(x, y), sa+sb)
		if s2, _ := Mul(b, a); s != s2 {
			t.Fatal("order")
		}
		if n, _ := Compare(a, b); n != x.Cmp(y) {
			t.Fatal("compare", a, b)
		}
		division(t, a, b, rnd.IntN(32))
		places(t, a, rnd.IntN(32))
		packing(t, a, 1+rnd.IntN(31), rnd.IntN(32))
	}
}

func division(t *testing.T, a, b string, scale int) {
	x, y := rat(a), rat(b)
	s, e := Div(a, b, scale)
	r, e2 := Rem(a, b)
	if y.Sign() == 0 {
		if e != api.ErrRange || e2 != api.ErrRange {
			t.Fatal(e, e2)
		}
		return
	}
	q := new(big.Rat).Quo(x, y)
	want, n := cutRat(q, scale)
	if n > 31 && e != api.ErrLimit || n <= 31 && s != want {
		t.Fatalf("%s / %s to %d: %q instead of %q", a, b, scale, s, want)
	}
	whole, _ := cutRat(q, 0)
	left := new(big.Rat).Sub(x, new(big.Rat).Mul(y, rat(whole)))
	sa, _ := Scale(a)
	sb, _ := Scale(b)
	if want, _ := cutRat(left, max(sa, sb)); r != want || e2 != 0 {
		t.Fatalf("%s rem %s: %q instead of %q", a, b, r, want)
	}
}

func places(t *testing.T, a string, scale int) {
	s, e := Cut(a, scale)
	want, n := cutRat(rat(a), scale)
	if n > 31 && e != api.ErrLimit || n <= 31 && s != want {
		t.Fatal("cut", a, scale, s)
	}
	if e == 0 {
		if again, _ := Cut(s, scale); again != s {
			t.Fatal("cut twice", s, again)
		}
	}
	half := new(big.Rat).SetFrac(big.NewInt(int64(rat(a).Sign())), new(big.Int).Mul(big.NewInt(2), new(big.Int).Exp(big.NewInt(10), big.NewInt(int64(scale)), nil)))
	want, n = cutRat(new(big.Rat).Add(rat(a), half), scale)
	if s, e := Round(a, scale); n > 31 && e != api.ErrLimit || n <= 31 && s != want {
		t.Fatal("round", a, scale, s, want)
	}
}

func packing(t *testing.T, a string, digits, scale int) {
	p, e := Pack(a, digits, scale)
	if e != 0 {
		if _, e2 := To(a, digits, scale); e2 != e {
			t.Fatal(e, e2)
		}
		return
	}
	u, at, e := Unpack(p, digits, scale)
	if cut, _ := Cut(a, scale); u != cut || at != 0 || e != 0 || !Fits(u, digits, scale) {
		t.Fatal(a, digits, scale, u, e)
	}
	if q, _ := Pack(u, digits, scale); q != p {
		t.Fatal("pack again")
	}
}
