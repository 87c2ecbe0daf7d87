package fixed

import (
	"iter"
	"strings"

	"intermede/api"
)

// maxScale is the greatest scale of a decimal.
const maxScale = 31

// room is enough for all digits in between: a dividend has at most 31, and 62 zeros behind them.
const room = 128

// digits are those of a whole number, the least place first.
type digits [room]uint8

// number is a decimal, or what comes up while one is reckoned.
type number struct {
	digits
	scale int
	below bool
}

// pairs goes through the digits of two whole numbers, from the least places on.
func pairs(a, b *digits) iter.Seq2[int, [2]uint8] {
	return func(yield func(int, [2]uint8) bool) {
		for i := range room {
			if !yield(i, [2]uint8{a[i], b[i]}) {
				return
			}
		}
	}
}

func (d *digits) zero() bool { return *d == digits{} }

// length tells how many digits there are, 1 for zero.
func (d *digits) length() int {
	for i := room - 1; i > 0; i-- {
		if d[i] != 0 {
			return i + 1
		}
	}
	return 1
}

func compare(a, b *digits) int {
	order := 0
	for _, pair := range pairs(a, b) {
		if pair[0] < pair[1] {
			order = -1
		} else if pair[0] > pair[1] {
			order = 1
		}
	}
	return order
}

func sum(a, b *digits) digits {
	var out digits
	carry := uint8(0)
	for i, pair := range pairs(a, b) {
		n := pair[0] + pair[1] + carry
		out[i], carry = n%10, n/10
	}
	return out
}

// difference takes b from a, which is not less.
func difference(a, b *digits) digits {
	var out digits
	owed := uint8(0)
	for i, pair := range pairs(a, b) {
		n := 10 + pair[0] - pair[1] - owed
		out[i], owed = n%10, 1-n/10
	}
	return out
}

func product(a, b *digits) digits {
	var out digits
	for i := range a.length() {
		carry := 0
		for j := 0; i+j < room; j++ {
			n := int(out[i+j]) + int(a[i])*int(b[j]) + carry
			out[i+j], carry = uint8(n%10), n/10
		}
	}
	return out
}

// shifted moves digits by so many places: up with zeros behind them, or down, leaving digits out.
func shifted(d digits, places int) digits {
	var out digits
	for i := range room {
		if from := i - places; from >= 0 && from < room {
			out[i] = d[from]
		}
	}
	return out
}

// quotient divides by b, which is not zero: the whole quotient, and what is left.
func quotient(a, b *digits) (digits, digits) {
	var out, rest digits
	for i := a.length() - 1; i >= 0; i-- {
		rest = shifted(rest, 1)
		rest[0] = a[i]
		for compare(&rest, b) >= 0 {
			rest = difference(&rest, b)
			out[i]++
		}
	}
	return out, rest
}

// parse reads the text of a decimal.
func parse(s string) (number, bool) {
	var a number
	s, a.below = strings.CutPrefix(s, "-")
	whole, behind, point := strings.Cut(s, ".")
	if !all(whole) || whole == "" || whole[0] == '0' && whole != "0" {
		return number{}, false
	}
	if !all(behind) || point && behind == "" || len(behind) > maxScale {
		return number{}, false
	}
	u := strings.TrimLeft(whole+behind, "0")
	if len(u) > api.MaxDigits || a.below && u == "" {
		return number{}, false
	}
	a.digits, a.scale = ofText(u), len(behind)
	return a, true
}

// all reports whether there is nothing but digits in a text.
func all(s string) bool {
	return strings.Trim(s, "0123456789") == ""
}

// ofText reads digits, at most as many as there is room for.
func ofText(s string) digits {
	var d digits
	for i := range len(s) {
		d[i] = s[len(s)-1-i] - '0'
	}
	return d
}

// text writes a decimal: at least one digit stands before the point, and zero has no sign.
func (a number) text() string {
	var b strings.Builder
	if a.below && !a.zero() {
		b.WriteByte('-')
	}
	for i := max(a.length(), a.scale+1) - 1; i >= 0; i-- {
		b.WriteByte('0' + a.digits[i])
		if i == a.scale && i > 0 {
			b.WriteByte('.')
		}
	}
	return b.String()
}

// to gives a number another scale: digits are left out, or zeros are added.
func (a number) to(scale int) number {
	a.digits, a.scale = shifted(a.digits, scale-a.scale), scale
	return a
}

// told tells a number, if it is a decimal.
func (a number) told() (string, api.Errno) {
	if a.length() > api.MaxDigits || a.scale > maxScale {
		return "", api.ErrLimit
	}
	return a.text(), api.OK
}

// near tells a number with as many digits behind the point as a decimal may have.
func (a number) near() (string, api.Errno) {
	leave := func(n int) number { return a.to(a.scale - n) }
	n := max(a.scale-maxScale, a.length()-api.MaxDigits, 0)
	if n > a.scale {
		return "", api.ErrLimit
	}
	return leave(n).told()
}

// level gives two numbers one scale.
func level(a, b number) (number, number) {
	scale := max(a.scale, b.scale)
	return a.to(scale), b.to(scale)
}

func (a number) plus(b number) number {
	a, b = level(a, b)
	if a.below == b.below {
		a.digits = sum(&a.digits, &b.digits)
		return a
	}
	if compare(&a.digits, &b.digits) < 0 {
		a, b = b, a
	}
	a.digits = difference(&a.digits, &b.digits)
	return a
}

func (a number) minus(b number) number {
	b.below = !b.below
	return a.plus(b)
}

func (a number) times(b number) number {
	return number{product(&a.digits, &b.digits), a.scale + b.scale, a.below != b.below}
}

// by divides by a number that is not zero, and cuts the quotient to a scale.
func (a number) by(b number, scale int) number {
	places := scale + b.scale - a.scale
	upper, lower := shifted(a.digits, max(places, 0)), shifted(b.digits, max(-places, 0))
	whole, _ := quotient(&upper, &lower)
	return number{whole, scale, a.below != b.below}
}

// rest is what is left of a number behind the whole quotient.
func (a number) rest(b number) number {
	a, b = level(a, b)
	_, a.digits = quotient(&a.digits, &b.digits)
	return a
}

// rounded goes to the nearest number of a scale, from the middle away from 0.
func (a number) rounded(scale int) number {
	out := a.to(scale)
	if left := a.scale - scale; left > 0 && a.digits[left-1] >= 5 {
		one := digits{1}
		out.digits = sum(&out.digits, &one)
	}
	return out
}

// fits reports whether a number has a scale, and at most so many digits.
func (a number) fits(most, scale int) bool {
	return a.scale == scale && (a.length() <= most)
}
