package fixed

import "intermede/api"

// The half bytes that stand for signs.
const (
	halfPlus  = 12
	halfMinus = 13
)

func isForm(digits, scale int) bool {
	return digits >= 1 && digits <= api.MaxDigits && scale >= 0 && scale <= digits
}

// Fits reports whether a decimal has a scale, and at most so many digits.
func Fits(a string, digits, scale int) bool {
	n, ok := parse(a)
	return ok && isForm(digits, scale) && n.fits(digits, scale)
}

// cutTo is a decimal that is cut to a scale and fits then.
func cutTo(a string, digits, scale int) (number, api.Errno) {
	n, ok := parse(a)
	if !ok {
		return number{}, api.ErrSyntax
	}
	if !isForm(digits, scale) {
		return number{}, api.ErrRange
	}
	n = n.to(scale)
	if !n.fits(digits, scale) {
		return number{}, api.ErrLimit
	}
	return n, api.OK
}

// To cuts a decimal to a scale, and returns it if it fits.
func To(a string, digits, scale int) (string, api.Errno) {
	n, e := cutTo(a, digits, scale)
	if e != api.OK {
		return "", e
	}
	return n.text(), api.OK
}

// Length returns how many bytes a packed decimal has.
func Length(digits int) (int, api.Errno) {
	if !isForm(digits, 0) {
		return 0, api.ErrRange
	}
	return digits/2 + 1, api.OK
}

// Pack returns the packed bytes of a decimal that is cut to a scale.
func Pack(a string, digits, scale int) (string, api.Errno) {
	n, e := cutTo(a, digits, scale)
	if e != api.OK {
		return "", e
	}
	sign := byte(halfPlus)
	if n.below && !n.zero() {
		sign = halfMinus
	}
	// The digits are in places behind the sign, which stands in the least half byte.
	packed := make([]byte, digits/2+1)
	packed[digits/2] = sign
	for i := range digits {
		half := i + 1
		packed[digits/2-half/2] |= n.digits[i] << (4 * (half % 2))
	}
	return string(packed), api.OK
}

// Unpack reads packed bytes; at is the index of the first wrong one.
func Unpack(bytes string, digits, scale int) (a string, at int, e api.Errno) {
	if !isForm(digits, scale) {
		return "", 0, api.ErrRange
	}
	if len(bytes) != digits/2+1 {
		return "", 0, api.ErrSize
	}
	n := number{scale: scale}
	for i := range len(bytes) {
		upper, lower := bytes[i]>>4, bytes[i]&15
		place := 2 * (digits/2 - i) // of the upper digit
		if upper > 9 || i == 0 && digits%2 == 0 && upper != 0 {
			return "", i, api.ErrData
		}
		n.digits[place] = upper
		if place > 0 {
			if lower > 9 {
				return "", i, api.ErrData
			}
			n.digits[place-1] = lower
			continue
		}
		n.below = lower == halfMinus
		if lower != halfPlus && lower != halfMinus || n.below && n.zero() {
			return "", i, api.ErrData
		}
	}
	return n.text(), 0, api.OK
}
