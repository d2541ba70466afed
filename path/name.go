package path

// text is a kind of what has letters.
type text interface {
	~string | ~[]byte
}

// MayName tells whether s may be a name: from 1 to 211 of its letters, of which
// the first is no point.
func MayName(s string) bool {
	// The length is asked first, lest all letters of a long text be looked at.
	return s != "" && len(s) <= maxName && s[0] != '.' && all(s, fits)
}

// all tells whether each letter of s is so.
func all[T text](s T, so func(byte) bool) bool {
	for i := range len(s) {
		if !so(s[i]) {
			return false
		}
	}
	return true
}

// fits: c may be in a name.
func fits(c byte) bool {
	switch c {
	case '+', '-', '.', '_', '?', '=':
		return true
	}
	return 'a' <= c && c <= 'z' || 'A' <= c && c <= 'Z' || '0' <= c && c <= '9'
}
