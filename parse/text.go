package parse

import "iter"

const word = 8 // bytes of a length; texts fill a multiple of it

// cutter cuts bytes into texts, in whatever pieces they come.
type cutter struct {
	begun []byte // of the next text what came of it, its length ahead
}

// texts goes, once, through the texts that s makes whole; what comes behind them
// is begun. most tells, asked ahead of each, how many bytes it may have; below 0
// not one byte may come. A false is a text that may not be, and the last.
func (c *cutter) texts(s string, most func() int) iter.Seq2[string, bool] {
	return func(yield func(string, bool) bool) {
		for rest := s; rest != ""; {
			limit := most()
			if limit < 0 {
				yield("", false)
				return
			}
			if rest = c.begin(rest, word); len(c.begun) < word {
				return
			}
			n := length(c.begun)
			if n > uint64(limit) {
				yield("", false)
				return
			}
			size := whole(int(n))
			if rest = c.begin(rest, size); len(c.begun) < size {
				return
			}
			text, ok := c.end(int(n))
			if !yield(text, ok) || !ok {
				return
			}
		}
	}
}

// begin takes bytes of s until there are n of the next text, and tells the rest.
func (c *cutter) begin(s string, n int) string {
	k := max(0, min(n-len(c.begun), len(s)))
	c.begun = append(c.begun, s[:k]...)
	return s[k:]
}

// end is the text of n bytes that is begun and whole; false: what fills it is not
// all 0. None is begun any more.
func (c *cutter) end(n int) (string, bool) {
	text := string(c.begun[word : word+n])
	for _, b := range c.begun[word+n:] {
		if b != 0 {
			return "", false
		}
	}
	c.begun = c.begun[:0]
	return text, true
}

// length is the number in the first bytes of b, the lowest first. It may be more
// than an int holds.
func length(b []byte) uint64 {
	n := uint64(0)
	for i := range word {
		n |= uint64(b[i]) << (8 * i)
	}
	return n
}

// whole is how many bytes a text of n bytes has with its length and what fills it.
func whole(n int) int { return word + (n+word-1)/word*word }
